/- Which of two names comes first. -/
import Derived.Test.YtljlkhaolfihjaaGreatDoorPgJ
import Derived.Test.YtljlkhaolfihjaaGreatDoorPgE
import Derived.Test.YtljlkhaolfihjaaGreatDoorKitE
import Derived.Test.YtljlkhaolfihjaaGreatDoorPgSq
import Derived.Test.YtljlkhaolfihjaaGreatDoorPzC
import Derived.Test.YtljlkhaolfihjaaGreatDoorPgZ
import Derived.Test.YtljlkhaolfihjaaGreatDoorPgRe
import Derived.Test.YtljlkhaolfihjaaGreatDoorPgX
import Derived.Test.YtljlkhaolfihjaaGreatDoorPzD
import Derived.Test.YtljlkhaolfihjaaGreatDoorKitB
namespace Go.Proofs.YtljlkhaolfihjaaGreatDoor
open Go.RowKit Go.Shelf

set_option maxRecDepth 100000 in
set_option maxHeartbeats 800000 in
theorem Compare_ok (a b : ByteArray) (w : World) (hv : AllOk [a, b]) :
    Calls Tryz.prog 14 #[.string a, .string b] w fun e w' => e = .returned (.tuple #[.int .i64 (cmpSpell (spellOf a) (spellOf b)), .int .i64 0]) ∧ Below w.heap.size w w' := by
  obtain ⟨v, hvv⟩ : ∃ v, cmpSpell (spellOf a) (spellOf b) = v := ⟨_, rfl⟩
  have q := fun W => compare_any (spellOf a) (spellOf b) W
  rw [hvv] at q ⊢
  unfold spellOf at q
  have HQ := Lib.hid q
  have HV := Lib.hid hv
  clear hv hvv q
  go_enter Tryz.func14, Tryz.ntmps14
  go_wp2_with fail
  have ca := cells_lit w #[.string a, .string b] 9 2 rfl (by unfold maxLen; omega)
  have hba : Below w.heap.size w (w.alloc (.cells #[.string a, .string b] 9)) := (Below.refl _ w).alloc (Nat.le_refl _) _
  have q2 := readAll_ok (some ⟨w.heap.size, 0, none⟩) 2 2 [a, b] _ rfl (by omega) HV.out ca
  have Q2 := Lib.hid q2
  clear q2 ca
  generalize w.alloc (.cells #[.string a, .string b] 9) = W2 at *
  refine Q2.out.mono ?_
  rintro e w3 ⟨o, rfl, ho, hb3⟩
  obtain ⟨g, cap, rfl⟩ := own_head ho
  have hb3' := hba.trans (hb3.mono hba.size)
  have cs := cells_own ho
  obtain ⟨b0, o0, e0, s0⟩ := cs 0 (by simp [spellCells])
  obtain ⟨b1, o1, e1, s1⟩ := cs 1 (by simp [spellCells])
  obtain ⟨b2, o2, e2, s2⟩ := cs 2 (by simp [spellCells])
  obtain ⟨b3, o3, e3, s3⟩ := cs 3 (by simp [spellCells])
  cases e0
  cases e1
  cases e2
  cases e3
  have s0' : w3.cell? ⟨g, 0, none⟩ = some (.string (keyS a)) := s0
  have s1' : w3.cell? ⟨g, 1, none⟩ = some (.int .i64 (alphaN a.data.toList)) := s1
  have s2' : w3.cell? ⟨g, 2, none⟩ = some (.string (keyS b)) := s2
  have s3' : w3.cell? ⟨g, 3, none⟩ = some (.int .i64 (alphaN b.data.toList)) := s3
  have q := HQ.out
  clear HQ
  generalize keyS a = A at *
  generalize keyS b = B at *
  generalize alphaN a.data.toList = p at *
  generalize alphaN b.data.toList = q' at *
  clear Q2 hb3 cs ho hba s0 s1 s2 s3
  obtain ⟨T, gg, hg0, hgb, h0, h1, h2, h3, hT⟩ : ∃ (T : Type) (g' : T → World), (∃ x, w3.drew = g' x) ∧ (∀ x, Below w3.heap.size w3 (g' x)) ∧ (∀ x, (g' x).cell? ⟨g, 0, none⟩ = some (.string A)) ∧ (∀ x, (g' x).cell? ⟨g, 1, none⟩ = some (.int .i64 p)) ∧ (∀ x, (g' x).cell? ⟨g, 2, none⟩ = some (.string B)) ∧ (∀ x, (g' x).cell? ⟨g, 3, none⟩ = some (.int .i64 q')) ∧
      (∀ x, Calls Tryz.prog 48 #[.agg #[.string A, .int .i64 p], .agg #[.string B, .int .i64 q']] (g' x) fun e w' => e = .returned (.int .i64 v) ∧ ∃ y, w' = g' y) :=
    ⟨Since w3, Subtype.val, Since.here w3, fun x => x.property, fun x => x.cell s0', fun x => x.cell s1', fun x => x.cell s2', fun x => x.cell s3', fun x => x.calls ((q _).mono fun _ _ h => ⟨h.1, h.2.below⟩)⟩
  have hTne : Nonempty T := let ⟨x, _⟩ := hg0; ⟨x⟩
  have HT1 := Lib.hid hT
  clear hT s0' s1' s2' s3' q
  go_wp2_with fail
  refine wp_region_class gg hg0 (by kernel_rfl) (by kernel_rfl) ?_
  repeat (go_big_quiet_step (fail))
  go_big_quiet_step (exact HT1.out _)
  repeat (go_big_quiet_step (fail))
  refine wpQuiet_nil ?_
  rintro _ ⟨xq, rfl⟩
  have t5 := hb3'.trans ((hgb xq).mono hb3'.size)
  clear hgb hg0
  go_wp2_with fail
  go_ret2
  exact ⟨rfl, t5⟩
end Go.Proofs.YtljlkhaolfihjaaGreatDoor

/- Which of any two strings comes first, or their error. -/
namespace Go.Proofs.YtljlkhaolfihjaaGreatDoor
open Go.RowKit Go.Shelf

theorem compare_eq {a b : ByteArray} (h : pairErr a.data.toList b.data.toList = 0) : compareB a.data.toList b.data.toList = cmpSpell (spellOf a) (spellOf b) := by
  unfold compareB
  rw [if_pos h, cmp_before, cmp_before, cmpS_anti (spellOf a) (spellOf b)]
  rcases cmpS_vals (spellOf a) (spellOf b) with h | h | h <;> rw [h] <;> rfl
theorem pair_first (a b : ByteArray) : firstErr [a, b] = pairErr a.data.toList b.data.toList := by
  unfold firstErr pairErr
  split
  · unfold firstErr
    split
    · rename_i h; rw [h]; rfl
    · rfl
  · rfl

set_option maxRecDepth 100000 in
set_option maxHeartbeats 800000 in
theorem pCompare_any (a b : ByteArray) (w : World) (hL : LaidErr w) :
    Calls Tryz.prog 14 #[.string a, .string b] w (ComparePost a b w) := by
  unfold ComparePost
  by_cases hp : pairErr a.data.toList b.data.toList = 0
  · have h1 : Sp.check a.data.toList = 0 := by
      unfold pairErr at hp
      split at hp
      · rename_i h; exact h
      · rename_i h; exact absurd hp h
    have h2 : Sp.check b.data.toList = 0 := by
      unfold pairErr at hp
      rwa [if_pos h1] at hp
    rw [compare_eq hp, hp]
    exact Compare_ok a b w fun s hs => by
      simp at hs
      rcases hs with rfl | rfl
      · exact h1
      · exact h2
  · have e0 : compareB a.data.toList b.data.toList = 0 := by unfold compareB; rw [if_neg hp]
    have ca := cells_lit w #[.string a, .string b] 9 2 rfl (by unfold maxLen; omega)
    have hba : Below w.heap.size w (w.alloc (.cells #[.string a, .string b] 9)) := (Below.refl _ w).alloc (Nat.le_refl _) _
    have qr := readAll_err (some ⟨w.heap.size, 0, none⟩) 2 2 [a, b] _ rfl (by omega) (by rw [pair_first]; exact hp) ca
    unfold ListErrAns at qr
    rw [pair_first] at qr
    rw [e0]
    have QR := Lib.hid qr
    have HL := Lib.hid hL
    generalize pairErr a.data.toList b.data.toList = E at *
    have QE := Lib.hid (fun W h => codeOf_err E W h)
    clear qr ca hp e0 hL
    go_enter Tryz.func14, Tryz.ntmps14
    go_wp2_with fail
    generalize w.alloc (.cells #[.string a, .string b] 9) = W2 at *
    refine QR.out.mono ?_
    rintro e w1 ⟨rfl, hb1⟩
    have hb2 := hba.trans (hb1.mono hba.size)
    go_wp2_with fail
    refine (QE.out _ (HL.out.below hb2)).mono ?_
    rintro e w3 ⟨rfl, hb4⟩
    have hb5 := hb2.trans (hb4.mono hb2.size)
    go_wp2_with fail
    go_ret2
    exact ⟨rfl, hb5⟩
end Go.Proofs.YtljlkhaolfihjaaGreatDoor

/- The chapter's examples: plain facts. Nothing of the program's code. -/
namespace Go.Proofs.YtljlkhaolfihjaaGreatDoor

set_option maxRecDepth 100000
def kn1 : List ByteArray := [⟨#[99, 104, 97, 100]⟩, ⟨#[67, 65, 68]⟩, ⟨#[67, 97, 68]⟩, ⟨#[72, 65, 84]⟩, ⟨#[]⟩, ⟨#[99, 104, 97, 100, 119, 105, 107]⟩]
def kd1 : List Int := [0, 0, 2, 2, 7, 10]
def kn2 : List ByteArray := [⟨#[89, 78]⟩, ⟨#[74, 82, 73]⟩, ⟨#[88, 65, 86]⟩]
def kk2 : List ByteArray := [⟨#[106, 97, 110]⟩, ⟨#[106, 117, 114, 105]⟩, ⟨#[115, 104, 97, 118]⟩]
def kn3 : List ByteArray := [⟨#[99, 104, 97, 100]⟩, ⟨#[106, 97, 110]⟩, ⟨#[67, 65, 68]⟩]
def kk3 : List ByteArray := [⟨#[67, 65, 68]⟩, ⟨#[89, 78]⟩, ⟨#[67, 65, 68]⟩]
def ka4 : List ByteArray := [⟨#[99, 104, 97, 100]⟩, ⟨#[66, 69, 78]⟩, ⟨#[67, 65, 68]⟩]
def kb4 : List ByteArray := [⟨#[67, 65, 68]⟩, ⟨#[99, 104, 97, 100]⟩, ⟨#[67, 65, 68]⟩]
def kc4 : List Int := [(-1), (-1), 0]
def ka5 : List ByteArray := [⟨#[115, 109, 105, 116, 104]⟩, ⟨#[115, 109, 121, 116, 104, 101]⟩, ⟨#[114, 97, 108, 112, 104]⟩]
def kb5 : List ByteArray := [⟨#[115, 109, 121, 116, 104]⟩, ⟨#[115, 109, 105, 116, 104]⟩, ⟨#[82, 65, 76, 70]⟩]
def kc5 : List Int := [1, 2, 1]
def ka6 : List ByteArray := [⟨#[115, 109, 105, 116, 104]⟩, ⟨#[99, 104, 97, 100]⟩, ⟨#[115, 109, 105, 116, 104]⟩]
def kb6 : List ByteArray := [⟨#[115, 109, 121, 116, 104]⟩, ⟨#[67, 65, 68]⟩, ⟨#[114, 97, 108, 102]⟩]
def kc6 : List Int := [3, 1, 2]
def ks7 : List ByteArray := [⟨#[99, 100, 46]⟩, ⟨#[104, 100, 46]⟩, ⟨#[99, 104, 97, 100, 46]⟩]
def ky7 : List Bool := [true, false, false]
def kp1 : List ByteArray := [⟨#[97, 110, 110, 97]⟩, ⟨#[66, 69, 78]⟩, ⟨#[67, 65, 68]⟩]
def kp2 : List ByteArray := [⟨#[99, 104, 97, 100]⟩, ⟨#[97, 110, 110, 97]⟩]
def kw1 : List ByteArray := [⟨#[97, 110, 110, 97]⟩, ⟨#[66, 69, 78]⟩, ⟨#[99, 104, 97, 100]⟩, ⟨#[67, 65, 68]⟩]
def kw2 : List ByteArray := [⟨#[67, 65, 68]⟩, ⟨#[97, 110, 110, 97]⟩, ⟨#[66, 69, 78]⟩]
def kr1 : List ByteArray := [⟨#[114, 97, 108, 102]⟩, ⟨#[115, 109, 121, 116, 104]⟩, ⟨#[115, 109, 121, 116, 104, 101]⟩, ⟨#[115, 109, 105, 116, 104]⟩]
def kc2 : List ByteArray := [⟨#[99, 104, 97, 100]⟩, ⟨#[67, 65, 68]⟩]
theorem getD_of {α : Type} (L : List α) (k : Nat) (d : α) (h : k < L.length) : L.getD k d = L[k] := by
  rw [List.getD_eq_getElem?_getD, List.getElem?_eq_getElem h]; rfl
theorem known1' : ∀ k, k < 6 → Sp.check (kn1.getD k ByteArray.empty).data.toList = (kd1.getD k 0) := by decide +kernel
theorem known1 (k : Nat) (h_kn1 : k < kn1.length) (h_kd1 : k < kd1.length) : Sp.check (kn1[k]'h_kn1).data.toList = (kd1[k]'h_kd1) := by
  have h := known1' k h_kn1
  rwa [getD_of _ _ _ h_kn1, getD_of _ _ _ h_kd1] at h
theorem known2' : ∀ k, k < 3 → (⟨(Sp.keyR (kn2.getD k ByteArray.empty).data.toList).toArray⟩ : ByteArray) = (kk2.getD k ByteArray.empty) ∧ Sp.check (kn2.getD k ByteArray.empty).data.toList = 0 := by decide +kernel
theorem known2 (k : Nat) (h_kn2 : k < kn2.length) (h_kk2 : k < kk2.length) : (⟨(Sp.keyR (kn2[k]'h_kn2).data.toList).toArray⟩ : ByteArray) = (kk2[k]'h_kk2) ∧ Sp.check (kn2[k]'h_kn2).data.toList = 0 := by
  have h := known2' k h_kn2
  rwa [getD_of _ _ _ h_kn2, getD_of _ _ _ h_kk2] at h
theorem known3' : ∀ k, k < 3 → otherP (kn3.getD k ByteArray.empty) = ((kk3.getD k ByteArray.empty), 0) := by decide +kernel
theorem known3 (k : Nat) (h_kn3 : k < kn3.length) (h_kk3 : k < kk3.length) : otherP (kn3[k]'h_kn3) = ((kk3[k]'h_kk3), 0) := by
  have h := known3' k h_kn3
  rwa [getD_of _ _ _ h_kn3, getD_of _ _ _ h_kk3] at h
theorem known4' : ∀ k, k < 3 → compareB (ka4.getD k ByteArray.empty).data.toList (kb4.getD k ByteArray.empty).data.toList = (kc4.getD k 0) ∧ pairErr (ka4.getD k ByteArray.empty).data.toList (kb4.getD k ByteArray.empty).data.toList = 0 := by decide +kernel
theorem known4 (k : Nat) (h_ka4 : k < ka4.length) (h_kb4 : k < kb4.length) (h_kc4 : k < kc4.length) : compareB (ka4[k]'h_ka4).data.toList (kb4[k]'h_kb4).data.toList = (kc4[k]'h_kc4) ∧ pairErr (ka4[k]'h_ka4).data.toList (kb4[k]'h_kb4).data.toList = 0 := by
  have h := known4' k h_ka4
  rwa [getD_of _ _ _ h_ka4, getD_of _ _ _ h_kb4, getD_of _ _ _ h_kc4] at h
theorem known5' : ∀ k, k < 3 → usesA rulesList (ka5.getD k ByteArray.empty) (kb5.getD k ByteArray.empty) = ((kc5.getD k 0), 0) := by decide +kernel
theorem known5 (k : Nat) (h_ka5 : k < ka5.length) (h_kb5 : k < kb5.length) (h_kc5 : k < kc5.length) : usesA rulesList (ka5[k]'h_ka5) (kb5[k]'h_kb5) = ((kc5[k]'h_kc5), 0) := by
  have h := known5' k h_ka5
  rwa [getD_of _ _ _ h_ka5, getD_of _ _ _ h_kb5, getD_of _ _ _ h_kc5] at h
theorem known6' : ∀ k, k < 3 → verdictP rulesList (ka6.getD k ByteArray.empty) (kb6.getD k ByteArray.empty) = ((kc6.getD k 0), 0) := by decide +kernel
theorem known6 (k : Nat) (h_ka6 : k < ka6.length) (h_kb6 : k < kb6.length) (h_kc6 : k < kc6.length) : verdictP rulesList (ka6[k]'h_ka6) (kb6[k]'h_kb6) = ((kc6[k]'h_kc6), 0) := by
  have h := known6' k h_ka6
  rwa [getD_of _ _ _ h_ka6, getD_of _ _ _ h_kb6, getD_of _ _ _ h_kc6] at h
theorem known7' : ∀ k, k < 3 → (decide (shortPairErr (ks7.getD k ByteArray.empty).data.toList (⟨#[99, 104, 97, 100]⟩ : ByteArray).data.toList = 0) && shortB (ks7.getD k ByteArray.empty).data.toList (⟨#[99, 104, 97, 100]⟩ : ByteArray).data.toList) = (ky7.getD k false) ∧ shortPairErr (ks7.getD k ByteArray.empty).data.toList (⟨#[99, 104, 97, 100]⟩ : ByteArray).data.toList = 0 := by decide +kernel
theorem known7 (k : Nat) (h_ks7 : k < ks7.length) (h_ky7 : k < ky7.length) : (decide (shortPairErr (ks7[k]'h_ks7).data.toList (⟨#[99, 104, 97, 100]⟩ : ByteArray).data.toList = 0) && shortB (ks7[k]'h_ks7).data.toList (⟨#[99, 104, 97, 100]⟩ : ByteArray).data.toList) = (ky7[k]'h_ky7) ∧ shortPairErr (ks7[k]'h_ks7).data.toList (⟨#[99, 104, 97, 100]⟩ : ByteArray).data.toList = 0 := by
  have h := known7' k h_ks7
  rwa [getD_of _ _ _ h_ks7, getD_of _ _ _ h_ky7] at h
theorem known_sizes : ∀ s, s ∈ ks7 → s.size ≤ 2000 := by decide +kernel
theorem known_john : (otherP ⟨#[106, 111, 104, 110]⟩).2 = 11 := by decide +kernel
theorem known_place1 : placeB kp1 ⟨#[99, 104, 97, 100]⟩ = 2 ∧ placeErr kp1 ⟨#[99, 104, 97, 100]⟩ = 0 := by decide +kernel
theorem known_place2 : placeErr kp2 ⟨#[99, 104, 97, 100]⟩ = 5 := by decide +kernel
theorem known_wrong1 : wrongL kw1 = [] ∧ listErr kw1 = 0 := by decide +kernel
theorem known_wrong2 : wrongL kw2 = [0] ∧ listErr kw2 = 0 := by decide +kernel
theorem known_ralf : (usesA rulesList ⟨#[115, 109, 105, 116, 104]⟩ ⟨#[114, 97, 108, 102]⟩).2 = 11 := by decide +kernel
theorem known_near : nearL rulesList ⟨#[115, 109, 105, 116, 104]⟩ kr1 = [3, 1, 2] ∧ nearErr rulesList ⟨#[115, 109, 105, 116, 104]⟩ kr1 = 0 := by decide +kernel
theorem known_cd : shortPairErr (⟨#[99, 100]⟩ : ByteArray).data.toList (⟨#[99, 104, 97, 100]⟩ : ByteArray).data.toList = 2 := by decide +kernel
theorem known_stands : standsL (⟨#[115, 109, 46]⟩ : ByteArray).data.toList smithsList = [0, 1, 2] ∧ standsErr (⟨#[115, 109, 46]⟩ : ByteArray).data.toList smithsList = 0 ∧ standsL (⟨#[115, 121, 46]⟩ : ByteArray).data.toList smithsList = [1] ∧ standsErr (⟨#[115, 121, 46]⟩ : ByteArray).data.toList smithsList = 0 := by decide +kernel
theorem known_short : shortestP smithsList 1 = (⟨#[115, 121, 46]⟩, 0) ∧ shortestP smithsList 2 = (⟨#[115, 97, 46]⟩, 0) ∧ (shortestP smithsList 3).2 = 3 ∧ shortestP kc2 0 = (⟨#[99, 46]⟩, 0) := by decide +kernel
theorem known_fit : fitP smithsList 0 5 = (⟨#[115, 109, 105, 116, 104]⟩, 0) ∧ fitP smithsList 0 3 = (⟨#[115, 105, 46]⟩, 0) ∧ (fitP smithsList 0 2).2 = 11 := by decide +kernel
theorem rules_short : Short20 rulesList := by unfold Short20; decide +kernel
end Go.Proofs.YtljlkhaolfihjaaGreatDoor
