/- Letters of any string; abbreviations, any string. -/
import Derived.Test.YtapagncaadjiaaaGreatDoorPgZ
import Derived.Test.YtapagncaadjiaaaGreatDoorPgJ
import Derived.Test.YtapagncaadjiaaaGreatDoorPgL
import Derived.Test.YtapagncaadjiaaaGreatDoorRefI
namespace Go.Proofs.YtapagncaadjiaaaGreatDoor
open Go.RowKit Go.Shelf

theorem latin_kind (c : UInt8) : (kindP c.toNat = 1 ↔ Sp.latin c = true) := by
  have h : ∀ n : Fin 256, (kindP (UInt8.ofNat n.val).toNat = 1 ↔ Sp.latin (UInt8.ofNat n.val) = true) := by decide +kernel
  exact byte_all (p := fun c => (kindP c.toNat = 1 ↔ Sp.latin c = true)) h c
theorem kind_far {r : Int} (h : 128 ≤ r) : kindP r = 0 := by
  unfold kindP
  rw [if_neg (by omega), if_pos (by omega)]

set_option maxRecDepth 100000 in
set_option maxHeartbeats 1600000 in
theorem isLatin_any (s : ByteArray) (w : World) (_hs : s.size ≤ 2000) : Calls Tryz.prog 130 #[.string s] w fun e w' => e = .returned (.bool (s.data.toList.all Sp.latin)) ∧ Below w.heap.size w w' := by
  obtain ⟨v, hv⟩ : ∃ v, s.data.toList.all Sp.latin = v := ⟨_, rfl⟩
  have hsl := size_list s
  rw [hv]
  have HV := Lib.hid hv
  clear hv
  go_enter Tryz.func130, Tryz.ntmps130
  go_wp2_with fail
  go_loopw [] (fun wr => ∃ k : Nat, k ≤ s.size ∧ Hid ((s.data.toList.take k).all Sp.latin = true) ∧ wr.heap[w.heap.size]? = some (.stringIter s k) ∧ Below w.heap.size w wr) (fun wr => s.size - wr.iterPos w.heap.size)
  case atStart =>
    refine ⟨0, Nat.zero_le _, Lib.hid rfl, ?_, (Below.refl _ w).alloc (Nat.le_refl _) _⟩
    exact heap_alloc_new w _
  case round =>
    obtain ⟨k, hk, hall, hit, hb⟩ := hrel
    by_cases hlt : k < s.size
    · by_cases hc : Sp.latin s[k] = true
      · have hkd := fun W => kind_call (s[k].toNat : Int) 1 ((latin_kind _).2 hc) W
        have ha : s[k].toNat < 128 := by
          unfold Sp.latin at hc
          simp at hc
          omega
        have hnx : ∀ ty, (Instr.next (.pointer (some ⟨w.heap.size, 0, none⟩)) true ty).run Tryz.prog wr = _ := fun ty => Lib.run_next_ascii_at wr w.heap.size s k ty hit hlt ha
        have hit2 := Lib.iterAt_heap wr w.heap.size s k (k + 1) hit
        have hb2 := Lib.below_iterAt hb (k := w.heap.size) (by omega) s (k + 1)
        have hall2 : Hid ((s.data.toList.take (k + 1)).all Sp.latin = true) := Lib.hid (by rw [all_take s k hlt, hall.out, hc]; rfl)
        have HKD := Lib.hid hkd
        clear hkd hall hc
        generalize hC : s[k] = C at *
        clear hC
        go_wp2_with fail
        refine (HKD.out _).mono ?_
        rintro e w' ⟨rfl, rfl⟩
        go_wp2
        refine ⟨⟨k + 1, by omega, hall2, hit2, hb2⟩, ?_⟩
        simp only [World.iterPos, hit2, hit]
        omega
      · have hk1 : kindP (Utf8.decode s k).1 ≠ 1 := by
          by_cases ha : s[k].toNat < 128
          · rw [decode_ascii s k hlt ha]
            exact fun h => hc ((latin_kind _).1 h)
          · rw [kind_far (by have := (decode_high s k hlt (by omega)).1; omega)]
            decide
        have hv2 : v = false := by
          rw [← HV.out, List.all_eq_false]
          exact ⟨s[k], by have : s.data.toList[k]'(by omega) = s[k] := rfl
                          rw [← this]; exact List.getElem_mem _, hc⟩
        subst hv2
        obtain ⟨q, hq⟩ : ∃ q, kindP (Utf8.decode s k).1 = q := ⟨_, rfl⟩
        rw [hq] at hk1
        have hkd := fun W => kind_call (Utf8.decode s k).1 q hq W
        have hnx : ∀ ty, (Instr.next (.pointer (some ⟨w.heap.size, 0, none⟩)) true ty).run Tryz.prog wr = _ := fun ty => Lib.run_next_any_at wr w.heap.size s k ty hit hlt
        have hb2 := Lib.below_iterAt hb (k := w.heap.size) (by omega) s (k + (Utf8.decode s k).2)
        have m1 : (q != 1) = true := by rw [bne_iff_ne]; exact hk1
        have HKD := Lib.hid hkd
        clear hkd hk1 hq hall hc
        generalize (Utf8.decode s k).1 = r at *
        generalize (Utf8.decode s k).2 = d at *
        go_wp2_with fail
        refine (HKD.out _).mono ?_
        rintro e w' ⟨rfl, rfl⟩
        go_wp2_with fail
        go_ret
        exact ⟨rfl, hb2⟩
    · have hnx : ∀ ty, (Instr.next (.pointer (some ⟨w.heap.size, 0, none⟩)) true ty).run Tryz.prog wr = _ := fun ty => Lib.run_next_end_at wr w.heap.size s k ty hit hlt
      have hv2 : v = true := by
        rw [← HV.out, ← hall.out, List.take_of_length_le (by omega)]
      subst hv2
      go_wp2_with fail
      go_ret
      exact ⟨rfl, hb⟩

/-- The letters of an abbreviation. -/
def lettersOf (a : ByteArray) : ByteArray := ⟨a.data.toList.dropLast.toArray⟩
theorem suf_point (l : List UInt8) : (Lib.hasSuffix l [46] = true ∧ l.getLast? = some 46 ∧ Lib.trimSuffix l [46] = l.dropLast) ∨ (Lib.hasSuffix l [46] = false ∧ l.getLast? ≠ some 46) := by
  by_cases h : l.getLast? = some 46
  · have hs : Lib.hasSuffix l [46] = true := by
      unfold Lib.hasSuffix
      rw [List.isSuffixOf_iff_suffix]
      refine ⟨l.dropLast, ?_⟩
      have hne : l ≠ [] := by intro e; subst e; cases h
      have h2 := List.dropLast_concat_getLast hne
      rw [List.getLast?_eq_some_getLast hne] at h
      injection h with h
      rw [h] at h2
      exact h2
    refine .inl ⟨hs, h, ?_⟩
    unfold Lib.trimSuffix
    rw [if_pos hs, List.dropLast_eq_take]
    rfl
  · refine .inr ⟨?_, h⟩
    cases hs : Lib.hasSuffix l [46] with
    | false => rfl
    | true =>
      unfold Lib.hasSuffix at hs
      rw [List.isSuffixOf_iff_suffix] at hs
      obtain ⟨t, ht⟩ := hs
      rw [← ht] at h
      simp at h

/-- What readShort gives: the letters, or the error. -/
def ReadShortAns (a : ByteArray) (w : World) (e : Ending) (w' : World) : Prop :=
  ((shortErr a.data.toList = 0 ∧ e = .returned (.tuple #[.string (lettersOf a), .nilIface])) ∨ (shortErr a.data.toList = 2 ∧ e = .returned (.tuple #[.string ⟨#[]⟩, .iface 152 (.agg #[.int .i64 2])]))) ∧ Below w.heap.size w w'

set_option maxRecDepth 100000 in
set_option maxHeartbeats 1600000 in
theorem readShort_any (a : ByteArray) (w : World) (ha : a.size ≤ 2000) : Calls Tryz.prog 103 #[.string a] w (ReadShortAns a w) := by
  have qs := fun W => Tryz.strings_CutSuffix a ⟨#[46]⟩ W (by omega)
  have hll : (lettersOf a).data.toList = a.data.toList.dropLast := rfl
  have hsl := size_list a
  have hls : (lettersOf a).size ≤ 2000 := by
    show a.data.toList.dropLast.toArray.size ≤ 2000
    rw [List.size_toArray, List.length_dropLast]
    omega
  rcases suf_point a.data.toList with ⟨h1, h2, h3⟩ | ⟨h1, h2⟩
  · have e1 : Lib.trimSuffix a.data.toList (⟨#[46]⟩ : ByteArray).data.toList = a.data.toList.dropLast := h3
    have e2 : Lib.hasSuffix a.data.toList (⟨#[46]⟩ : ByteArray).data.toList = true := h1
    have Q : Hid (∀ W, Calls Tryz.prog 133 #[.string a, .string ⟨#[46]⟩] W fun e w' => e = .returned (.tuple #[.string (lettersOf a), .bool true]) ∧ w' = W) := Lib.hid fun W => by
      have h := qs W
      rw [e1, e2] at h
      exact h
    have QF := Lib.hid (fun W => fits_any (lettersOf a) W)
    have QL := Lib.hid (fun W => isLatin_any (lettersOf a) W hls)
    have he : shortErr a.data.toList = if 1 ≤ (lettersOf a).size ∧ (lettersOf a).size ≤ 12 ∧ (lettersOf a).data.toList.all Sp.latin = true then 0 else 2 := by
      unfold shortErr lettersB
      rw [← hll]
      have hz : (lettersOf a).data.toList.length = (lettersOf a).size := by simp
      by_cases hc : 1 ≤ (lettersOf a).size ∧ (lettersOf a).size ≤ 12 ∧ (lettersOf a).data.toList.all Sp.latin = true
      · rw [if_pos hc, if_pos ⟨h2, by rw [hc.2.2, hz]; simp; omega⟩]
      · rw [if_neg hc, if_neg]
        rintro ⟨_, h⟩
        apply hc
        rw [hz] at h
        simp only [Bool.and_eq_true, decide_eq_true_eq] at h
        exact ⟨by omega, by omega, h.2⟩
    have HE := Lib.hid he
    clear qs e1 e2 h1 h2 h3 hll he
    unfold ReadShortAns
    by_cases hf : 1 ≤ (lettersOf a).size ∧ (lettersOf a).size ≤ 12
    · cases hal : (lettersOf a).data.toList.all Sp.latin with
      | true =>
        have hz : shortErr a.data.toList = 0 := by rw [HE.out, if_pos ⟨hf.1, hf.2, hal⟩]
        rw [hz]
        have QL2 : Hid (∀ W, Calls Tryz.prog 130 #[.string (lettersOf a)] W fun e w' => e = .returned (.bool true) ∧ Below W.heap.size W w') := Lib.hid fun W => by have h := QL.out W; rw [hal] at h; exact h
        have QF2 : Hid (∀ W, Calls Tryz.prog 134 #[.string (lettersOf a)] W fun e w' => e = .returned (.bool true) ∧ w' = W) := Lib.hid fun W => by have h := QF.out W; rw [decide_eq_true hf] at h; exact h
        clear HE QL QF hz hal hf
        generalize lettersOf a = K at *
        go_enter Tryz.func103, Tryz.ntmps103
        go_wp2_with fail
        refine (Q.out _).mono ?_
        rintro e w' ⟨rfl, rfl⟩
        go_wp2_with fail
        refine (QF2.out _).mono ?_
        rintro e w' ⟨rfl, rfl⟩
        go_wp2_with fail
        refine (QL2.out _).mono ?_
        rintro e w1 ⟨rfl, hb⟩
        go_wp2_with fail
        go_ret2
        exact ⟨by simp, hb⟩
      | false =>
        have hz : shortErr a.data.toList = 2 := by rw [HE.out, if_neg (fun h => by rw [hal] at h; cases h.2.2)]
        rw [hz]
        have QL2 : Hid (∀ W, Calls Tryz.prog 130 #[.string (lettersOf a)] W fun e w' => e = .returned (.bool false) ∧ Below W.heap.size W w') := Lib.hid fun W => by have h := QL.out W; rw [hal] at h; exact h
        have QF2 : Hid (∀ W, Calls Tryz.prog 134 #[.string (lettersOf a)] W fun e w' => e = .returned (.bool true) ∧ w' = W) := Lib.hid fun W => by have h := QF.out W; rw [decide_eq_true hf] at h; exact h
        clear HE QL QF hz hal hf
        generalize lettersOf a = K at *
        go_enter Tryz.func103, Tryz.ntmps103
        go_wp2_with fail
        refine (Q.out _).mono ?_
        rintro e w' ⟨rfl, rfl⟩
        go_wp2_with fail
        refine (QF2.out _).mono ?_
        rintro e w' ⟨rfl, rfl⟩
        go_wp2_with fail
        refine (QL2.out _).mono ?_
        rintro e w1 ⟨rfl, hb⟩
        go_wp2_with fail
        go_ret2
        exact ⟨by simp, hb⟩
    · have hz : shortErr a.data.toList = 2 := by rw [HE.out, if_neg (fun h => hf ⟨h.1, h.2.1⟩)]
      rw [hz]
      have QF2 : Hid (∀ W, Calls Tryz.prog 134 #[.string (lettersOf a)] W fun e w' => e = .returned (.bool false) ∧ w' = W) := Lib.hid fun W => by have h := QF.out W; rw [decide_eq_false hf] at h; exact h
      clear HE QL QF hz hf
      generalize lettersOf a = K at *
      go_enter Tryz.func103, Tryz.ntmps103
      go_wp2_with fail
      refine (Q.out _).mono ?_
      rintro e w' ⟨rfl, rfl⟩
      go_wp2_with fail
      refine (QF2.out _).mono ?_
      rintro e w' ⟨rfl, rfl⟩
      go_wp2_with fail
      go_ret2
      exact ⟨by simp, Below.refl _ _⟩
  · have e2 : Lib.hasSuffix a.data.toList (⟨#[46]⟩ : ByteArray).data.toList = false := h1
    have Q : Hid (∀ W, Calls Tryz.prog 133 #[.string a, .string ⟨#[46]⟩] W fun e w' => e = .returned (.tuple #[.string ⟨(Lib.trimSuffix a.data.toList (⟨#[46]⟩ : ByteArray).data.toList).toArray⟩, .bool false]) ∧ w' = W) := Lib.hid fun W => by
      have h := qs W
      rw [e2] at h
      exact h
    have hz : shortErr a.data.toList = 2 := by
      unfold shortErr
      rw [if_neg (fun h => h2 h.1)]
    unfold ReadShortAns
    rw [hz]
    clear qs e2 h1 h2 hll hz
    generalize (⟨(Lib.trimSuffix a.data.toList (⟨#[46]⟩ : ByteArray).data.toList).toArray⟩ : ByteArray) = K at *
    go_enter Tryz.func103, Tryz.ntmps103
    go_wp2_with fail
    refine (Q.out _).mono ?_
    rintro e w' ⟨rfl, rfl⟩
    go_wp2_with fail
    go_ret2
    exact ⟨by simp, Below.refl _ _⟩
end Go.Proofs.YtapagncaadjiaaaGreatDoor
