/- Rules and names that are not as they must be: Uses, Verdict, Chain of anything. -/
import Derived.Test.YtljlkhaolfihjaaGreatDoorPgX
import Derived.Test.YtljlkhaolfihjaaGreatDoorPzC
import Derived.Test.YtljlkhaolfihjaaGreatDoorPgNr
namespace Go.Proofs.YtljlkhaolfihjaaGreatDoor
open Go.RowKit Go.Shelf

theorem rule_good {X Y : ByteArray} (h : ruleOk (X, Y) = true) : 1 ≤ X.size ∧ X.size ≤ 2 ∧ Y.size ≤ 2 ∧ X ≠ Y ∧ (X ++ Y).data.toList.all Sp.latin = true := by
  unfold ruleOk lettersB at h
  simp only [Bool.and_eq_true, decide_eq_true_eq, Bool.not_eq_true', decide_eq_false_iff_not] at h
  obtain ⟨⟨⟨⟨h1, h2⟩, h3⟩, ⟨_, h4⟩, h5⟩, h6⟩ := h
  have e1 := size_list X
  have e2 := size_list Y
  refine ⟨by omega, by omega, by omega, fun e => h6 (by rw [e]), ?_⟩
  rw [ByteArray.data_append, Array.toList_append, List.all_append, h3, h5]
  rfl
theorem rule_bad {X Y : ByteArray} (h : ruleOk (X, Y) = false) : X.size < 1 ∨ (1 ≤ X.size ∧ 2 < X.size) ∨ (1 ≤ X.size ∧ X.size ≤ 2 ∧ 2 < Y.size) ∨ (1 ≤ X.size ∧ X.size ≤ 2 ∧ Y.size ≤ 2 ∧ X = Y) ∨ (1 ≤ X.size ∧ X.size ≤ 2 ∧ Y.size ≤ 2 ∧ X ≠ Y ∧ (X ++ Y).data.toList.all Sp.latin = false) := by
  have e1 := size_list X
  have e2 := size_list Y
  by_cases h1 : X.size < 1
  · exact .inl h1
  by_cases h2 : 2 < X.size
  · exact .inr (.inl ⟨by omega, h2⟩)
  by_cases h3 : 2 < Y.size
  · exact .inr (.inr (.inl ⟨by omega, by omega, h3⟩))
  by_cases h4 : X = Y
  · exact .inr (.inr (.inr (.inl ⟨by omega, by omega, by omega, h4⟩)))
  refine .inr (.inr (.inr (.inr ⟨by omega, by omega, by omega, h4, ?_⟩)))
  cases hl : (X ++ Y).data.toList.all Sp.latin with
  | false => rfl
  | true =>
    exfalso
    rw [ByteArray.data_append, Array.toList_append, List.all_append, Bool.and_eq_true] at hl
    have ht : ruleOk (X, Y) = true := by
      unfold ruleOk lettersB
      simp only [Bool.and_eq_true, decide_eq_true_eq, Bool.not_eq_true', decide_eq_false_iff_not]
      exact ⟨⟨⟨⟨by omega, by omega⟩, hl.1⟩, ⟨by omega, by omega⟩, hl.2⟩, fun e => h4 (tl_inj e)⟩
    rw [ht] at h
    cases h
theorem rules_place : ∀ (rs : List (ByteArray × ByteArray)), rs.all ruleOk = false → ∃ p, ∃ hp : p < rs.length, (∀ i (hi : i < p), ruleOk (rs[i]'(Nat.lt_trans hi hp)) = true) ∧ ruleOk rs[p] = false
  | [], h => by cases h
  | r :: t, h => by
    cases hr : ruleOk r with
    | false => exact ⟨0, by simp, fun i hi => absurd hi (Nat.not_lt_zero _), hr⟩
    | true =>
      rw [List.all_cons, hr, Bool.true_and] at h
      obtain ⟨p, hp, h1, h2⟩ := rules_place t h
      refine ⟨p + 1, by simpa using hp, fun i hi => ?_, h2⟩
      cases i with
      | zero => exact hr
      | succ i => exact h1 i (by omega)
theorem rulesOk_of {rs : List (ByteArray × ByteArray)} (h : rulesErr rs = 0) : RulesOk rs := by
  unfold rulesErr at h
  split at h
  · omega
  · split at h
    · rename_i h1 h2
      refine ⟨by omega, fun r hr => ?_⟩
      obtain ⟨a1, a2, a3, a4, a5⟩ := rule_good (X := r.1) (Y := r.2) (List.all_eq_true.1 h2 r hr)
      refine ⟨⟨a1, a2⟩, a3, a4, fun b hb => ?_⟩
      rw [ByteArray.data_append, Array.toList_append] at a5
      have h3 := List.all_eq_true.1 a5 b hb
      unfold Sp.latin at h3
      simp at h3
      omega
    · omega

def RuleErrAns (E : Int) (w : World) (e : Ending) (w' : World) : Prop := e = .returned (.iface 133 (.agg #[.int .i64 E])) ∧ Below w.heap.size w w'

set_option maxRecDepth 100000 in
set_option maxHeartbeats 3200000 in
theorem checkRules_err (A : Option Addr) (n c : Nat) (rs : List (ByteArray × ByteArray)) (w : World) (hn : n = rs.length) (hs : Short20 rs) (h : rulesErr rs ≠ 0) (hx : Cells w A (ruleCells rs)) :
    Calls Tryz.prog 66 #[.slice A n c] w (RuleErrAns (rulesErr rs) w) := by
  have HX := Lib.hid hx
  have HN := Lib.hid hn
  have HS := Lib.hid hs
  unfold RuleErrAns
  by_cases h4 : 4 < rs.length
  · have e : rulesErr rs = 6 := by unfold rulesErr; rw [if_pos h4]
    rw [e]
    have j : (4 : Int) < (n : Int) := by omega
    clear hx hn hs h e h4
    go_enter Tryz.func66, Tryz.ntmps66
    go_wp2_with fail
    go_ret
    exact ⟨rfl, Below.refl _ _⟩
  · have hall : rs.all ruleOk = false := by
      unfold rulesErr at h
      rw [if_neg h4] at h
      cases ha : rs.all ruleOk with
      | false => rfl
      | true => rw [if_pos ha] at h; exact absurd rfl h
    have e : rulesErr rs = 2 := by unfold rulesErr; rw [if_neg h4, if_neg (by rw [hall]; simp)]
    rw [e]
    obtain ⟨p, hp, hgood, hbad⟩ := rules_place rs hall
    have HG := Lib.hid hgood
    have HB := Lib.hid hbad
    have h4' : ¬ ((4 : Int) < (n : Int)) := by omega
    have hpn : p < n := by omega
    clear hx hn hs h e h4 hall hgood hbad
    go_enter Tryz.func66, Tryz.ntmps66
    go_wp2_with fail
    go_loopw [12] (fun i wr => ∃ k : Nat, k ≤ p ∧ i = .int .i64 k ∧ Below w.heap.size w wr) (fun i _ => n - (intOf i).toNat)
    case atStart => exact ⟨0, Nat.zero_le _, rfl, Below.refl _ _⟩
    case round =>
      obtain ⟨k, hk, rfl, hb⟩ := hrel
      have hlt : k < n := by omega
      have hks : k < rs.length := by rw [← HN.out]; exact hlt
      obtain ⟨b1, o1, rfl, c1, c2⟩ := HX.out.rule k hks
      obtain ⟨z1, z2⟩ := HS.out rs[k] (List.getElem_mem _)
      have hkp : (k < p ∧ ruleOk rs[k] = true) ∨ (k = p ∧ ruleOk rs[k] = false) := by
        by_cases e : k = p
        · subst e; exact .inr ⟨rfl, HB.out⟩
        · exact .inl ⟨by omega, HG.out k (by omega)⟩
      generalize hX : rs[k] = X at *
      obtain ⟨X, Y⟩ := X
      clear hX
      simp only at c1 c2 z1 z2
      have d1 := (hb.cell (p := ⟨b1, o1 + k * 2, none⟩) (World.block_lt_of_cell? w _ c1)).trans c1
      have d2 := (hb.cell (p := ⟨b1, o1 + k * 2 + 1, none⟩) (World.block_lt_of_cell? w _ c2)).trans c2
      have j4 : (k : Int) < (n : Int) := by omega
      have j5 : (0 : Int) ≤ (k : Int) := by omega
      have Q := Lib.hid (fun W => isLatin_any (X ++ Y) W (by rw [ByteArray.size_append]; omega))
      have hbA := hb.alloc (o := .cells #[.string X, .string Y] 64) hb.size
      clear c1 c2
      rcases hkp with ⟨hkl, hok⟩ | ⟨rfl, hno⟩
      · obtain ⟨a1, a2, a3, a4, a5⟩ := rule_good hok
        rw [a5] at Q
        have j6 : ¬ ((X.size : Int) < 1) := by omega
        have j7 : ¬ ((2 : Int) < (X.size : Int)) := by omega
        have j8 : ¬ ((2 : Int) < (Y.size : Int)) := by omega
        have e3 : (X.toList == Y.toList) = false := by
          rw [beq_eq_false_iff_ne]
          exact fun e => a4 (bytes_inj e)
        clear a1 a2 a3 a4 a5 hok
        go_wp2_with fail
        refine (Q.out _).mono ?_
        rintro e w' ⟨rfl, hb2⟩
        have hb3 := hbA.trans (hb2.mono (by have := hb.size; simp; omega))
        clear Q d1 d2 e3 hb2 hbA
        go_wp2
        exact ⟨⟨k + 1, by omega, by go_num, hb3⟩, by simp [intOf]; omega⟩
      · rcases rule_bad hno with a1 | ⟨a1, a2⟩ | ⟨a1, a2, a3⟩ | ⟨a1, a2, a3, a4⟩ | ⟨a1, a2, a3, a4, a5⟩
        · have j6 : (X.size : Int) < 1 := by omega
          clear hno a1 Q
          go_wp2_with fail
          go_ret
          exact ⟨rfl, hbA⟩
        · have j6 : ¬ ((X.size : Int) < 1) := by omega
          have j7 : (2 : Int) < (X.size : Int) := by omega
          clear hno a1 a2 Q
          go_wp2_with fail
          go_ret
          exact ⟨rfl, hbA⟩
        · have j6 : ¬ ((X.size : Int) < 1) := by omega
          have j7 : ¬ ((2 : Int) < (X.size : Int)) := by omega
          have j8 : (2 : Int) < (Y.size : Int) := by omega
          clear hno a1 a2 a3 Q
          go_wp2_with fail
          go_ret
          exact ⟨rfl, hbA⟩
        · have j6 : ¬ ((X.size : Int) < 1) := by omega
          have j7 : ¬ ((2 : Int) < (X.size : Int)) := by omega
          have j8 : ¬ ((2 : Int) < (Y.size : Int)) := by omega
          subst a4
          clear hno a1 a2 a3 Q
          go_wp2_with fail
          go_ret
          exact ⟨rfl, hbA⟩
        · have j6 : ¬ ((X.size : Int) < 1) := by omega
          have j7 : ¬ ((2 : Int) < (X.size : Int)) := by omega
          have j8 : ¬ ((2 : Int) < (Y.size : Int)) := by omega
          have e3 : (X.toList == Y.toList) = false := by
            rw [beq_eq_false_iff_ne]
            exact fun e => a4 (bytes_inj e)
          rw [a5] at Q
          clear hno a1 a2 a3 a4 a5
          go_wp2_with fail
          refine (Q.out _).mono ?_
          rintro e w' ⟨rfl, hb2⟩
          have hb3 := hbA.trans (hb2.mono (by have := hb.size; simp; omega))
          clear Q d1 d2 e3 hb2 hbA
          go_wp2_with fail
          go_ret
          exact ⟨rfl, hb3⟩

/-- What begin gives where it gives no ways. -/
def BeginErr (E : Int) (w : World) (e : Ending) (w' : World) : Prop :=
  e = .returned (.tuple #[.string ⟨#[]⟩, .agg #[.slice none 0 0, .map none], .iface 133 (.agg #[.int .i64 E])]) ∧ Below w.heap.size w w'
theorem pair_first (a b : ByteArray) : firstErr [a, b] = pairErr a.data.toList b.data.toList := by
  unfold pairErr
  show (if Sp.check a.data.toList = 0 then (if Sp.check b.data.toList = 0 then 0 else Sp.check b.data.toList) else Sp.check a.data.toList) = _
  by_cases h : Sp.check a.data.toList = 0
  · rw [if_pos h, if_pos h]
    by_cases h2 : Sp.check b.data.toList = 0
    · rw [if_pos h2, h2]
    · rw [if_neg h2]
  · rw [if_neg h, if_neg h]

set_option maxRecDepth 100000 in
set_option maxHeartbeats 1600000 in
theorem begin_err (A : Option Addr) (n c : Nat) (rs : List (ByteArray × ByteArray)) (a b : ByteArray) (w : World) (hn : n = rs.length) (hs : Short20 rs) (h : usesErr rs a.data.toList b.data.toList ≠ 0) (hx : Cells w A (ruleCells rs)) :
    Calls Tryz.prog 64 #[.slice A n c, .string a, .string b] w (BeginErr (usesErr rs a.data.toList b.data.toList) w) := by
  have hbW : Below w.heap.size w (w.alloc (.cells #[.slice none 0 0, .map none] 108)) := (Below.refl _ w).alloc (Nat.le_refl _) _
  have hr := heap_alloc_new w (.cells #[.slice none 0 0, .map none] 108)
  have hWs : (w.alloc (.cells #[.slice none 0 0, .map none] 108)).heap.size = w.heap.size + 1 := by simp
  unfold BeginErr
  by_cases hre : rulesErr rs = 0
  · have hf := rulesOk_of hre
    have e1 : usesErr rs a.data.toList b.data.toList = firstErr [a, b] := by unfold usesErr; rw [if_pos hre, pair_first]
    rw [e1] at h ⊢
    have Q1 := Lib.hid (fun W h => checkRules_ok A n c rs W hn hf h)
    have q2 := fun B W hx => readAll_err B 2 2 [a, b] W rfl (by omega) h hx
    unfold ListErrAns at q2
    have Q2 := Lib.hid q2
    have HX := Lib.hid hx
    generalize firstErr [a, b] = E at *
    clear hn hx hf hre e1 h q2
    go_enter Tryz.func64, Tryz.ntmps64
    go_wp2_with fail
    generalize w.alloc (.cells #[.slice none 0 0, .map none] 108) = W at *
    refine (Q1.out _ (HX.out.below hbW)).mono ?_
    rintro e w1 ⟨rfl, hb1⟩
    have hb1' := hbW.trans (hb1.mono hbW.size)
    have hr1 := (hb1.block _ (by omega)).trans hr
    have hs1 := hb1.size
    clear hbW hr hb1
    go_wp2_with fail
    have ca := cells_lit w1 #[.string a, .string b] 9 2 rfl (by unfold maxLen; omega)
    have hba := hb1'.alloc (o := .cells #[.string a, .string b] 9) hb1'.size
    have hr2 := (Below.heap_alloc w1 (.cells #[.string a, .string b] 9) w.heap.size (by omega)).trans hr1
    clear hb1' hr1
    generalize w1.alloc (.cells #[.string a, .string b] 9) = W2 at *
    refine (Q2.out _ _ ca).mono ?_
    rintro e w3 ⟨rfl, hb3⟩
    have hb3' := hba.trans (hb3.mono hba.size)
    have hr3 := (hb3.block _ (Array.getElem?_eq_some_iff.1 hr2).1).trans hr2
    obtain ⟨c0, c1, f0, f1⟩ := block2_cells hr3
    obtain ⟨z0, z1, _, _⟩ := block2_cells (block2 hr3 (.slice none 0 0) (.map none))
    have hbb := (hb3'.setCell (p := ⟨w.heap.size, 0, none⟩) (Nat.le_refl _) (.slice none 0 0)).setCell (p := ⟨w.heap.size, 1, none⟩) (Nat.le_refl _) (.map none)
    have Z0 := Lib.hid z0
    have Z1 := Lib.hid z1
    clear z0 z1 hb3 hr2 Q1 Q2 ca
    go_wp2_with fail
    have z0 := Z0.out
    have z1 := Z1.out
    exact bodyPost_ret (v := .tuple #[.string ⟨#[]⟩, .agg #[.slice none 0 0, .map none], .iface 133 (.agg #[.int .i64 E])]) (by simp [results, Tryz.results64, go_sem, z0, z1]) rfl ⟨rfl, hbb⟩
  · have e1 : usesErr rs a.data.toList b.data.toList = rulesErr rs := by unfold usesErr; rw [if_neg hre]
    rw [e1] at h ⊢
    have q1 := (fun W h' => checkRules_err A n c rs W hn hs h h')
    unfold RuleErrAns at q1
    have Q1 := Lib.hid q1
    have HX := Lib.hid hx
    generalize rulesErr rs = E at *
    clear hn hx e1 h q1
    go_enter Tryz.func64, Tryz.ntmps64
    go_wp2_with fail
    generalize w.alloc (.cells #[.slice none 0 0, .map none] 108) = W at *
    refine (Q1.out _ (HX.out.below hbW)).mono ?_
    rintro e w1 ⟨rfl, hb1⟩
    have hb1' := hbW.trans (hb1.mono hbW.size)
    have hr1 := (hb1.block _ (by omega)).trans hr
    obtain ⟨c0, c1, f0, f1⟩ := block2_cells hr1
    obtain ⟨z0, z1, _, _⟩ := block2_cells (block2 hr1 (.slice none 0 0) (.map none))
    have hbb := (hb1'.setCell (p := ⟨w.heap.size, 0, none⟩) (Nat.le_refl _) (.slice none 0 0)).setCell (p := ⟨w.heap.size, 1, none⟩) (Nat.le_refl _) (.map none)
    have Z0 := Lib.hid z0
    have Z1 := Lib.hid z1
    clear z0 z1 hb1 hr Q1
    go_wp2_with fail
    have z0 := Z0.out
    have z1 := Z1.out
    exact bodyPost_ret (v := .tuple #[.string ⟨#[]⟩, .agg #[.slice none 0 0, .map none], .iface 133 (.agg #[.int .i64 E])]) (by simp [results, Tryz.results64, go_sem, z0, z1]) rfl ⟨rfl, hbb⟩

/-! ### Uses, Verdict and Chain -/

def TwoAns (p : Int × Int) (w : World) (e : Ending) (w' : World) : Prop := e = .returned (.tuple #[.int .i64 p.1, .int .i64 p.2]) ∧ Below w.heap.size w w'

set_option maxRecDepth 100000 in
set_option maxHeartbeats 1600000 in
theorem pUses_any (A : Option Addr) (n c : Nat) (rs : List (ByteArray × ByteArray)) (a b : ByteArray) (w : World) (hL : LaidErr w) (hn : n = rs.length) (hs : Short20 rs) (hx : Cells w A (ruleCells rs)) :
    Calls Tryz.prog 26 #[.slice A n c, .string a, .string b] w (TwoAns (usesA rs a b) w) := by
  by_cases h : usesErr rs a.data.toList b.data.toList = 0
  · obtain ⟨h1, h2, h3⟩ := pair_zero h
    have hv : AllOk [a, b] := fun s hs => by
      simp at hs
      rcases hs with rfl | rfl
      · exact h2
      · exact h3
    refine (Uses_ok A n c rs a b w hn (rulesOk_of h1) hv hx).mono ?_
    unfold UsesAns TwoAns usesA
    rw [if_pos h]
    rintro e w' ⟨rfl, hb⟩
    refine ⟨?_, hb⟩
    cases usesG rs (keyS b) (keyS a) <;> rfl
  · have q := begin_err A n c rs a b w hn hs h hx
    unfold BeginErr at q
    have QB := Lib.hid q
    have e1 : usesA rs a b = (0, usesErr rs a.data.toList b.data.toList) := by unfold usesA; rw [if_neg h]
    unfold TwoAns
    rw [e1]
    generalize usesErr rs a.data.toList b.data.toList = E at *
    have QE := Lib.hid (fun W h => codeOf_err E W h)
    have HL := Lib.hid hL
    clear hn hs hx h q e1 hL
    go_enter Tryz.func26, Tryz.ntmps26
    go_wp2_with fail
    refine QB.out.mono ?_
    rintro e w1 ⟨rfl, hb1⟩
    have hb2 := hb1.alloc (o := .cells #[.slice none 0 0, .map none] 108) hb1.size
    go_wp2_with fail
    refine (QE.out _ (HL.out.below hb2)).mono ?_
    rintro e w3 ⟨rfl, hb3⟩
    have hb4 := hb2.trans (hb3.mono hb2.size)
    go_wp2_with fail
    go_ret2
    exact ⟨rfl, hb4⟩
set_option maxRecDepth 100000 in
set_option maxHeartbeats 1600000 in
theorem pVerdict_any (A : Option Addr) (n c : Nat) (rs : List (ByteArray × ByteArray)) (a b : ByteArray) (w : World) (hL : LaidErr w) (hn : n = rs.length) (hs : Short20 rs) (hx : Cells w A (ruleCells rs)) :
    Calls Tryz.prog 28 #[.slice A n c, .string a, .string b] w (TwoAns (verdictP rs a b) w) := by
  rw [verdictP_eq]
  by_cases h : usesErr rs a.data.toList b.data.toList = 0
  · obtain ⟨h1, h2, h3⟩ := pair_zero h
    have hv : AllOk [a, b] := fun s hs => by
      simp at hs
      rcases hs with rfl | rfl
      · exact h2
      · exact h3
    rw [if_pos h]
    exact Verdict_ok A n c rs a b w hn (rulesOk_of h1) hv hx
  · have q := begin_err A n c rs a b w hn hs h hx
    unfold BeginErr at q
    have QB := Lib.hid q
    rw [if_neg h]
    unfold TwoAns
    generalize usesErr rs a.data.toList b.data.toList = E at *
    have QE := Lib.hid (fun W h => codeOf_err E W h)
    have HL := Lib.hid hL
    clear hn hs hx h q hL
    go_enter Tryz.func28, Tryz.ntmps28
    go_wp2_with fail
    refine QB.out.mono ?_
    rintro e w1 ⟨rfl, hb1⟩
    have hb2 := hb1.alloc (o := .cells #[.slice none 0 0, .map none] 108) hb1.size
    go_wp2_with fail
    refine (QE.out _ (HL.out.below hb2)).mono ?_
    rintro e w3 ⟨rfl, hb3⟩
    have hb4 := hb2.trans (hb3.mono hb2.size)
    go_wp2_with fail
    go_ret2
    exact ⟨rfl, hb4⟩
set_option maxRecDepth 100000 in
set_option maxHeartbeats 1600000 in
theorem pChain_any (A : Option Addr) (n c : Nat) (rs : List (ByteArray × ByteArray)) (a b : ByteArray) (w : World) (hL : LaidErr w) (hn : n = rs.length) (hs : Short20 rs) (hx : Cells w A (ruleCells rs)) :
    Calls Tryz.prog 39 #[.slice A n c, .string a, .string b] w (ChainsPost (chainP rs a b) w) := by
  rw [chainP_eq]
  by_cases h : usesErr rs a.data.toList b.data.toList = 0
  · obtain ⟨h1, h2, h3⟩ := pair_zero h
    have hv : AllOk [a, b] := fun s hs => by
      simp at hs
      rcases hs with rfl | rfl
      · exact h2
      · exact h3
    rw [if_pos h]
    cases hU : usesG rs (keyS b) (keyS a) with
    | none =>
      refine (Chain_none A n c rs a b w hn (rulesOk_of h1) hv hx hU).mono ?_
      rintro e w' ⟨rfl, hb⟩
      have ec : chainG rs (keyS a) (keyS b) = ([], 11) := by unfold chainG; rw [hU]
      rw [ec]
      exact ⟨_, rfl, World.ownsRow_nil _ _ _ _, hb⟩
    | some u => exact Chain_ok A n c u rs a b w hn (rulesOk_of h1) hv hx hU (usesG_le hU) (keyS_key12 h2).2 (steps_ok (keyS_key12 h3) u _ (keyS_key12 h2) hU)
  · have q := begin_err A n c rs a b w hn hs h hx
    unfold BeginErr at q
    have QB := Lib.hid q
    rw [if_neg h]
    unfold ChainsPost
    generalize usesErr rs a.data.toList b.data.toList = E at *
    have QE := Lib.hid (fun W h => codeOf_err E W h)
    have HL := Lib.hid hL
    clear hn hs hx h q hL
    go_enter Tryz.func39, Tryz.ntmps39
    go_wp2_with fail
    refine QB.out.mono ?_
    rintro e w1 ⟨rfl, hb1⟩
    have hb2 := hb1.alloc (o := .cells #[.slice none 0 0, .map none] 108) hb1.size
    go_wp2_with fail
    refine (QE.out _ (HL.out.below hb2)).mono ?_
    rintro e w3 ⟨rfl, hb3⟩
    have hb4 := hb2.trans (hb3.mono hb2.size)
    go_wp2_with fail
    go_ret2
    exact ⟨_, rfl, World.ownsRow_nil _ _ _ _, hb4⟩

/-- Near's answer. -/
def NearAns (xs : List Int) (E : Int) (w : World) (e : Ending) (w' : World) : Prop :=
  ∃ (B : Option Addr) (c : Nat), e = .returned (.tuple #[.slice B xs.length c, .int .i64 E]) ∧ Cells w' B (xs.map (Value.int .i64)) ∧ Below w.heap.size w w'
set_option maxRecDepth 100000 in
set_option maxHeartbeats 1600000 in
theorem pNear_any (A : Option Addr) (nn c : Nat) (rs : List (ByteArray × ByteArray)) (m : ByteArray) (B : Option Addr) (n d : Nat) (ss : List ByteArray) (w : World) (hL : LaidErr w) (hn : nn = rs.length) (hs : Short20 rs) (hx : Cells w A (ruleCells rs)) (hm : n = ss.length) (hy : Cells w B (ss.map Value.string)) :
    Calls Tryz.prog 29 #[.slice A nn c, .string m, .slice B n d] w (NearAns (nearL rs m ss) (nearErr rs m ss) w) := by
  have HL := Lib.hid hL
  have HX := Lib.hid hx
  have HY := Lib.hid hy
  by_cases hr : rulesErr rs = 0
  · have hf := rulesOk_of hr
    by_cases hc : Sp.check m.data.toList = 0
    · have e1 : nearErr rs m ss = listErr ss := by unfold nearErr; rw [if_pos hr, if_pos hc]
      by_cases hl : listErr ss = 0
      · obtain ⟨l6, hok⟩ := list_facts hl
        rw [nearL_eq rs m ss (by rw [e1, hl]), e1, hl]
        exact Near_ok A nn c rs m B n d ss w hn hf hc hx hm (by omega) hok hy
      · have e2 : nearL rs m ss = [] := by unfold nearL; rw [e1, if_neg hl]
        rw [e1, e2]
        have Q1 := Lib.hid (fun W h => checkRules_ok A nn c rs W hn hf h)
        have q2 := (fun W => read_ok m W hc)
        unfold ReadOk at q2
        have Q2 := Lib.hid q2
        have q3 := (fun W h => readList_err B n d ss W hm hl h)
        unfold ListErrAns at q3
        have Q3 := Lib.hid q3
        unfold NearAns
        generalize listErr ss = E at *
        generalize alphaN m.data.toList = al at *
        generalize keyS m = K at *
        have QE := Lib.hid (fun W h => codeOf_err E W h)
        clear hL hx hy hn hs hm hr hf hc hl e1 e2 q2 q3
        go_enter Tryz.func29, Tryz.ntmps29
        go_wp2_with fail
        refine (Q1.out _ HX.out).mono ?_
        rintro e w1 ⟨rfl, hb1⟩
        go_wp2_with fail
        refine (Q2.out _).mono ?_
        rintro e w2 ⟨rfl, hb2⟩
        have hb3 := (hb1.trans (hb2.mono hb1.size)).alloc (o := .cells #[.string K, .int .i64 al] 84) (by have := hb1.size; have := hb2.size; omega)
        clear Q1 Q2 hb1 hb2
        go_wp2_with fail
        refine (Q3.out _ (HY.out.below hb3)).mono ?_
        rintro e w3 ⟨rfl, hb4⟩
        have hb5 := hb3.trans (hb4.mono hb3.size)
        clear Q3 hb3 hb4
        go_wp2_with fail
        refine (QE.out _ (HL.out.below hb5)).mono ?_
        rintro e w4 ⟨rfl, hb6⟩
        have hb7 := hb5.trans (hb6.mono hb5.size)
        go_wp2_with fail
        go_ret2
        exact ⟨none, 0, rfl, fun i hi => absurd hi (by simp), hb7⟩
    · have e1 : nearErr rs m ss = Sp.check m.data.toList := by unfold nearErr; rw [if_pos hr, if_neg hc]
      have e2 : nearL rs m ss = [] := by unfold nearL; rw [e1, if_neg hc]
      rw [e1, e2]
      have Q1 := Lib.hid (fun W h => checkRules_ok A nn c rs W hn hf h)
      have q2 := (fun W => read_err m W hc)
      unfold ReadErr at q2
      have Q2 := Lib.hid q2
      unfold NearAns
      generalize Sp.check m.data.toList = E at *
      have QE := Lib.hid (fun W h => codeOf_err E W h)
      clear hL hx hy hn hs hm hr hf hc e1 e2 q2
      go_enter Tryz.func29, Tryz.ntmps29
      go_wp2_with fail
      refine (Q1.out _ HX.out).mono ?_
      rintro e w1 ⟨rfl, hb1⟩
      go_wp2_with fail
      refine (Q2.out _).mono ?_
      rintro e w2 ⟨rfl, hb2⟩
      have hb3 := (hb1.trans (hb2.mono hb1.size)).alloc (o := .cells #[.string ⟨#[]⟩, .int .i64 0] 84) (by have := hb1.size; have := hb2.size; omega)
      clear Q1 Q2 hb1 hb2
      go_wp2_with fail
      refine (QE.out _ (HL.out.below hb3)).mono ?_
      rintro e w4 ⟨rfl, hb6⟩
      have hb7 := hb3.trans (hb6.mono hb3.size)
      go_wp2_with fail
      go_ret2
      exact ⟨none, 0, rfl, fun i hi => absurd hi (by simp), hb7⟩
  · have e1 : nearErr rs m ss = rulesErr rs := by unfold nearErr; rw [if_neg hr]
    have e2 : nearL rs m ss = [] := by unfold nearL; rw [e1, if_neg hr]
    rw [e1, e2]
    have q1 := (fun W h => checkRules_err A nn c rs W hn hs hr h)
    unfold RuleErrAns at q1
    have Q1 := Lib.hid q1
    unfold NearAns
    generalize rulesErr rs = E at *
    have QE := Lib.hid (fun W h => codeOf_err E W h)
    clear hL hx hy hn hs hm hr e1 e2 q1
    go_enter Tryz.func29, Tryz.ntmps29
    go_wp2_with fail
    refine (Q1.out _ HX.out).mono ?_
    rintro e w1 ⟨rfl, hb1⟩
    go_wp2_with fail
    refine (QE.out _ (HL.out.below hb1)).mono ?_
    rintro e w4 ⟨rfl, hb6⟩
    have hb7 := hb1.trans (hb6.mono hb1.size)
    go_wp2_with fail
    go_ret2
    exact ⟨none, 0, rfl, fun i hi => absurd hi (by simp), hb7⟩
end Go.Proofs.YtljlkhaolfihjaaGreatDoor
