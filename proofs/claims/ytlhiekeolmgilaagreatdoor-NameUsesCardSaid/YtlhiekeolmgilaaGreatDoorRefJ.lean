/- The reference of names: rules that are valid. -/
import Derived.Test.YtlhiekeolmgilaaGreatDoorRefI
import Derived.Test.YtlhiekeolmgilaaGreatDoorDiceF
namespace Go.Proofs.YtlhiekeolmgilaaGreatDoor
open Go.RowKit

theorem ruleCells_get (rs : List (ByteArray × ByteArray)) (k : Nat) (hk : k < rs.length) :
    (ruleCells rs).getD (k * 2) undef = .string rs[k].1 ∧ (ruleCells rs).getD (k * 2 + 1) undef = .string rs[k].2 ∧ k * 2 + 1 < (ruleCells rs).length := by
  induction rs generalizing k with
  | nil => simp at hk
  | cons r t ih =>
    cases k with
    | zero => exact ⟨rfl, rfl, by simp [ruleCells]⟩
    | succ k =>
      obtain ⟨h1, h2, h3⟩ := ih k (by simpa using hk)
      have e : ruleCells (r :: t) = .string r.1 :: .string r.2 :: ruleCells t := rfl
      refine ⟨?_, ?_, ?_⟩
      · rw [e]; exact (by rw [show (k + 1) * 2 = k * 2 + 1 + 1 from by omega]; rfl : _ = (ruleCells t).getD (k * 2) undef).trans h1
      · rw [e]; exact (by rw [show (k + 1) * 2 + 1 = k * 2 + 1 + 1 + 1 from by omega]; rfl : _ = (ruleCells t).getD (k * 2 + 1) undef).trans h2
      · rw [e]; simp; omega

theorem Cells.rule {w : World} {A : Option Addr} {rs : List (ByteArray × ByteArray)} (h : Cells w A (ruleCells rs)) (k : Nat) (hk : k < rs.length) :
    ∃ b off : Nat, A = some ⟨b, off, none⟩ ∧ w.cell? ⟨b, off + k * 2, none⟩ = some (.string rs[k].1) ∧ w.cell? ⟨b, off + k * 2 + 1, none⟩ = some (.string rs[k].2) := by
  obtain ⟨g1, g2, g3⟩ := ruleCells_get rs k hk
  obtain ⟨b, off, e, h1⟩ := h (k * 2) (by omega)
  obtain ⟨b', off', e', h2⟩ := h (k * 2 + 1) g3
  rw [e] at e'
  injection e' with e'
  injection e' with e1 e2 _
  subst e1 e2
  exact ⟨b, off, e, by rw [h1, g1], by rw [← g2, ← h2, Nat.add_assoc]⟩

def ruleOk (r : ByteArray × ByteArray) : Bool := lettersB r.1.data.toList 1 2 && lettersB r.2.data.toList 0 2 && !decide (r.1.data.toList = r.2.data.toList)
def rulesErr (rs : List (ByteArray × ByteArray)) : Int := if 4 < rs.length then 6 else if rs.all ruleOk then 0 else 2

theorem all_drop {α : Type} (p : α → Bool) (xs : List α) (k : Nat) (hk : k < xs.length) : (xs.drop k).all p = (p xs[k] && (xs.drop (k + 1)).all p) := by
  rw [List.drop_eq_getElem_cons hk]; rfl

def RulesErrPost (rs : List (ByteArray × ByteArray)) (w : World) (e : Ending) (w' : World) : Prop :=
  e = .returned (.int .i64 (rulesErr rs)) ∧ ∃ j, w' = w.drewN j

/-- Rules whose strings are not endless. -/
def Fine (rs : List (ByteArray × ByteArray)) : Prop := ∀ r, r ∈ rs → r.1.size ≤ 1000000000000000000 ∧ r.2.size ≤ 1000000000000000000

theorem list_eq {a b : ByteArray} : a.toList = b.toList ↔ a.data.toList = b.data.toList := by
  rw [ByteArray.toList_eq, ByteArray.toList_eq]

/-- A world that has drawn and done nothing else. -/
def Drew (w w' : World) : Prop := ∃ j, w' = w.drewN j
theorem Drew.cell {w w' : World} (h : Drew w w') (p : Addr) : w'.cell? p = w.cell? p := by obtain ⟨j, rfl⟩ := h; simp
theorem Drew.on {w w' : World} (h : Drew w w') (n : Nat) : Drew w (w'.drewN n) := by
  obtain ⟨j, rfl⟩ := h; exact ⟨j + n, World.drewN_drewN _ _ _⟩

theorem letters_quiet (s : ByteArray) (lo hi : Int) (w : World) (n : Nat) (h : s.size ≤ 1000000000000000000) :
    Calls Tryz.prog 117 #[.string s, .int .i64 lo, .int .i64 hi] (w.drewN n) fun e w' => e = .returned (.bool (lettersB s.data.toList lo hi)) ∧ ∃ m, w' = w.drewN m :=
  (letters_any s lo hi _ h).mono fun _ _ h => ⟨h.1, n, h.2.symm⟩

set_option maxRecDepth 100000 in
set_option maxHeartbeats 3200000 in
theorem checkRules_any (A : Option Addr) (n c : Nat) (rs : List (ByteArray × ByteArray)) (w : World) (hn : n = rs.length) (hf : Fine rs) (hx : Cells w A (ruleCells rs)) :
    Calls Tryz.prog 88 #[.slice A n c] w (RulesErrPost rs w) := by
  have HN := Lib.hid hn
  have HX := Lib.hid hx
  have HV := Lib.hid hf
  clear hn hx hf
  by_cases h4 : n ≤ 4
  · have el : rulesErr rs = if rs.all ruleOk then 0 else 2 := by unfold rulesErr; rw [if_neg (by rw [← HN.out]; omega)]
    have EL := Lib.hid el
    clear el
    go_enter Tryz.func88, Tryz.ntmps88
    go_wp2_with fail
    go_loopw [3] (fun i wr => ∃ k : Nat, k ≤ n ∧ i = .int .i64 k ∧ (rs.drop k).all ruleOk = rs.all ruleOk ∧ Drew w wr) (fun i _ => n - (intOf i).toNat)
    case atStart => exact ⟨0, Nat.zero_le _, rfl, rfl, 0, rfl⟩
    case round =>
      obtain ⟨k, hk, rfl, hf, hd⟩ := hrel
      have HF := Lib.hid hf
      clear hf
      by_cases hlt : k < n
      · have hks : k < rs.length := by rw [← HN.out]; exact hlt
        obtain ⟨b1, o1, rfl, c1, c2⟩ := HX.out.rule k hks
        have ed := all_drop ruleOk rs k hks
        obtain ⟨z1, z2⟩ := HV.out rs[k] (List.getElem_mem _)
        generalize hX : rs[k] = X at *
        obtain ⟨X, Y⟩ := X
        have ED := Lib.hid ed
        clear hX ed
        simp only at c1 c2 z1 z2
        have d1 := (hd.cell _).trans c1
        have d2 := (hd.cell _).trans c2
        have j4 : (k : Int) < (n : Int) := by omega
        have j5 : (0 : Int) ≤ (k : Int) := by omega
        have eo : ruleOk (X, Y) = (lettersB X.data.toList 1 2 && lettersB Y.data.toList 0 2 && !decide (X.data.toList = Y.data.toList)) := rfl
        have EO := Lib.hid eo
        clear eo c1 c2
        have q1 := fun (n : Nat) => letters_quiet X 1 2 wr n z1
        have q2 := fun (n : Nat) => letters_quiet Y 0 2 wr n z2
        cases h1 : lettersB X.data.toList 1 2 with
        | true =>
          rw [h1] at q1
          cases h2 : lettersB Y.data.toList 0 2 with
          | true =>
            rw [h2] at q2
            by_cases h3 : X.data.toList = Y.data.toList
            · have e3 : (X.toList == Y.toList) = true := by rw [beq_iff_eq, list_eq]; exact h3
              have e4 : ruleOk (X, Y) = false := by rw [EO.out, h1, h2, decide_eq_true h3]; rfl
              have E4 := Lib.hid e4
              have Q1 := Lib.hid q1
              have Q2 := Lib.hid q2
              clear h1 h2 h3 e4 q1 q2
              go_wp2_with fail
              go_quiet (first | (go_at_call_of 117 (Value.string X); exact Q1.out _) | (go_at_call_of 117 (Value.string Y); exact Q2.out _))
              go_wp2
              go_ret
              exact ⟨ret_int (by rw [EL.out, ← HF.out, ED.out, E4.out]; rfl), hd.on _⟩
            · have e3 : (X.toList == Y.toList) = false := by rw [beq_eq_false_iff_ne, ne_eq, list_eq]; exact h3
              have e4 : ruleOk (X, Y) = true := by rw [EO.out, h1, h2, decide_eq_false h3]; rfl
              have E4 := Lib.hid e4
              have Q1 := Lib.hid q1
              have Q2 := Lib.hid q2
              clear h1 h2 h3 e4 q1 q2
              go_wp2_with fail
              go_quiet (first | (go_at_call_of 117 (Value.string X); exact Q1.out _) | (go_at_call_of 117 (Value.string Y); exact Q2.out _))
              go_wp2
              exact ⟨⟨k + 1, by omega, by go_num, by rw [← HF.out, ED.out, E4.out]; rfl, hd.on _⟩, by simp [intOf]; omega⟩
          | false =>
            rw [h2] at q2
            have e4 : ruleOk (X, Y) = false := by rw [EO.out, h1, h2]; rfl
            have E4 := Lib.hid e4
            have Q1 := Lib.hid q1
            have Q2 := Lib.hid q2
            clear h1 h2 e4 q1 q2
            go_wp2_with fail
            go_quiet (first | (go_at_call_of 117 (Value.string X); exact Q1.out _) | (go_at_call_of 117 (Value.string Y); exact Q2.out _))
            go_wp2
            go_ret
            exact ⟨ret_int (by rw [EL.out, ← HF.out, ED.out, E4.out]; rfl), hd.on _⟩
        | false =>
          rw [h1] at q1
          have e4 : ruleOk (X, Y) = false := by rw [EO.out, h1]; rfl
          have E4 := Lib.hid e4
          have Q1 := Lib.hid q1
          clear h1 e4 q1 q2
          go_wp2_with fail
          go_quiet ((go_at_call 117; exact Q1.out _))
          go_wp2
          go_ret
          exact ⟨ret_int (by rw [EL.out, ← HF.out, ED.out, E4.out]; rfl), hd.on _⟩
      · have e0 : rs.all ruleOk = true := by
          rw [← HF.out, List.drop_eq_nil_of_le (by rw [← HN.out]; omega)]; rfl
        have E0 := Lib.hid e0
        clear e0
        go_wp2
        go_ret
        exact ⟨ret_int (by rw [EL.out, E0.out]; rfl), hd⟩
  · have el : rulesErr rs = 6 := by unfold rulesErr; rw [if_pos (by rw [← HN.out]; omega)]
    have EL := Lib.hid el
    clear el
    go_enter Tryz.func88, Tryz.ntmps88
    go_wp2
    go_ret
    exact ⟨ret_int EL.out.symm, 0, rfl⟩
end Go.Proofs.YtlhiekeolmgilaaGreatDoor
