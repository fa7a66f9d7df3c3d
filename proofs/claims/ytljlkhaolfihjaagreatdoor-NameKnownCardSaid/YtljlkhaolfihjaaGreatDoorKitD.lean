/- How long rules and strings are. -/
import Derived.Test.YtljlkhaolfihjaaGreatDoorKitC
namespace Go.Proofs.YtljlkhaolfihjaaGreatDoor
open Go.RowKit

def LongPost (rs : List (ByteArray × ByteArray)) (ss : List ByteArray) (w : World) (e : Ending) (w' : World) : Prop :=
  e = .returned (.bool (longB rs ss)) ∧ Drew w w'

theorem any_drop {α : Type} (p : α → Bool) (xs : List α) (k : Nat) (hk : k < xs.length) : (xs.drop k).any p = (p xs[k] || (xs.drop (k + 1)).any p) := by
  rw [List.drop_eq_getElem_cons hk]; rfl

def strLong (s : ByteArray) : Bool := decide (20 < s.size)
def ruleLong (r : ByteArray × ByteArray) : Bool := decide (20 < r.1.size + r.2.size)
theorem longB_eq (rs : List (ByteArray × ByteArray)) (ss : List ByteArray) : longB rs ss = (ss.any strLong || rs.any ruleLong || decide (20 < ss.length) || decide (20 < rs.length)) := rfl

set_option maxRecDepth 100000 in
set_option maxHeartbeats 3200000 in
theorem long_any (A B : Option Addr) (n c m d : Nat) (rs : List (ByteArray × ByteArray)) (ss : List ByteArray) (w : World) (hn : n = rs.length) (hm : m = ss.length) (nb : n ≤ 1000000000000000000) (mb : m ≤ 1000000000000000000) (hf : Fine rs)
    (hx : Cells w A (ruleCells rs)) (hy : Cells w B (ss.map Value.string)) :
    Calls Tryz.prog 7 #[.slice A n c, .slice B m d] w (LongPost rs ss w) := by
  have HN := Lib.hid hn
  have HM := Lib.hid hm
  have HX := Lib.hid hx
  have HY := Lib.hid hy
  have HV := Lib.hid hf
  have HL := Lib.hid (longB_eq rs ss)
  clear hn hm hx hy hf
  go_enter Tryz.func7, Tryz.ntmps7
  go_wp2_with fail
  go_loopw [5] (fun i wr => ∃ k : Nat, k ≤ m ∧ i = .int .i64 k ∧ (ss.drop k).any strLong = ss.any strLong ∧ Drew w wr) (fun i _ => m - (intOf i).toNat)
  case atStart => exact ⟨0, Nat.zero_le _, rfl, rfl, 0, rfl⟩
  case round =>
    obtain ⟨k, hk, rfl, ht, hd⟩ := hrel
    have HT := Lib.hid ht
    clear ht
    by_cases hlt : k < m
    · have hks : k < ss.length := by rw [← HM.out]; exact hlt
      obtain ⟨b1, o1, rfl, c1⟩ := HY.out.str k hks
      have c2 := (hd.cell _).trans c1
      have ed := any_drop strLong ss k hks
      generalize hX : ss[k] = X at *
      have ED := Lib.hid ed
      clear c1 hX ed
      by_cases hl : 20 < X.size
      · have es : strLong X = true := decide_eq_true hl
        have ea : longB rs ss = true := by rw [HL.out, ← HT.out, ED.out, es]; rfl
        have EA := Lib.hid ea
        clear es ea
        go_wp2
        go_ret
        exact ⟨ret_bool EA.out.symm, hd⟩
      · have es : strLong X = false := decide_eq_false hl
        have ES := Lib.hid es
        clear es
        go_wp2
        go_roundw
        case rel => exact ⟨k + 1, by omega, by go_num, by rw [← HT.out, ED.out, ES.out]; rfl, hd⟩
        case measure => simp [intOf]; omega
    · have e0 : ss.any strLong = false := by
        rw [← HT.out, List.drop_eq_nil_of_le (by rw [← HM.out]; omega)]; rfl
      have E0 := Lib.hid e0
      clear e0
      go_wp2_with fail
      go_loopw [6] (fun i wr => ∃ k : Nat, k ≤ n ∧ i = .int .i64 k ∧ (rs.drop k).any ruleLong = rs.any ruleLong ∧ Drew w wr) (fun i _ => n - (intOf i).toNat)
      case atStart => exact ⟨0, Nat.zero_le _, rfl, rfl, hd⟩
      case round =>
        obtain ⟨k, hk, rfl, ht, hd⟩ := hrel
        have HT := Lib.hid ht
        clear ht
        by_cases hlt : k < n
        · have hks : k < rs.length := by rw [← HN.out]; exact hlt
          obtain ⟨b1, o1, rfl, c1, c2⟩ := HX.out.rule k hks
          have d1 := (hd.cell _).trans c1
          have d2 := (hd.cell _).trans c2
          have ed := any_drop ruleLong rs k hks
          obtain ⟨z1, z2⟩ := HV.out rs[k] (List.getElem_mem _)
          generalize hX : rs[k] = X at *
          obtain ⟨X, Y⟩ := X
          simp only at d1 d2 z1 z2
          have ED := Lib.hid ed
          have j5 : (0 : Int) ≤ (k : Int) := by omega
          have j6 : (k : Int) < (n : Int) := by omega
          have j7 : IntKind.i64.wrap ((X.size : Int) + (Y.size : Int)) = (X.size : Int) + (Y.size : Int) := IntWalk.i64_in _ (by omega)
          clear c1 c2 hX ed
          by_cases hl : 20 < X.size + Y.size
          · have es : ruleLong (X, Y) = true := decide_eq_true hl
            have ea : longB rs ss = true := by rw [HL.out, ← HT.out, ED.out, es]; simp
            have EA := Lib.hid ea
            have j8 : decide ((20 : Int) < (X.size : Int) + (Y.size : Int)) = true := by simp; omega
            have j9 : (20 : Int) < (X.size : Int) + (Y.size : Int) := by omega
            clear es ea
            go_wp2_with fail
            go_quiet (fail)
            go_wp2
            go_ret
            exact ⟨ret_bool EA.out.symm, hd.on _⟩
          · have es : ruleLong (X, Y) = false := decide_eq_false hl
            have ES := Lib.hid es
            have j8 : decide ((20 : Int) < (X.size : Int) + (Y.size : Int)) = false := by simp; omega
            clear es
            go_wp2_with fail
            go_quiet (fail)
            go_wp2
            exact ⟨⟨k + 1, by omega, by go_num, by rw [← HT.out, ED.out, ES.out]; rfl, hd.on _⟩, by simp [intOf]; omega⟩
        · have e1 : rs.any ruleLong = false := by
            rw [← HT.out, List.drop_eq_nil_of_le (by rw [← HN.out]; omega)]; rfl
          have ea : longB rs ss = (decide (20 < m) || decide (20 < n)) := by rw [HL.out, E0.out, e1, HM.out, HN.out]; rfl
          have EA := Lib.hid ea
          clear e1 ea
          by_cases hm20 : 20 < m
          · go_wp2
            go_ret
            exact ⟨ret_bool (by rw [EA.out, decide_eq_true hm20]; rfl), hd⟩
          · by_cases hn20 : 20 < n
            · have j8 : decide ((20 : Int) < (m : Int)) = false := by simp; omega
              have j9 : decide ((20 : Int) < (n : Int)) = true := by simp; omega
              go_wp2
              go_ret
              exact ⟨ret_bool (by rw [EA.out, decide_eq_true hn20, Bool.or_true]), hd⟩
            · have j8 : decide ((20 : Int) < (m : Int)) = false := by simp; omega
              have j9 : decide ((20 : Int) < (n : Int)) = false := by simp; omega
              go_wp2
              go_ret
              exact ⟨ret_bool (by rw [EA.out, decide_eq_false hn20, decide_eq_false hm20]; rfl), hd⟩
end Go.Proofs.YtljlkhaolfihjaaGreatDoor
