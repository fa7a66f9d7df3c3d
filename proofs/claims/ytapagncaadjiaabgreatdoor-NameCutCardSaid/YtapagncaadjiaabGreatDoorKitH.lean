/- Where a number stands first in a list. -/
import Derived.Test.YtapagncaadjiaabGreatDoorRefK
namespace Go.Proofs.YtapagncaadjiaabGreatDoor
open Go.RowKit

def IndexPost (xs : List Int) (x : Int) (w : World) (e : Ending) (w' : World) : Prop :=
  ∃ v : Int, e = .returned (.int .i64 v) ∧ ((0 ≤ v ∧ x ∈ xs) ∨ (v = -1 ∧ x ∉ xs)) ∧ w' = w
set_option maxHeartbeats 800000 in
theorem Index_any (A : Option Addr) (n c : Nat) (xs : List Int) (x : Int) (w : World) (hn : n = xs.length) (hb : n ≤ 1000) (hx : Cells w A (xs.map (Value.int .i64))) :
    Calls Tryz.prog 22 #[.slice A n c, .int .i64 x] w (IndexPost xs x w) := by
  have HN := Lib.hid hn
  have HX := Lib.hid hx
  clear hn hx
  unfold IndexPost
  go_enter Tryz.func22, Tryz.ntmps22
  go_wp2_with fail
  go_loop [5] (fun i => ∃ k : Nat, k ≤ n ∧ i = .int .i64 k ∧ Hid (x ∉ xs.take k)) (fun i => n - (intOf i).toNat)
  case atStart => exact ⟨0, Nat.zero_le _, rfl, Lib.hid (by simp)⟩
  case round =>
    obtain ⟨k, hk, rfl, hno⟩ := hrel
    by_cases hlt : k < n
    · have hks : k < xs.length := by rw [← HN.out]; exact hlt
      obtain ⟨b, off, rfl, hc⟩ := HX.out k (by simpa using hks)
      have hv : (xs.map (Value.int .i64)).getD k undef = .int .i64 xs[k] := by
        rw [List.getD_eq_getElem?_getD, List.getElem?_map, List.getElem?_eq_getElem hks]; rfl
      rw [hv] at hc
      have hmem : xs[k] ∈ xs := List.getElem_mem hks
      have htk := List.take_succ_eq_append_getElem hks
      generalize xs[k] = y at *
      by_cases hy : y = x
      · subst hy
        have m1 : (y == y) = true := by simp
        have HM := Lib.hid hmem
        clear hmem hv htk
        go_wp2_with fail
        go_ret
        exact ⟨_, rfl, .inl ⟨by omega, HM.out⟩, rfl⟩
      · have m1 : (y == x) = false := by simp [hy]
        have hno2 : Hid (x ∉ xs.take (k + 1)) := Lib.hid (by
          rw [htk, List.mem_append, List.mem_singleton]
          rintro (h | h)
          · exact hno.out h
          · exact hy h.symm)
        clear hmem hv htk hy hno
        go_wp2_with fail
        go_round
        case rel => exact ⟨k + 1, by omega, by go_num, hno2⟩
        case measure => simp [intOf]; omega
    · have hall : Hid (x ∉ xs) := Lib.hid (by
        have := hno.out
        rwa [List.take_of_length_le (by rw [← HN.out]; omega)] at this)
      clear hno
      go_wp2_with fail
      go_ret
      exact ⟨_, rfl, .inr ⟨rfl, hall.out⟩, rfl⟩
end Go.Proofs.YtapagncaadjiaabGreatDoor
