/- Rules that are compared. -/
import Derived.Test.YtlhiekeolmgilaaGreatDoorKitB
import Derived.Test.YtlhiekeolmgilaaGreatDoorRefJ
namespace Go.Proofs.YtlhiekeolmgilaaGreatDoor
open Go.RowKit

set_option maxRecDepth 100000 in
set_option maxHeartbeats 1600000 in
theorem EqRules_same (A B : Option Addr) (n c c' : Nat) (xs ys : List (ByteArray × ByteArray)) (w : World) (hn : n = xs.length) (hm : n = ys.length) (hb : n ≤ 1000000000000000000)
    (hx : Cells w A (ruleCells xs)) (hy : Cells w B (ruleCells ys)) :
    Calls Tryz.prog 37 #[.slice A n c, .slice B n c'] w (EqPost xs ys w) := by
  have HN := Lib.hid hn
  have HM := Lib.hid hm
  have HX := Lib.hid hx
  have HY := Lib.hid hy
  clear hn hm hx hy
  go_enter Tryz.func37, Tryz.ntmps37
  go_wp2_with fail
  go_loopw [5] (fun i wr => ∃ k : Nat, k ≤ n ∧ i = .int .i64 k ∧ xs.take k = ys.take k ∧ Drew w wr) (fun i _ => n - (intOf i).toNat)
  case atStart => exact ⟨0, Nat.zero_le _, rfl, rfl, 0, rfl⟩
  case round =>
    obtain ⟨k, hk, rfl, ht, hd⟩ := hrel
    have HT := Lib.hid ht
    clear ht
    by_cases hlt : k < n
    · have hkx : k < xs.length := by rw [← HN.out]; exact hlt
      have hky : k < ys.length := by rw [← HM.out]; exact hlt
      obtain ⟨b1, o1, rfl, c1, c3⟩ := HX.out.rule k hkx
      obtain ⟨b2, o2, rfl, c2, c4⟩ := HY.out.rule k hky
      generalize hX : xs[k] = X at *
      generalize hY : ys[k] = Y at *
      obtain ⟨X1, X2⟩ := X
      obtain ⟨Y1, Y2⟩ := Y
      simp only at c1 c2 c3 c4
      have d1 := (hd.cell _).trans c1
      have d2 := (hd.cell _).trans c2
      have d3 := (hd.cell _).trans c3
      have d4 := (hd.cell _).trans c4
      have H1 := Lib.hid hX
      have H2 := Lib.hid hY
      have j5 : (0 : Int) ≤ (k : Int) := by omega
      have j6 : (k : Int) < (n : Int) := by omega
      clear hX hY c1 c2 c3 c4
      by_cases e : X1 = Y1
      · have e1 : (X1.toList == Y1.toList) = true := by simp [e]
        by_cases e' : X2 = Y2
        · have e2 : (X2.toList == Y2.toList) = true := by simp [e']
          have E := Lib.hid e
          have E' := Lib.hid e'
          clear e e'
          go_wp2_with fail
          go_quiet (fail)
          go_wp2
          exact ⟨⟨k + 1, by omega, by go_num, take_eq_step hkx hky HT.out (by rw [H1.out, H2.out, E.out, E'.out]), hd.on _⟩, by simp [intOf]; omega⟩
        · have e2 : (X2.toList == Y2.toList) = false := by rw [beq_eq_false_iff_ne]; exact fun h => e' (bytes_inj h)
          have E := Lib.hid e
          have E' := Lib.hid e'
          clear e e'
          go_wp2_with fail
          go_quiet (fail)
          go_wp2
          go_ret
          exact ⟨ret_bool (decide_eq_false (ne_of_at hkx hky (by rw [H1.out, H2.out]; intro h; injection h with h1 h2; exact E'.out h2))).symm, hd.on _⟩
      · have e1 : (X1.toList == Y1.toList) = false := by rw [beq_eq_false_iff_ne]; exact fun h => e (bytes_inj h)
        have E := Lib.hid e
        clear e
        go_wp2_with fail
        go_quiet (fail)
        go_wp2
        go_ret
        exact ⟨ret_bool (decide_eq_false (ne_of_at hkx hky (by rw [H1.out, H2.out]; intro h; injection h with h1 h2; exact E.out h1))).symm, hd.on _⟩
    · have e : xs = ys := by
        have h := HT.out
        rwa [List.take_of_length_le (by rw [← HN.out]; omega), List.take_of_length_le (by rw [← HM.out]; omega)] at h
      have E := Lib.hid e
      clear e
      go_wp2
      go_ret
      exact ⟨ret_bool (decide_eq_true E.out).symm, hd⟩

set_option maxHeartbeats 800000 in
theorem EqRules_any (A B : Option Addr) (n m c c' : Nat) (xs ys : List (ByteArray × ByteArray)) (w : World) (hn : n = xs.length) (hm : m = ys.length) (hb : n ≤ 1000000000000000000)
    (hx : Cells w A (ruleCells xs)) (hy : Cells w B (ruleCells ys)) :
    Calls Tryz.prog 37 #[.slice A n c, .slice B m c'] w (EqPost xs ys w) := by
  by_cases h : n = m
  · subst h
    exact EqRules_same A B n c c' xs ys w hn hm hb hx hy
  · have hne : ((n : Int) != m) = true := by rw [bne_iff_ne]; omega
    have e : xs ≠ ys := by rintro rfl; omega
    have E := Lib.hid e
    clear e hn hm h hx hy hb
    go_enter Tryz.func37, Tryz.ntmps37
    go_wp2
    go_ret
    exact ⟨ret_bool (decide_eq_false E.out).symm, 0, rfl⟩
end Go.Proofs.YtlhiekeolmgilaaGreatDoor
