/- Small words for all walks of this seat. -/
import Derived.Test.YtljlkhaolfihjaaGreatDoorProg
import Derived.WalkKit
import Derived.WalkSpells
import Derived.WalkLawsBesides
import Derived.Deep.Light
import Derived.Lib.Hide
import Derived.Deep.QuietTactic
import Derived.BigQuiet
import Derived.Test.YtljlkhaolfihjaaGreatDoorSpec
namespace Go.Proofs.YtljlkhaolfihjaaGreatDoor
open Go.RowKit

theorem ret_bool {a b : Bool} (h : a = b) : Ending.returned (.bool a) = .returned (.bool b) := by rw [h]
theorem ret_int {k : IntKind} {a b : Int} (h : a = b) : Ending.returned (.int k a) = .returned (.int k b) := by rw [h]
theorem ret_str {a b : ByteArray} (h : a = b) : Ending.returned (.string a) = .returned (.string b) := by rw [h]

theorem ret_val {a b : Value} (h : a = b) : Ending.returned a = .returned b := by rw [h]
theorem ret_two {a b c d : Value} (h : a = c) (k : b = d) : Ending.returned (.tuple #[a, b]) = .returned (.tuple #[c, d]) := by rw [h, k]
theorem int_val {k : IntKind} {a b : Int} (h : a = b) : Value.int k a = .int k b := by rw [h]
theorem bool_val {a b : Bool} (h : a = b) : Value.bool a = .bool b := by rw [h]

/-- A string of bytes. -/
abbrev str (l : List UInt8) : Value := .string ⟨l.toArray⟩
theorem str_val {a b : List UInt8} (h : a = b) : str a = str b := by rw [h]
theorem str_of {s : ByteArray} {b : List UInt8} (h : s.data.toList = b) : Value.string s = str b := by subst h; rfl

end Go.Proofs.YtljlkhaolfihjaaGreatDoor

/- The reference of names: letters. -/
namespace Go.Proofs.YtljlkhaolfihjaaGreatDoor
open Go.RowKit

set_option maxHeartbeats 400000 in
theorem latin_any (c : UInt8) (w : World) :
    Calls Tryz.prog 83 #[.int .u8 (c.toNat : Int)] w fun e w' => e = .returned (.bool (Sp.latin c)) ∧ w = w' := by
  go_enter Tryz.func83, Tryz.ntmps83
  go_wp2
  all_goals go_ret
  all_goals refine ⟨ret_bool ?_, rfl⟩
  all_goals (rw [Bool.eq_iff_iff]; simp [Sp.latin]; try omega)

theorem conv1 (x : Int) (w : World) : (convert 142 9 (.slice (some ⟨w.heap.size, 0, none⟩) 1 1)).run Tryz.prog (w.alloc (.cells #[.int .u8 x] 5)) = .ok (.string ⟨#[UInt8.ofNat x.toNat]⟩) (w.alloc (.cells #[.int .u8 x] 5)) := by
  have hc : (loadCells ⟨w.heap.size, 0, none⟩ 1).run Tryz.prog (w.alloc (.cells #[.int .u8 x] 5)) = .ok (([x].map (Value.int .u8)).toArray) (w.alloc (.cells #[.int .u8 x] 5)) := by
    simp [loadCells, loadCellsFrom, Addr.add]
  rw [run_convert_bytes_string _ _ _ _ _ _ _ Tryz.underlying142 Tryz.underlying5 Tryz.underlying9, run_bytesToString _ _ _ _ _ hc]
  rfl

set_option maxRecDepth 100000 in
set_option maxHeartbeats 400000 in
theorem stands_any (c : UInt8) (w : World) :
    Calls Tryz.prog 84 #[.int .u8 (c.toNat : Int)] w fun e w' => e = .returned (str (Sp.stands c)) ∧ Below w.heap.size w w' := by
  have h0 := Below.refl w.heap.size w
  go_enter Tryz.func84, Tryz.ntmps84
  go_wp2_with (rw [conv1])
  all_goals go_ret
  all_goals refine ⟨ret_str ?_, by first | exact h0 | exact h0.alloc (Nat.le_refl _) _⟩
  all_goals go_light
  all_goals simp only [beq_iff_eq, beq_eq_false_iff_ne] at *
  all_goals (unfold Sp.stands; repeat' split)
  all_goals first | rfl | (exfalso; omega) | (rw [show ((c.toNat : Int) - 65 + 97).toNat = c.toNat - 65 + 97 from by omega])

end Go.Proofs.YtljlkhaolfihjaaGreatDoor

/- The reference of names: which are valid. -/
namespace Go.Proofs.YtljlkhaolfihjaaGreatDoor
open Go.RowKit

theorem take_snoc (s : ByteArray) (k : Nat) (h : k < s.size) : s.data.toList.take (k + 1) = s.data.toList.take k ++ [s[k]] := by
  rw [List.take_succ_eq_append_getElem (by simpa using h)]; rfl
theorem own_snoc (l : List UInt8) (c : UInt8) : (Sp.own (l ++ [c]) : Int) = Sp.own l + if Sp.latin c then 1 else 0 := by
  unfold Sp.own; rw [List.filter_append]; by_cases h : Sp.latin c <;> simp [h]
theorem other_snoc (l : List UInt8) (c : UInt8) : (Sp.other (l ++ [c]) : Int) = Sp.other l + if (!(Sp.stands c).isEmpty) then 1 else 0 := by
  unfold Sp.other; rw [List.filter_append]; by_cases h : Sp.stands c = [] <;> simp [h]
theorem own_le (l : List UInt8) (k : Nat) : (Sp.own (l.take k) : Int) ≤ k := by
  have := List.length_filter_le Sp.latin (l.take k); have := List.length_take_le k l; unfold Sp.own; omega
theorem other_le (l : List UInt8) (k : Nat) : (Sp.other (l.take k) : Int) ≤ k := by
  have := List.length_filter_le (fun c => !(Sp.stands c).isEmpty) (l.take k); have := List.length_take_le k l; unfold Sp.other; omega

theorem check_bad (l : List UInt8) (h1 : 1 ≤ l.length) (h6 : l.length ≤ 6) (ho : Sp.own l < l.length) (ht : Sp.other l < l.length) : Sp.check l = 2 := by
  unfold Sp.check; rw [if_neg (by omega), if_neg (by omega), if_pos ⟨ho, ht⟩]
theorem check_ok (l : List UInt8) (h1 : 1 ≤ l.length) (h6 : l.length ≤ 6) (h : ¬ (Sp.own l < l.length ∧ Sp.other l < l.length)) : Sp.check l = 0 := by
  unfold Sp.check; rw [if_neg (by omega), if_neg (by omega), if_neg h]
theorem size_list (s : ByteArray) : s.data.toList.length = s.size := by simp

set_option maxRecDepth 100000 in
set_option maxHeartbeats 400000 in
theorem Check_mid (s : ByteArray) (w : World) (h1 : 1 ≤ s.size) (h6 : s.size ≤ 6) :
    Calls Tryz.prog 49 #[.string s] w fun e w' => e = .returned (.int .i64 (Sp.check s.data.toList)) ∧ Below w.heap.size w w' := by
  have hne : ((s.size : Int) == 0) = false := by rw [beq_eq_false_iff_ne]; omega
  go_enter Tryz.func49, Tryz.ntmps49
  go_wp2_with fail
  go_loopw [3, 4, 5] (fun o t i wr => ∃ k : Nat, k ≤ s.size ∧ i = .int .i64 k ∧ o = .int .i64 (Sp.own (s.data.toList.take k)) ∧ t = .int .i64 (Sp.other (s.data.toList.take k)) ∧ Below w.heap.size w wr) (fun _ _ i _ => s.size - (intOf i).toNat)
  case atStart => exact ⟨0, Nat.zero_le _, rfl, rfl, rfl, Below.refl _ _⟩
  case round =>
    obtain ⟨k, hk, rfl, rfl, rfl, hb⟩ := hrel
    have b1 := own_le s.data.toList k
    have b2 := other_le s.data.toList k
    have b3 : (0 : Int) ≤ Sp.own (s.data.toList.take k) := by omega
    have b4 : (0 : Int) ≤ Sp.other (s.data.toList.take k) := by omega
    by_cases hlt : k < s.size
    · have e1 := own_snoc (s.data.toList.take k) s[k]
      have e2 := other_snoc (s.data.toList.take k) s[k]
      rw [← take_snoc s k hlt] at e1 e2
      have E1 := Lib.hid e1
      have E2 := Lib.hid e2
      clear e1 e2
      go_wp2_with (first | (go_at_call 83; refine (latin_any _ _).mono ?_; rintro e w' ⟨rfl, rfl⟩) | (go_at_call 84; refine (stands_any _ _).mono ?_; rintro e w' ⟨rfl, hb'⟩))
      all_goals
        go_roundw
        case rel => exact ⟨k + 1, by omega, by go_num, (by rw [E1.out]; first | (rw [if_pos (by assumption)]; done) | (rw [if_neg (by simp [*])]; simp)), (by rw [E2.out]; first | (rw [if_pos (by assumption)]; done) | (rw [if_neg (by simp [*])]; simp)), hb.trans (hb'.mono hb.size)⟩
        case measure => simp [intOf]; omega
    · have hk' : k = s.size := by omega
      subst hk'
      have et : s.data.toList.take s.size = s.data.toList := List.take_of_length_le (by simp)
      have E := Lib.hid et
      clear et
      have hl := size_list s
      have HL := Lib.hid hl
      clear hl
      by_cases ho : Sp.own (s.data.toList.take s.size) < s.size
      · by_cases ht : Sp.other (s.data.toList.take s.size) < s.size
        · go_wp2
          go_ret
          rw [E.out] at ho ht
          exact ⟨ret_int (check_bad _ (by rw [HL.out]; omega) (by rw [HL.out]; omega) (by rw [HL.out]; exact ho) (by rw [HL.out]; exact ht)).symm, hb⟩
        · go_wp2
          go_ret
          rw [E.out] at ho ht
          exact ⟨ret_int (check_ok _ (by rw [HL.out]; omega) (by rw [HL.out]; omega) (by rw [HL.out]; omega)).symm, hb⟩
      · go_wp2
        go_ret
        rw [E.out] at ho
        exact ⟨ret_int (check_ok _ (by rw [HL.out]; omega) (by rw [HL.out]; omega) (by rw [HL.out]; omega)).symm, hb⟩

set_option maxHeartbeats 400000 in
theorem Check_any (s : ByteArray) (w : World) :
    Calls Tryz.prog 49 #[.string s] w fun e w' => e = .returned (.int .i64 (Sp.check s.data.toList)) ∧ Below w.heap.size w w' := by
  have hl := size_list s
  by_cases h0 : s.size = 0
  · have hne : ((s.size : Int) == 0) = true := by rw [beq_iff_eq]; omega
    have e : Sp.check s.data.toList = 7 := by unfold Sp.check; rw [if_pos (by omega)]
    have E := Lib.hid e
    clear e hl h0
    go_enter Tryz.func49, Tryz.ntmps49
    go_wp2
    go_ret
    exact ⟨ret_int E.out.symm, Below.refl _ _⟩
  · by_cases h6 : s.size ≤ 6
    · exact Check_mid s w (by omega) h6
    · have hne : ((s.size : Int) == 0) = false := by rw [beq_eq_false_iff_ne]; omega
      have e : Sp.check s.data.toList = 10 := by unfold Sp.check; rw [if_neg (by omega), if_pos (by omega)]
      have E := Lib.hid e
      clear e hl h0
      go_enter Tryz.func49, Tryz.ntmps49
      go_wp2
      go_ret
      exact ⟨ret_int E.out.symm, Below.refl _ _⟩
end Go.Proofs.YtljlkhaolfihjaaGreatDoor

/- The reference of names: keys. -/
namespace Go.Proofs.YtljlkhaolfihjaaGreatDoor
open Go.RowKit

theorem head_latin (s : ByteArray) (h : 0 < s.size) : s.data.toList.head?.any Sp.latin = Sp.latin s[0] := by
  have h2 : 0 < s.data.toList.length := by simpa using h
  rw [List.head?_eq_getElem?, List.getElem?_eq_getElem h2]; rfl

set_option maxHeartbeats 400000 in
theorem Latin_any (s : ByteArray) (w : World) (h : 0 < s.size) :
    Calls Tryz.prog 79 #[.string s] w fun e w' => e = .returned (.bool (s.data.toList.head?.any Sp.latin)) ∧ w = w' := by
  have e := head_latin s h
  have E := Lib.hid e
  clear e
  go_enter Tryz.func79, Tryz.ntmps79
  go_wp2_with (go_at_call 83; refine (latin_any _ _).mono ?_; rintro e w' ⟨rfl, rfl⟩)
  go_ret
  exact ⟨ret_bool E.out.symm, rfl⟩

theorem stands_le (c : UInt8) : (Sp.stands c).length ≤ 2 := by
  unfold Sp.stands; repeat' split
  all_goals simp
theorem flat_le (l : List UInt8) : (l.flatMap Sp.stands).length ≤ 2 * l.length := by
  induction l with
  | nil => simp
  | cons c l ih => have := stands_le c; simp only [List.flatMap_cons, List.length_append, List.length_cons]; omega
theorem mk_append (a b : List UInt8) : (⟨a.toArray⟩ : ByteArray) ++ ⟨b.toArray⟩ = ⟨(a ++ b).toArray⟩ := by
  rw [ByteArray.mk_append_mk, ← List.append_toArray]

set_option maxRecDepth 100000 in
set_option maxHeartbeats 400000 in
theorem key_other (s : ByteArray) (w : World) (h1 : 1 ≤ s.size) (h6 : s.size ≤ 6) (hn : s.data.toList.head?.any Sp.latin = false) :
    Calls Tryz.prog 78 #[.string s] w fun e w' => e = .returned (str (s.data.toList.flatMap Sp.stands)) ∧ Below w.heap.size w w' := by
  go_enter Tryz.func78, Tryz.ntmps78
  go_wp2_with (go_at_call 79; refine (Latin_any _ _ (by omega)).mono ?_; rintro e w' ⟨rfl, rfl⟩)
  go_loopw [3, 4] (fun r i wr => ∃ k : Nat, k ≤ s.size ∧ i = .int .i64 k ∧ r = str ((s.data.toList.take k).flatMap Sp.stands) ∧ Below w.heap.size w wr) (fun _ i _ => s.size - (intOf i).toNat)
  case atStart => exact ⟨0, Nat.zero_le _, rfl, rfl, Below.refl _ _⟩
  case round =>
    obtain ⟨k, hk, rfl, rfl, hb⟩ := hrel
    have b1 := flat_le (s.data.toList.take k)
    have b2 := List.length_take_le k s.data.toList
    have b4 : ((s.data.toList.take k).flatMap Sp.stands).length ≤ 12 := by omega
    clear b1
    generalize hX : (s.data.toList.take k).flatMap Sp.stands = X at *
    have HX := Lib.hid hX
    clear hX
    by_cases hlt : k < s.size
    · have b3 := stands_le s[k]
      have e1 := take_snoc s k hlt
      have E1 := Lib.hid e1
      clear e1
      go_wp2_with (go_at_call 84; refine (stands_any _ _).mono ?_; rintro e w' ⟨rfl, hb'⟩)
      go_roundw
      case rel => exact ⟨k + 1, by omega, by go_num, (by rw [mk_append, E1.out, List.flatMap_append, HX.out]; simp), hb.trans (hb'.mono hb.size)⟩
      case measure => simp [intOf]; omega
    · have hk' : k = s.size := by omega
      have et : s.data.toList.take k = s.data.toList := List.take_of_length_le (by simp; omega)
      have E := Lib.hid et
      clear et hk'
      go_wp2
      go_ret
      exact ⟨ret_val (str_val (by rw [← HX.out, E.out])), hb⟩

set_option maxHeartbeats 400000 in
theorem key_any (s : ByteArray) (w : World) (h1 : 1 ≤ s.size) (h6 : s.size ≤ 6) :
    Calls Tryz.prog 78 #[.string s] w fun e w' => e = .returned (str (Sp.key s.data.toList)) ∧ Below w.heap.size w w' := by
  by_cases hn : s.data.toList.head?.any Sp.latin = true
  · have e : Sp.key s.data.toList = s.data.toList := by unfold Sp.key; rw [if_pos hn]
    have E := Lib.hid e
    clear e
    go_enter Tryz.func78, Tryz.ntmps78
    go_wp2_with (go_at_call 79; refine (Latin_any _ _ (by omega)).mono ?_; rintro e w' ⟨rfl, rfl⟩)
    go_ret
    exact ⟨ret_val (str_of E.out.symm), Below.refl _ _⟩
  · have hn' : s.data.toList.head?.any Sp.latin = false := by simpa using hn
    have e : Sp.key s.data.toList = s.data.toList.flatMap Sp.stands := by unfold Sp.key; rw [if_neg hn]
    rw [e]
    exact key_other s w h1 h6 hn'

theorem check_zero {l : List UInt8} (h : Sp.check l = 0) : 1 ≤ l.length ∧ l.length ≤ 6 := by
  unfold Sp.check at h
  split at h
  · omega
  · split at h
    · omega
    · omega

def KeyPost (s : ByteArray) (w : World) (e : Ending) (w' : World) : Prop :=
  e = .returned (.tuple #[str (Sp.keyR s.data.toList), .int .i64 (Sp.check s.data.toList)]) ∧ Below w.heap.size w w'

end Go.Proofs.YtljlkhaolfihjaaGreatDoor

/- Lists that are compared. -/
namespace Go.Proofs.YtljlkhaolfihjaaGreatDoor
open Go.RowKit

/-- From address A on lie these values. -/
def Cells (w : World) (A : Option Addr) (xs : List Value) : Prop :=
  ∀ i, i < xs.length → ∃ b off : Nat, A = some ⟨b, off, none⟩ ∧ w.cell? ⟨b, off + i, none⟩ = some (xs.getD i undef)

theorem Cells.keep {w w' : World} {A : Option Addr} {xs : List Value} (h : Cells w A xs) (hk : ∀ (p : Addr) v, w.cell? p = some v → w'.cell? p = some v) : Cells w' A xs :=
  fun i hi => by obtain ⟨b, off, e, hc⟩ := h i hi; exact ⟨b, off, e, hk _ _ hc⟩
theorem Cells.below {w w' : World} {A : Option Addr} {xs : List Value} (h : Cells w A xs) (hb : Below w.heap.size w w') : Cells w' A xs :=
  h.keep fun p _ hp => (hb.cell (World.block_lt_of_cell? w p hp)).trans hp

theorem getD_str (ss : List ByteArray) (i : Nat) (h : i < ss.length) : (ss.map Value.string).getD i undef = .string ss[i] := by
  rw [List.getD_eq_getElem?_getD, List.getElem?_map, List.getElem?_eq_getElem h]; rfl
theorem getD_int (ss : List Int) (i : Nat) (h : i < ss.length) : (ss.map (Value.int .i64)).getD i undef = .int .i64 ss[i] := by
  rw [List.getD_eq_getElem?_getD, List.getElem?_map, List.getElem?_eq_getElem h]; rfl
theorem Cells.str {w : World} {A : Option Addr} {ss : List ByteArray} (h : Cells w A (ss.map Value.string)) (i : Nat) (hi : i < ss.length) :
    ∃ b off : Nat, A = some ⟨b, off, none⟩ ∧ w.cell? ⟨b, off + i, none⟩ = some (.string ss[i]) := by
  obtain ⟨b, off, e, hc⟩ := h i (by simpa using hi)
  exact ⟨b, off, e, by rw [hc, getD_str ss i hi]⟩
theorem Cells.int {w : World} {A : Option Addr} {ss : List Int} (h : Cells w A (ss.map (Value.int .i64))) (i : Nat) (hi : i < ss.length) :
    ∃ b off : Nat, A = some ⟨b, off, none⟩ ∧ w.cell? ⟨b, off + i, none⟩ = some (.int .i64 ss[i]) := by
  obtain ⟨b, off, e, hc⟩ := h i (by simpa using hi)
  exact ⟨b, off, e, by rw [hc, getD_int ss i hi]⟩

theorem take_eq_step {α : Type} {xs ys : List α} {k : Nat} (hx : k < xs.length) (hy : k < ys.length) (h : xs.take k = ys.take k) (e : xs[k] = ys[k]) : xs.take (k + 1) = ys.take (k + 1) := by
  rw [List.take_succ_eq_append_getElem hx, List.take_succ_eq_append_getElem hy, h, e]
theorem ne_of_at {α : Type} {xs ys : List α} {k : Nat} (hx : k < xs.length) (hy : k < ys.length) (e : xs[k] ≠ ys[k]) : xs ≠ ys := by
  rintro rfl; exact e rfl

theorem bytes_inj {a b : ByteArray} (h : a.toList = b.toList) : a = b := by
  rw [ByteArray.toList_eq, ByteArray.toList_eq] at h
  exact ByteArray.ext (Array.toList_inj.1 h)

def EqPost {α : Type} [DecidableEq α] (xs ys : List α) (w : World) (e : Ending) (w' : World) : Prop :=
  e = .returned (.bool (decide (xs = ys))) ∧ ∃ k, w' = w.drewN k

set_option maxRecDepth 100000 in
set_option maxHeartbeats 800000 in
theorem EqInts_same (A B : Option Addr) (n c c' : Nat) (xs ys : List Int) (w : World) (hn : n = xs.length) (hm : n = ys.length) (hb : n ≤ 1000000000000000000)
    (hx : Cells w A (xs.map (Value.int .i64))) (hy : Cells w B (ys.map (Value.int .i64))) :
    Calls Tryz.prog 17 #[.slice A n c, .slice B n c'] w (EqPost xs ys w) := by
  have HN := Lib.hid hn
  have HM := Lib.hid hm
  have HX := Lib.hid hx
  have HY := Lib.hid hy
  clear hn hm hx hy
  go_enter Tryz.func17, Tryz.ntmps17
  go_wp2_with fail
  go_loopw [5] (fun i wr => ∃ k : Nat, k ≤ n ∧ i = .int .i64 k ∧ xs.take k = ys.take k ∧ ∃ j, wr = w.drewN j) (fun i _ => n - (intOf i).toNat)
  case atStart => exact ⟨0, Nat.zero_le _, rfl, rfl, 0, rfl⟩
  case round =>
    obtain ⟨k, hk, rfl, ht, j, rfl⟩ := hrel
    have HT := Lib.hid ht
    clear ht
    by_cases hlt : k < n
    · have hkx : k < xs.length := by rw [← HN.out]; exact hlt
      have hky : k < ys.length := by rw [← HM.out]; exact hlt
      obtain ⟨b1, o1, rfl, c1⟩ := HX.out.int k hkx
      obtain ⟨b2, o2, rfl, c2⟩ := HY.out.int k hky
      generalize hX : xs[k] = X at *
      generalize hY : ys[k] = Y at *
      have H1 := Lib.hid hX
      have H2 := Lib.hid hY
      clear hX hY
      by_cases e : X = Y
      · have e1 : (X != Y) = false := by simp [e]
        have E := Lib.hid e
        clear e
        go_wp2_with fail
        go_quiet (fail)
        go_wp2
        exact ⟨⟨k + 1, by omega, by go_num, take_eq_step hkx hky HT.out (by rw [H1.out, H2.out, E.out]), _, rfl⟩, by simp [intOf]; omega⟩
      · have e1 : (X != Y) = true := by simp [e]
        have E := Lib.hid e
        clear e
        go_wp2_with fail
        go_quiet (fail)
        go_wp2
        go_ret
        exact ⟨ret_bool (decide_eq_false (ne_of_at hkx hky (by rw [H1.out, H2.out]; exact E.out))).symm, j + nq, World.drewN_drewN _ _ _⟩
    · have e : xs = ys := by
        have h := HT.out
        rwa [List.take_of_length_le (by rw [← HN.out]; omega), List.take_of_length_le (by rw [← HM.out]; omega)] at h
      have E := Lib.hid e
      clear e
      go_wp2
      go_ret
      exact ⟨ret_bool (decide_eq_true E.out).symm, _, rfl⟩

set_option maxHeartbeats 800000 in
theorem EqInts_any (A B : Option Addr) (n m c c' : Nat) (xs ys : List Int) (w : World) (hn : n = xs.length) (hm : m = ys.length) (hb : n ≤ 1000000000000000000)
    (hx : Cells w A (xs.map (Value.int .i64))) (hy : Cells w B (ys.map (Value.int .i64))) :
    Calls Tryz.prog 17 #[.slice A n c, .slice B m c'] w (EqPost xs ys w) := by
  by_cases h : n = m
  · subst h
    exact EqInts_same A B n c c' xs ys w hn hm hb hx hy
  · have hne : ((n : Int) != m) = true := by rw [bne_iff_ne]; omega
    have e : xs ≠ ys := by rintro rfl; omega
    have E := Lib.hid e
    clear e hn hm h hx hy hb
    go_enter Tryz.func17, Tryz.ntmps17
    go_wp2
    go_ret
    exact ⟨ret_bool (decide_eq_false E.out).symm, 0, rfl⟩

set_option maxRecDepth 100000 in
set_option maxHeartbeats 800000 in
theorem EqStrings_same (A B : Option Addr) (n c c' : Nat) (xs ys : List ByteArray) (w : World) (hn : n = xs.length) (hm : n = ys.length) (hb : n ≤ 1000000000000000000)
    (hx : Cells w A (xs.map (Value.string))) (hy : Cells w B (ys.map (Value.string))) :
    Calls Tryz.prog 22 #[.slice A n c, .slice B n c'] w (EqPost xs ys w) := by
  have HN := Lib.hid hn
  have HM := Lib.hid hm
  have HX := Lib.hid hx
  have HY := Lib.hid hy
  clear hn hm hx hy
  go_enter Tryz.func22, Tryz.ntmps22
  go_wp2_with fail
  go_loopw [5] (fun i wr => ∃ k : Nat, k ≤ n ∧ i = .int .i64 k ∧ xs.take k = ys.take k ∧ ∃ j, wr = w.drewN j) (fun i _ => n - (intOf i).toNat)
  case atStart => exact ⟨0, Nat.zero_le _, rfl, rfl, 0, rfl⟩
  case round =>
    obtain ⟨k, hk, rfl, ht, j, rfl⟩ := hrel
    have HT := Lib.hid ht
    clear ht
    by_cases hlt : k < n
    · have hkx : k < xs.length := by rw [← HN.out]; exact hlt
      have hky : k < ys.length := by rw [← HM.out]; exact hlt
      obtain ⟨b1, o1, rfl, c1⟩ := HX.out.str k hkx
      obtain ⟨b2, o2, rfl, c2⟩ := HY.out.str k hky
      generalize hX : xs[k] = X at *
      generalize hY : ys[k] = Y at *
      have H1 := Lib.hid hX
      have H2 := Lib.hid hY
      clear hX hY
      by_cases e : X = Y
      · have e1 : (X.toList == Y.toList) = true := by simp [e]
        have E := Lib.hid e
        clear e
        go_wp2_with fail
        go_quiet (fail)
        go_wp2
        exact ⟨⟨k + 1, by omega, by go_num, take_eq_step hkx hky HT.out (by rw [H1.out, H2.out, E.out]), _, rfl⟩, by simp [intOf]; omega⟩
      · have e1 : (X.toList == Y.toList) = false := by rw [beq_eq_false_iff_ne]; exact fun h => e (bytes_inj h)
        have E := Lib.hid e
        clear e
        go_wp2_with fail
        go_quiet (fail)
        go_wp2
        go_ret
        exact ⟨ret_bool (decide_eq_false (ne_of_at hkx hky (by rw [H1.out, H2.out]; exact E.out))).symm, j + nq, World.drewN_drewN _ _ _⟩
    · have e : xs = ys := by
        have h := HT.out
        rwa [List.take_of_length_le (by rw [← HN.out]; omega), List.take_of_length_le (by rw [← HM.out]; omega)] at h
      have E := Lib.hid e
      clear e
      go_wp2
      go_ret
      exact ⟨ret_bool (decide_eq_true E.out).symm, _, rfl⟩

set_option maxHeartbeats 800000 in
theorem EqStrings_any (A B : Option Addr) (n m c c' : Nat) (xs ys : List ByteArray) (w : World) (hn : n = xs.length) (hm : m = ys.length) (hb : n ≤ 1000000000000000000)
    (hx : Cells w A (xs.map (Value.string))) (hy : Cells w B (ys.map (Value.string))) :
    Calls Tryz.prog 22 #[.slice A n c, .slice B m c'] w (EqPost xs ys w) := by
  by_cases h : n = m
  · subst h
    exact EqStrings_same A B n c c' xs ys w hn hm hb hx hy
  · have hne : ((n : Int) != m) = true := by rw [bne_iff_ne]; omega
    have e : xs ≠ ys := by rintro rfl; omega
    have E := Lib.hid e
    clear e hn hm h hx hy hb
    go_enter Tryz.func22, Tryz.ntmps22
    go_wp2
    go_ret
    exact ⟨ret_bool (decide_eq_false E.out).symm, 0, rfl⟩

end Go.Proofs.YtljlkhaolfihjaaGreatDoor

/- The reference of names: which of two comes first. -/
namespace Go.Proofs.YtljlkhaolfihjaaGreatDoor
open Go.RowKit

/-- A Latin name. -/
def lat (s : List UInt8) : Bool := s.head?.any Sp.latin
def beforeB (a b : List UInt8) : Bool := if Sp.key a = Sp.key b then lat a && !lat b else Op.bytesLess (Sp.key a) (Sp.key b)

def BeforePost (a b : ByteArray) (w : World) (e : Ending) (w' : World) : Prop :=
  e = .returned (.bool (beforeB a.data.toList b.data.toList)) ∧ Below w.heap.size w w'

set_option maxHeartbeats 800000 in
theorem before_any (a b : ByteArray) (w : World) (a1 : 1 ≤ a.size) (a6 : a.size ≤ 6) (b1 : 1 ≤ b.size) (b6 : b.size ≤ 6) :
    Calls Tryz.prog 43 #[.string a, .string b] w (BeforePost a b w) := by
  by_cases hk : Sp.key a.data.toList = Sp.key b.data.toList
  · have hk1 : (Sp.key a.data.toList == Sp.key b.data.toList) = true := by simp [hk]
    have e : beforeB a.data.toList b.data.toList = (lat a.data.toList && !lat b.data.toList) := by unfold beforeB; rw [if_pos hk]
    have E := Lib.hid e
    have HK := Lib.hid hk
    clear e hk
    by_cases hl : lat a.data.toList = true
    · have hl2 : a.data.toList.head?.any Sp.latin = true := hl
      go_enter Tryz.func43, Tryz.ntmps43
      go_wp2_with fail
      refine (key_any _ _ a1 a6).mono ?_
      rintro e w1 ⟨rfl, hb1⟩
      go_wp2_with fail
      refine (key_any _ _ b1 b6).mono ?_
      rintro e w2 ⟨rfl, hb2⟩
      go_wp2_with fail
      refine (Latin_any _ _ (by omega)).mono ?_
      rintro e w3 ⟨rfl, rfl⟩
      go_wp2_with fail
      refine (Latin_any _ _ (by omega)).mono ?_
      rintro e w4 ⟨rfl, rfl⟩
      go_wp2
      go_ret
      exact ⟨ret_bool (by rw [E.out, hl, Bool.true_and]; rfl), hb1.trans (hb2.mono hb1.size)⟩
    · have hl2 : a.data.toList.head?.any Sp.latin = false := by simpa [lat] using hl
      have hl3 : lat a.data.toList = false := by simpa using hl
      have HL := Lib.hid hl3
      clear hl hl3
      go_enter Tryz.func43, Tryz.ntmps43
      go_wp2_with fail
      refine (key_any _ _ a1 a6).mono ?_
      rintro e w1 ⟨rfl, hb1⟩
      go_wp2_with fail
      refine (key_any _ _ b1 b6).mono ?_
      rintro e w2 ⟨rfl, hb2⟩
      go_wp2_with fail
      refine (Latin_any _ _ (by omega)).mono ?_
      rintro e w3 ⟨rfl, rfl⟩
      go_wp2
      go_ret
      exact ⟨ret_bool (by rw [E.out, HL.out, Bool.false_and]), hb1.trans (hb2.mono hb1.size)⟩
  · have hk1 : (Sp.key a.data.toList == Sp.key b.data.toList) = false := by simp [hk]
    have e : beforeB a.data.toList b.data.toList = Op.bytesLess (Sp.key a.data.toList) (Sp.key b.data.toList) := by unfold beforeB; rw [if_neg hk]
    have E := Lib.hid e
    clear e hk
    go_enter Tryz.func43, Tryz.ntmps43
    go_wp2_with fail
    refine (key_any _ _ a1 a6).mono ?_
    rintro e w1 ⟨rfl, hb1⟩
    go_wp2_with fail
    refine (key_any _ _ b1 b6).mono ?_
    rintro e w2 ⟨rfl, hb2⟩
    go_wp2_with fail
    refine (key_any _ _ a1 a6).mono ?_
    rintro e w3 ⟨rfl, hb3⟩
    go_wp2_with fail
    refine (key_any _ _ b1 b6).mono ?_
    rintro e w4 ⟨rfl, hb4⟩
    go_wp2
    go_ret
    have h2 := hb1.trans (hb2.mono hb1.size)
    have h3 := h2.trans (hb3.mono h2.size)
    exact ⟨ret_bool E.out.symm, h3.trans (hb4.mono h3.size)⟩
end Go.Proofs.YtljlkhaolfihjaaGreatDoor

/- The reference of names: names that are compared, and lists that are valid. -/
namespace Go.Proofs.YtljlkhaolfihjaaGreatDoor
open Go.RowKit

def pairErr (a b : List UInt8) : Int := if Sp.check a = 0 then Sp.check b else Sp.check a
def compareB (a b : List UInt8) : Int := if pairErr a b = 0 then (if beforeB a b then -1 else if beforeB b a then 1 else 0) else 0

def ComparePost (a b : ByteArray) (w : World) (e : Ending) (w' : World) : Prop :=
  e = .returned (.tuple #[.int .i64 (compareB a.data.toList b.data.toList), .int .i64 (pairErr a.data.toList b.data.toList)]) ∧ Below w.heap.size w w'

theorem check_size {s : ByteArray} (h : Sp.check s.data.toList = 0) : 1 ≤ s.size ∧ s.size ≤ 6 := by
  have h2 := check_zero h
  rw [size_list] at h2
  exact h2

set_option maxRecDepth 100000 in
set_option maxHeartbeats 800000 in
theorem Compare_any (a b : ByteArray) (w : World) : Calls Tryz.prog 15 #[.string a, .string b] w (ComparePost a b w) := by
  by_cases ha : Sp.check a.data.toList = 0
  · by_cases hb : Sp.check b.data.toList = 0
    · obtain ⟨a1, a6⟩ := check_size ha
      obtain ⟨b1, b6⟩ := check_size hb
      have n1 : (Sp.check a.data.toList != 0) = false := by simp [ha]
      have n2 : (Sp.check b.data.toList != 0) = false := by simp [hb]
      have ep : pairErr a.data.toList b.data.toList = 0 := by unfold pairErr; rw [if_pos ha, hb]
      have ec : compareB a.data.toList b.data.toList = if beforeB a.data.toList b.data.toList then -1 else if beforeB b.data.toList a.data.toList then 1 else 0 := by unfold compareB; rw [if_pos ep]
      have EP := Lib.hid ep
      have EC := Lib.hid ec
      clear ep ec ha hb
      go_enter Tryz.func15, Tryz.ntmps15
      go_wp2_with fail
      refine (Check_any _ _).mono ?_
      rintro e w1 ⟨rfl, hb1⟩
      go_wp2_with fail
      refine (Check_any _ _).mono ?_
      rintro e w2 ⟨rfl, hb2⟩
      go_wp2_with fail
      refine (before_any _ _ _ a1 a6 b1 b6).mono ?_
      rintro e w3 ⟨rfl, hb3⟩
      have g2 := hb1.trans (hb2.mono hb1.size)
      have g3 := g2.trans (hb3.mono g2.size)
      cases h1 : beforeB a.data.toList b.data.toList with
      | true =>
        have H1 := Lib.hid h1
        clear h1
        go_wp2
        go_ret2
        exact ⟨ret_two (int_val (by rw [EC.out, if_pos H1.out])) (int_val EP.out.symm), g3⟩
      | false =>
        have H1 := Lib.hid h1
        clear h1
        go_wp2_with fail
        refine (before_any _ _ _ b1 b6 a1 a6).mono ?_
        rintro e w4 ⟨rfl, hb4⟩
        have g4 := g3.trans (hb4.mono g3.size)
        cases h2 : beforeB b.data.toList a.data.toList with
        | true =>
          have H2 := Lib.hid h2
          clear h2
          go_wp2
          go_ret2
          exact ⟨ret_two (int_val (by rw [EC.out, H1.out, H2.out]; rfl)) (int_val EP.out.symm), g4⟩
        | false =>
          have H2 := Lib.hid h2
          clear h2
          go_wp2
          go_ret2
          exact ⟨ret_two (int_val (by rw [EC.out, H1.out, H2.out]; rfl)) (int_val EP.out.symm), g4⟩
    · have n1 : (Sp.check a.data.toList != 0) = false := by simp [ha]
      have n2 : (Sp.check b.data.toList != 0) = true := by simp [hb]
      have ep : pairErr a.data.toList b.data.toList = Sp.check b.data.toList := by unfold pairErr; rw [if_pos ha]
      have ec : compareB a.data.toList b.data.toList = 0 := by unfold compareB; rw [if_neg (by rw [ep]; exact hb)]
      have EP := Lib.hid ep
      have EC := Lib.hid ec
      clear ep ec ha hb
      go_enter Tryz.func15, Tryz.ntmps15
      go_wp2_with fail
      refine (Check_any _ _).mono ?_
      rintro e w1 ⟨rfl, hb1⟩
      go_wp2_with fail
      refine (Check_any _ _).mono ?_
      rintro e w2 ⟨rfl, hb2⟩
      go_wp2
      go_ret2
      exact ⟨ret_two (int_val EC.out.symm) (int_val EP.out.symm), hb1.trans (hb2.mono hb1.size)⟩
  · have n1 : (Sp.check a.data.toList != 0) = true := by simp [ha]
    have ep : pairErr a.data.toList b.data.toList = Sp.check a.data.toList := by unfold pairErr; rw [if_neg ha]
    have ec : compareB a.data.toList b.data.toList = 0 := by unfold compareB; rw [if_neg (by rw [ep]; exact ha)]
    have EP := Lib.hid ep
    have EC := Lib.hid ec
    clear ep ec ha
    go_enter Tryz.func15, Tryz.ntmps15
    go_wp2_with fail
    refine (Check_any _ _).mono ?_
    rintro e w1 ⟨rfl, hb1⟩
    go_wp2
    go_ret2
    exact ⟨ret_two (int_val EC.out.symm) (int_val EP.out.symm), hb1⟩

def firstErr : List ByteArray → Int
  | [] => 0
  | s :: t => if Sp.check s.data.toList = 0 then firstErr t else Sp.check s.data.toList
def listErr (ss : List ByteArray) : Int := if 6 < ss.length then 6 else firstErr ss

theorem firstErr_drop (ss : List ByteArray) (k : Nat) (hk : k < ss.length) : firstErr (ss.drop k) = if Sp.check ss[k].data.toList = 0 then firstErr (ss.drop (k + 1)) else Sp.check ss[k].data.toList := by
  rw [List.drop_eq_getElem_cons hk]; rfl

def ListErrPost (ss : List ByteArray) (w : World) (e : Ending) (w' : World) : Prop :=
  e = .returned (.int .i64 (listErr ss)) ∧ Below w.heap.size w w'

set_option maxRecDepth 100000 in
set_option maxHeartbeats 800000 in
theorem checkList_any (A : Option Addr) (n c : Nat) (ss : List ByteArray) (w : World) (hn : n = ss.length) (hx : Cells w A (ss.map Value.string)) :
    Calls Tryz.prog 42 #[.slice A n c] w (ListErrPost ss w) := by
  have HN := Lib.hid hn
  have HX := Lib.hid hx
  clear hn hx
  by_cases h6 : n ≤ 6
  · have el : listErr ss = firstErr ss := by unfold listErr; rw [if_neg (by rw [← HN.out]; omega)]
    have EL := Lib.hid el
    clear el
    go_enter Tryz.func42, Tryz.ntmps42
    go_wp2_with fail
    go_loopw [3, 4] (fun i _ wr => ∃ k : Nat, k ≤ n ∧ i = .int .i64 k ∧ firstErr (ss.drop k) = firstErr ss ∧ Below w.heap.size w wr) (fun i _ _ => n - (intOf i).toNat)
    case atStart => exact ⟨0, Nat.zero_le _, rfl, rfl, Below.refl _ _⟩
    case round =>
      obtain ⟨k, hk, rfl, hf, hb⟩ := hrel
      have HF := Lib.hid hf
      clear hf
      by_cases hlt : k < n
      · have hks : k < ss.length := by rw [← HN.out]; exact hlt
        obtain ⟨b1, o1, rfl, c1⟩ := HX.out.str k hks
        have c2 := (hb.cell (World.block_lt_of_cell? w _ c1)).trans c1
        have ed := firstErr_drop ss k hks
        generalize hX : ss[k] = X at *
        have ED := Lib.hid ed
        clear c1 hX ed
        by_cases hc : Sp.check X.data.toList = 0
        · have n1 : (Sp.check X.data.toList != 0) = false := by simp [hc]
          have HC := Lib.hid hc
          clear hc
          go_wp2_with fail
          refine (Check_any _ _).mono ?_
          rintro e w1 ⟨rfl, hb1⟩
          go_wp2
          go_roundw
          case rel => exact ⟨k + 1, by omega, by go_num, by rw [← HF.out, ED.out, if_pos HC.out], hb.trans (hb1.mono hb.size)⟩
          case measure => simp [intOf]; omega
        · have n1 : (Sp.check X.data.toList != 0) = true := by simp [hc]
          have HC := Lib.hid hc
          clear hc
          go_wp2_with fail
          refine (Check_any _ _).mono ?_
          rintro e w1 ⟨rfl, hb1⟩
          go_wp2
          go_ret
          exact ⟨ret_int (by rw [EL.out, ← HF.out, ED.out, if_neg HC.out]), hb.trans (hb1.mono hb.size)⟩
      · have e0 : firstErr ss = 0 := by
          rw [← HF.out, List.drop_eq_nil_of_le (by rw [← HN.out]; omega)]; rfl
        have E0 := Lib.hid e0
        clear e0
        go_wp2
        go_ret
        exact ⟨ret_int (by rw [EL.out, E0.out]), hb⟩
  · have el : listErr ss = 6 := by unfold listErr; rw [if_pos (by rw [← HN.out]; omega)]
    have EL := Lib.hid el
    clear el
    go_enter Tryz.func42, Tryz.ntmps42
    go_wp2
    go_ret
    exact ⟨ret_int EL.out.symm, Below.refl _ _⟩
end Go.Proofs.YtljlkhaolfihjaaGreatDoor
