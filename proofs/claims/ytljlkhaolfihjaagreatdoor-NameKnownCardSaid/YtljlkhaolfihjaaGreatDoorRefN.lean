/- The reference of names: the error of rules and of two names; lists without some names. -/
import Derived.Test.YtljlkhaolfihjaaGreatDoorRefJ
import Derived.Test.YtljlkhaolfihjaaGreatDoorRefK
namespace Go.Proofs.YtljlkhaolfihjaaGreatDoor
open Go.RowKit

theorem Drew.below {w w' : World} (h : Drew w w') (B : Nat) : Below B w w' := by
  obtain ⟨j, rfl⟩ := h
  exact ⟨rfl, rfl, rfl, Nat.le_refl _, fun _ _ => rfl⟩

def usesErr (rs : List (ByteArray × ByteArray)) (a b : List UInt8) : Int := if rulesErr rs = 0 then pairErr a b else rulesErr rs

def UsesErrPost (rs : List (ByteArray × ByteArray)) (a b : ByteArray) (w : World) (e : Ending) (w' : World) : Prop :=
  e = .returned (.int .i64 (usesErr rs a.data.toList b.data.toList)) ∧ Below w.heap.size w w'

/-- Whether a number is in a list. -/
def hasB (q : List Int) (x : Int) : Bool := q.contains x
/-- The names of a list whose index is not among some. -/
def withoutFrom (at_ : List Int) : Nat → List ByteArray → List ByteArray
  | _, [] => []
  | k, s :: t => if hasB at_ (k : Int) then withoutFrom at_ (k + 1) t else s :: withoutFrom at_ (k + 1) t
theorem withoutFrom_drop (q : List Int) (ss : List ByteArray) (k : Nat) (hk : k < ss.length) :
    withoutFrom q k (ss.drop k) = (if hasB q (k : Int) then [] else [ss[k]]) ++ withoutFrom q (k + 1) (ss.drop (k + 1)) := by
  rw [List.drop_eq_getElem_cons hk]
  show (if _ then _ else _) = _
  split <;> rfl

theorem has_step (q : List Int) (x : Int) (k : Nat) (hk : k < q.length) : hasB (q.take (k + 1)) x = (hasB (q.take k) x || (q[k] == x)) := by
  unfold hasB
  rw [List.take_succ_eq_append_getElem hk, Bool.eq_iff_iff]
  simp only [List.contains_iff_mem, List.mem_append, List.mem_singleton, Bool.or_eq_true, beq_iff_eq]
  exact or_congr Iff.rfl eq_comm

def WithoutPost (q : List Int) (ss : List ByteArray) (w : World) (e : Ending) (w' : World) : Prop :=
  ∃ o : Value, e = .returned o ∧ w'.ownsRow w.heap.size 9 1 o (withoutFrom q 0 ss).length ((withoutFrom q 0 ss).map Value.string) ∧ Below w.heap.size w w'

set_option maxRecDepth 100000 in
set_option maxHeartbeats 1600000 in
theorem Without_any (A B : Option Addr) (n c m d : Nat) (ss : List ByteArray) (q : List Int) (w : World) (hn : n = ss.length) (hm : m = q.length) (hb1 : n ≤ 1000) (hb2 : m ≤ 1000)
    (hx : Cells w A (ss.map Value.string)) (hy : Cells w B (q.map (Value.int .i64))) :
    Calls Tryz.prog 38 #[.slice A n c, .slice B m d] w (WithoutPost q ss w) := by
  have HN := Lib.hid hn
  have HX := Lib.hid hx
  have HM := Lib.hid hm
  have HY := Lib.hid hy
  clear hn hx hm hy
  obtain ⟨si, hi, hz0, hz1, hz2⟩ := info_parts infoStr
  go_enter Tryz.func38, Tryz.ntmps38
  go_wp2_with fail
  go_loopw [5, 6, 7, 8] (fun o i _ _ wr => ∃ (k : Nat) (xs : List ByteArray), k ≤ n ∧ xs.length ≤ k ∧ i = .int .i64 k ∧ xs ++ withoutFrom q k (ss.drop k) = withoutFrom q 0 ss ∧ wr.ownsRow w.heap.size 9 1 o xs.length (xs.map Value.string) ∧ Below w.heap.size w wr) (fun _ i _ _ _ => n - (intOf i).toNat)
  case atStart => exact ⟨0, [], Nat.zero_le _, Nat.le_refl _, rfl, rfl, World.ownsRow_nil _ _ _ _, Below.refl _ _⟩
  case round =>
    obtain ⟨k, xs, hk, hxk, rfl, hf, hown, hb⟩ := hrel
    have HF := Lib.hid hf
    clear hf
    obtain ⟨O, cap, rfl⟩ := own_form hown
    by_cases hlt : k < n
    · have hks : k < ss.length := by rw [← HN.out]; exact hlt
      obtain ⟨b1, o1, rfl, c1⟩ := HX.out.str k hks
      have c2 := (hb.cell (World.block_lt_of_cell? w _ c1)).trans c1
      have ed := withoutFrom_drop q ss k hks
      generalize hX : ss[k] = X at *
      have ED := Lib.hid ed
      clear c1 hX ed
      obtain ⟨WR, rfl⟩ : ∃ W, W = wr := ⟨_, rfl⟩
      go_wp2_with fail
      go_loopw [7, 8] (fun v j wi => ∃ l : Nat, l ≤ m ∧ v = .bool (hasB (q.take l) (k : Int)) ∧ j = .int .i64 l ∧ wi = WR) (fun _ j _ => m - (intOf j).toNat)
      case atStart => exact ⟨0, Nat.zero_le _, rfl, rfl, rfl⟩
      case round =>
        obtain ⟨l, hl, rfl, rfl, rfl⟩ := hrel
        by_cases hlm : l < m
        · have hlq : l < q.length := by rw [← HM.out]; exact hlm
          obtain ⟨b2, o2, rfl, c3⟩ := HY.out.int l hlq
          have c4 := (hb.cell (World.block_lt_of_cell? w _ c3)).trans c3
          have es := has_step q (k : Int) l hlq
          generalize hQ : q[l] = Q at *
          have ES := Lib.hid es
          clear c3 hQ es
          cases hC : hasB (q.take l) (k : Int) with
          | true =>
            have HC := Lib.hid hC
            clear hC
            go_wp2
            go_roundw
            case rel => exact ⟨l + 1, by omega, bool_val (by rw [ES.out, HC.out]; rfl), by go_num, trivial⟩
            case measure => simp [intOf]; omega
          | false =>
            have HC := Lib.hid hC
            clear hC
            go_wp2
            go_roundw
            case rel => exact ⟨l + 1, by omega, bool_val (by rw [ES.out, HC.out]; rfl), by go_num, trivial⟩
            case measure => simp [intOf]; omega
        · have el : q.take l = q := List.take_of_length_le (by rw [← HM.out]; omega)
          cases hC : hasB q (k : Int) with
          | true =>
            have e9 : hasB (q.take l) (k : Int) = true := by rw [el, hC]
            have e5 : xs ++ withoutFrom q (k + 1) (ss.drop (k + 1)) = withoutFrom q 0 ss := by rw [← HF.out, ED.out, hC]; rfl
            have E5 := Lib.hid e5
            clear e5 hC el
            go_wp2
            go_roundw
            case rel => exact ⟨k + 1, xs, by omega, by omega, by go_num, E5.out, hown, hb⟩
            case measure => simp [intOf]; omega
          | false =>
            have e9 : hasB (q.take l) (k : Int) = false := by rw [el, hC]
            have e5 : xs ++ [X] ++ withoutFrom q (k + 1) (ss.drop (k + 1)) = withoutFrom q 0 ss := by rw [← HF.out, ED.out, hC, List.append_assoc]; rfl
            have E5 := Lib.hid e5
            clear e5 hC el
            have hws := hb.size
            go_wp2_with (at_builtin; refine wpList_append_own _ rfl _ _ 22 rfl w.heap.size 9 si (.string ByteArray.empty) 1 16 Tryz.underlying22 hi hz0 hz1 hz2 rfl (by decide) _ _ _ rfl (hown.alloc _) ⟨wr.heap.size, 0, none⟩ 1 1 [.string X] rfl rfl (cell_one_new _ _ _) (by simp [Value.oneCell']) (by unfold maxLen; omega) (by omega) (by simp; omega) ?_; intro v' wn hownN hgN _)
            have hbN := below_append (hown.alloc _) hb ((Below.refl _ _).alloc (Nat.le_refl _) _) hgN
            go_wp2
            go_roundw
            case rel => exact ⟨k + 1, xs ++ [X], by omega, by simp; omega, by go_num, E5.out, by simpa using hownN, hbN⟩
            case measure => simp [intOf]; omega
    · have e0 : withoutFrom q 0 ss = xs := by
        rw [← HF.out, List.drop_eq_nil_of_le (by rw [← HN.out]; omega)]; simp [withoutFrom]
      have E0 := Lib.hid e0
      clear e0
      go_wp2
      go_ret
      exact ⟨_, rfl, by rw [E0.out]; exact hown, hb⟩
end Go.Proofs.YtljlkhaolfihjaaGreatDoor

/- The reference of names: strings in which a piece is replaced. -/
namespace Go.Proofs.YtljlkhaolfihjaaGreatDoor
open Go.RowKit

/-- What a string is after a piece is replaced at one place; none if it isn't there, or if nothing or too much is left. -/
def repAt (s a b : ByteArray) (i : Nat) : Option ByteArray :=
  if (s.extract i (i + a.size)).toList = a.toList then
    (if 1 ≤ (s.extract 0 i ++ b ++ s.extract (i + a.size) s.size).size ∧ (s.extract 0 i ++ b ++ s.extract (i + a.size) s.size).size ≤ 12 then some (s.extract 0 i ++ b ++ s.extract (i + a.size) s.size) else none)
  else none
def repTo (s a b : ByteArray) (k : Nat) : List ByteArray := (List.range k).filterMap (repAt s a b)
def repL (s a b : ByteArray) : List ByteArray := repTo s a b (s.size + 1 - a.size)

theorem repTo_succ (s a b : ByteArray) (k : Nat) : repTo s a b (k + 1) = repTo s a b k ++ (repAt s a b k).toList := by
  unfold repTo
  rw [List.range_succ, List.filterMap_append]
  cases h : repAt s a b k <;> simp [h]
theorem repTo_len (s a b : ByteArray) (k : Nat) : (repTo s a b k).length ≤ k := by
  unfold repTo
  exact Nat.le_trans (List.length_filterMap_le _ _) (by simp)

def StrsPost (xs : List ByteArray) (w : World) (e : Ending) (w' : World) : Prop :=
  ∃ o : Value, e = .returned o ∧ w'.ownsRow w.heap.size 9 1 o xs.length (xs.map Value.string) ∧ Below w.heap.size w w'

end Go.Proofs.YtljlkhaolfihjaaGreatDoor
