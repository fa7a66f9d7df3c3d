/- The reference of names: lists in order. -/
import Derived.Test.YtljlkhaolfihjaaGreatDoorRefE
import Derived.StillTailTactics
namespace Go.Proofs.YtljlkhaolfihjaaGreatDoor
open Go.RowKit

/-- A list in order. -/
def orderedB : List ByteArray → Bool
  | [] => true
  | [_] => true
  | a :: b :: t => !beforeB b.data.toList a.data.toList && orderedB (b :: t)

def Valid (ss : List ByteArray) : Prop := ∀ s, s ∈ ss → 1 ≤ s.size ∧ s.size ≤ 6

def OrderedPost (ss : List ByteArray) (w : World) (e : Ending) (w' : World) : Prop :=
  e = .returned (.bool (orderedB ss)) ∧ Below w.heap.size w w'

theorem orderedB_drop (ss : List ByteArray) (k : Nat) (hk : k + 1 < ss.length) : orderedB (ss.drop k) = (!beforeB ss[k + 1].data.toList ss[k].data.toList && orderedB (ss.drop (k + 1))) := by
  rw [List.drop_eq_getElem_cons (by omega), List.drop_eq_getElem_cons hk]; rfl
theorem orderedB_end (ss : List ByteArray) (k : Nat) (hk : ss.length ≤ k + 1) : orderedB (ss.drop k) = true := by
  rcases Nat.lt_or_ge k ss.length with h | h
  · rw [List.drop_eq_getElem_cons h, List.drop_eq_nil_of_le hk]; rfl
  · rw [List.drop_eq_nil_of_le h]; rfl

set_option maxRecDepth 100000 in
set_option maxHeartbeats 800000 in
theorem ordered_any (A : Option Addr) (n c : Nat) (ss : List ByteArray) (w : World) (hn : n = ss.length) (hb : n ≤ 1000) (hv : Valid ss) (hx : Cells w A (ss.map Value.string)) :
    Calls Tryz.prog 57 #[.slice A n c] w (OrderedPost ss w) := by
  have HN := Lib.hid hn
  have HX := Lib.hid hx
  have HV := Lib.hid hv
  clear hn hx hv
  go_enter Tryz.func57, Tryz.ntmps57
  go_wp2_with fail
  go_loopw [3] (fun i wr => ∃ k : Nat, i = .int .i64 ((k : Int) + 1) ∧ k ≤ n ∧ orderedB (ss.drop k) = orderedB ss ∧ Below w.heap.size w wr) (fun i _ => n - (intOf i).toNat)
  case atStart => exact ⟨0, rfl, Nat.zero_le _, rfl, Below.refl _ _⟩
  case round =>
    obtain ⟨k, rfl, hk, hf, hb⟩ := hrel
    have HF := Lib.hid hf
    clear hf
    by_cases hlt : k + 1 < n
    · have hks : k + 1 < ss.length := by rw [← HN.out]; exact hlt
      obtain ⟨b1, o1, rfl, c1⟩ := HX.out.str k (by omega)
      obtain ⟨b2, o2, e2, c2⟩ := HX.out.str (k + 1) hks
      injection e2 with e2
      injection e2 with e3 e4 e5
      subst e3 e4
      have d1 := (hb.cell (World.block_lt_of_cell? w _ c1)).trans c1
      have d2 := (hb.cell (World.block_lt_of_cell? w _ c2)).trans c2
      have ed := orderedB_drop ss k hks
      have v1 := HV.out ss[k] (List.getElem_mem _)
      have v2 := HV.out ss[k + 1] (List.getElem_mem _)
      generalize hX : ss[k] = X at *
      generalize hY : ss[k + 1] = Y at *
      have ED := Lib.hid ed
      clear c1 c2 hX hY ed
      obtain ⟨x1, x6⟩ := v1
      obtain ⟨y1, y6⟩ := v2
      have j1 : IntKind.i64.wrap (k : Int) = (k : Int) := IntWalk.i64_in _ (by omega)
      have j2 : ((k : Int) + 1).toNat = k + 1 := by omega
      have j3 : (0 : Int) ≤ (k : Int) + 1 := by omega
      have j4 : (k : Int) + 1 < (n : Int) := by omega
      have j5 : (0 : Int) ≤ (k : Int) := by omega
      have j6 : (k : Int) < (n : Int) := by omega
      go_wp2_with fail
      go_still_tail 9, (by kernel_rfl)
      change wpList _ _ _ _ _ wr.drew
      go_wp2_with fail
      refine (before_any _ _ _ y1 y6 x1 x6).mono ?_
      rintro e w1 ⟨rfl, hb1⟩
      have hb2 : Below wr.heap.size wr w1 := ⟨hb1.os, hb1.tape, hb1.output, hb1.size, hb1.block⟩
      cases hB : beforeB Y.data.toList X.data.toList with
      | true =>
        have H := Lib.hid hB
        clear hB
        go_wp2
        go_ret
        exact ⟨ret_bool (by rw [← HF.out, ED.out, H.out]; rfl), hb.trans (hb2.mono hb.size)⟩
      | false =>
        have H := Lib.hid hB
        clear hB
        go_wp2
        go_roundw
        case rel => exact ⟨k + 1, by go_num, by omega, by rw [← HF.out, ED.out, H.out]; rfl, hb.trans (hb2.mono hb.size)⟩
        case measure => simp [intOf]; omega
    · have e0 : orderedB ss = true := by rw [← HF.out]; exact orderedB_end ss k (by rw [← HN.out]; omega)
      have E0 := Lib.hid e0
      clear e0
      go_wp2
      go_ret
      exact ⟨ret_bool E0.out.symm, hb⟩
end Go.Proofs.YtljlkhaolfihjaaGreatDoor

/- The reference of names: letters of a string, and parts of a string. -/
namespace Go.Proofs.YtljlkhaolfihjaaGreatDoor
open Go.RowKit

def lettersB (l : List UInt8) (lo hi : Int) : Bool := decide (lo ≤ l.length ∧ (l.length : Int) ≤ hi) && l.all Sp.latin

def LettersPost (s : ByteArray) (lo hi : Int) (w : World) (e : Ending) (w' : World) : Prop :=
  e = .returned (.bool (lettersB s.data.toList lo hi)) ∧ w = w'

theorem all_take (s : ByteArray) (k : Nat) (h : k < s.size) : (s.data.toList.take (k + 1)).all Sp.latin = ((s.data.toList.take k).all Sp.latin && Sp.latin s[k]) := by
  rw [take_snoc s k h, List.all_append]; simp

def partB : List UInt8 → List UInt8 → Bool
  | [], _ => true
  | _ :: _, [] => false
  | a :: s, c :: t => if c = a then partB s t else partB (a :: s) t

def PartPost (s t : ByteArray) (w : World) (e : Ending) (w' : World) : Prop :=
  e = .returned (.bool (partB s.data.toList t.data.toList)) ∧ ∃ j, w' = w.drewN j

theorem list_drop (s : ByteArray) (k : Nat) (h : k < s.size) : s.data.toList.drop k = s[k] :: s.data.toList.drop (k + 1) := by
  rw [List.drop_eq_getElem_cons (by simpa using h)]; rfl

/-- Whether some letters stand for a key. -/
def abbrB (s k : List UInt8) : Bool := decide (s.length < k.length) && (decide (s.head? = k.head?) && partB s k)

def AbbrPost (s k : ByteArray) (w : World) (e : Ending) (w' : World) : Prop :=
  e = .returned (.bool (abbrB s.data.toList k.data.toList)) ∧ ∃ j, w' = w.drewN j

theorem head_eq (s : ByteArray) (h : 0 < s.size) : s.data.toList.head? = some s[0] := by
  have h2 : 0 < s.data.toList.length := by simpa using h
  rw [List.head?_eq_getElem?, List.getElem?_eq_getElem h2]; rfl

end Go.Proofs.YtljlkhaolfihjaaGreatDoor
