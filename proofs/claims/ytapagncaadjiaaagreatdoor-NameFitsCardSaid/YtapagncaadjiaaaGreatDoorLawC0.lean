/- Lists of strings in a law's hands. -/
import Derived.Test.YtapagncaadjiaaaGreatDoorLawB0
import Derived.Test.YtapagncaadjiaaaGreatDoorKitD
namespace Go.Proofs.YtapagncaadjiaaaGreatDoor
open Go.RowKit

/-- A slice of strings, not long. -/
def StrList (w : World) (v : Value) (ss : List ByteArray) : Prop := ∃ A n c, v = .slice A n c ∧ n = ss.length ∧ n ≤ 1000 ∧ (A = none → c = 0) ∧ Cells w A (ss.map Value.string)
theorem StrList.below {w w' : World} {v : Value} {ss : List ByteArray} (h : StrList w v ss) (hb : Below w.heap.size w w') : StrList w' v ss := by
  obtain ⟨A, n, c, e, hn, hm, h0, hc⟩ := h
  exact ⟨A, n, c, e, hn, hm, h0, hc.below hb⟩
theorem StrList.own {w : World} {base n : Nat} {e : TypeId} {v : Value} {ss : List ByteArray} (h : w.ownsRow base e 1 v n (ss.map Value.string)) (hn : n = ss.length) (hm : n ≤ 1000) : StrList w v ss := by
  rcases h.2 with ⟨rfl, h0⟩ | ⟨g, cap, cur, rfl, _⟩
  · exact ⟨none, 0, 0, rfl, by omega, by omega, (fun _ => rfl), by have : ss = [] := List.eq_nil_of_length_eq_zero (by omega); subst this; intro i hi; cases hi⟩
  · exact ⟨_, n, cap, rfl, hn, hm, (fun q => nomatch q), cells_own h⟩
/-- Cells that hold such slices. -/
def StrLists (w : World) (B : Option Addr) (vs : List Value) : Prop := Cells w B vs ∧ ∀ i (h : i < vs.length), ∃ ss, StrList w vs[i] ss
theorem StrLists.below {w w' : World} {B : Option Addr} {vs : List Value} (h : StrLists w B vs) (hb : Below w.heap.size w w') : StrLists w' B vs :=
  ⟨h.1.below hb, fun i hi => by obtain ⟨ss, hs⟩ := h.2 i hi; exact ⟨ss, hs.below hb⟩⟩
theorem Cells.any {w : World} {A : Option Addr} {vs : List Value} (h : Cells w A vs) (i : Nat) (hi : i < vs.length) : ∃ b off : Nat, A = some ⟨b, off, none⟩ ∧ w.cell? ⟨b, off + i, none⟩ = some vs[i] := by
  obtain ⟨b, off, e, hc⟩ := h i hi
  exact ⟨b, off, e, by rw [hc, List.getD_eq_getElem?_getD, List.getElem?_eq_getElem hi]; rfl⟩

theorem long_list {ss : List ByteArray} (h : longB [] ss = false) : ss.length ≤ 20 ∧ ∀ s, s ∈ ss → s.size ≤ 20 := by
  rw [longB_eq] at h
  simp only [Bool.or_eq_false_iff, decide_eq_false_iff_not] at h
  refine ⟨by omega, fun s hs => ?_⟩
  have h1 := h.1.1.1
  rw [List.any_eq_false] at h1
  have h2 := h1 s hs
  unfold strLong at h2
  simp only [decide_eq_true_eq] at h2
  omega

theorem own_lit (w : World) (base : Nat) (cs : Array Value) (e : TypeId) (n : Nat) (hb : base ≤ w.heap.size) (hn : cs.size = n) (hm : n ≤ 1000) :
    (w.alloc (.cells cs e)).ownsRow base e 1 (.slice (some ⟨w.heap.size, 0, none⟩) n n) n cs.toList :=
  World.ownsRow_lit w cs n hb (by unfold maxLen; omega) (by omega)
end Go.Proofs.YtapagncaadjiaaaGreatDoor
