/- Dice: the next number. -/
import Derived.Test.YtljlkhaolfihjaaGreatDoorRefE
import Derived.RegionTactic
import Derived.ChangeAlike
import Derived.OpenShut
namespace Go.Proofs.YtljlkhaolfihjaaGreatDoor
open Go.RowKit

/-- Of two stores into one cell the later one counts. -/
theorem setCell_twice (w : World) (a : Addr) (x y : Value) : (w.setCell a x).setCell a y = w.setCell a y := by
  unfold World.setCell
  congr 1
  apply Array.ext
  · simp
  · intro i h1 h2
    simp only [Array.getElem_modify]
    split
    · cases w.heap[i]'(by simpa using h1) <;> simp
      split <;> simp
    · rfl

/-- Block d is dice over the slice v, whose numbers lie elsewhere. -/
def Dice (w : World) (d : Nat) (v : Value) : Prop :=
  ∃ (A : Option Addr) (n c : Nat) (k s : Int), v = .slice A n c ∧ n ≤ 1000000000000000000 ∧ 0 ≤ k ∧ k ≤ n ∧
    w.heap[d]? = some (.cells #[.slice A n c, .int .i64 k, .int .u64 s] 69 (0, 0)) ∧
    ∀ i, i < n → ∃ (b off : Nat) (x : Int), A = some ⟨b, off, none⟩ ∧ b < d ∧ w.cell? ⟨b, off + i, none⟩ = some (.int .i64 x)

theorem Dice.lt {w : World} {d : Nat} {v : Value} (h : Dice w d v) : d < w.heap.size := by
  obtain ⟨A, n, c, k, s, _, _, _, _, hd, _⟩ := h
  rcases Nat.lt_or_ge d w.heap.size with h | h
  · exact h
  · simp [Array.getElem?_eq_none h] at hd

/-- What leaves all old blocks alone leaves dice as they are. -/
theorem Dice.below {w w' : World} {B d : Nat} {v : Value} (h : Dice w d v) (hb : Below B w w') (hB : w.heap.size ≤ B) : Dice w' d v := by
  have hl := h.lt
  obtain ⟨A, n, c, k, s, e, hn, hk, hkn, hd, hx⟩ := h
  refine ⟨A, n, c, k, s, e, hn, hk, hkn, (hb.block d (by omega)).trans hd, fun i hi => ?_⟩
  obtain ⟨b, off, x, eA, hne, hc⟩ := hx i hi
  have hbl := World.block_lt_of_cell? w _ hc
  exact ⟨b, off, x, eA, hne, (hb.cell (p := ⟨b, off + i, none⟩) (by simp at hbl ⊢; omega)).trans hc⟩

/-- What leaves alone all up to the dice leaves them as they are. -/
theorem Dice.under {w w' : World} {B d : Nat} {v : Value} (h : Dice w d v) (hb : Below B w w') (hB : d < B) : Dice w' d v := by
  obtain ⟨A, n, c, k, s, e, hn, hk, hkn, hd, hx⟩ := h
  refine ⟨A, n, c, k, s, e, hn, hk, hkn, (hb.block d hB).trans hd, fun i hi => ?_⟩
  obtain ⟨b, off, x, eA, hne, hc⟩ := hx i hi
  exact ⟨b, off, x, eA, hne, (hb.cell (p := ⟨b, off + i, none⟩) (by simp; omega)).trans hc⟩

/-- A number comes out, and nothing but the dice has turned. -/
def RawPost (d : Nat) (v : Value) (w : World) (e : Ending) (w' : World) : Prop :=
  ∃ x : Int, e = .returned (.int .u64 x) ∧ 0 ≤ x ∧ Dice w' d v ∧ w.grownBy w' (some d)

theorem bits_nonneg (op : BinOp) (x y : Int) : 0 ≤ bits op .u64 x y := by
  unfold bits
  split <;> (rw [IntKind.wrap_u64]; omega)

theorem cells_of {w : World} {d : Nat} {cs : Array Value} {t : TypeId} (h : w.heap[d]? = some (.cells cs t (0, 0))) (i : Nat) :
    w.cell? ⟨d, i, none⟩ = cs[i]? ∧ w.frozen? ⟨d, i, none⟩ = false := by
  simp [World.cell?, World.frozen?, h]

theorem setCell_block {w : World} {d i : Nat} {cs : Array Value} {t : TypeId} (h : w.heap[d]? = some (.cells cs t (0, 0))) (x : Value) :
    (w.setCell ⟨d, i, none⟩ x).heap[d]? = some (.cells (cs.setIfInBounds i x) t (0, 0)) := by
  simp [World.setCell, Array.getElem?_modify, h]

theorem grownBy_setCell (w : World) (a : Addr) (x : Value) : w.grownBy (w.setCell a x) (some a.block) :=
  ⟨rfl, rfl, rfl, by simp, fun k _ hk => Below.heap_setCell w a x k (by simpa using hk)⟩
theorem grownBy_drewN {w w' : World} {row : Option Nat} (h : w.grownBy w' row) (n : Nat) : w.grownBy (w'.drewN n) row := ⟨h.os, h.tape, h.output, h.size, h.block⟩
theorem grownBy_trans {a b c : World} {row : Option Nat} (h : a.grownBy b row) (k : b.grownBy c row) : a.grownBy c row :=
  ⟨k.os.trans h.os, k.tape.trans h.tape, k.output.trans h.output, Nat.le_trans h.size k.size, fun i hi hr => (k.block i (Nat.lt_of_lt_of_le hi h.size) hr).trans (h.block i hi hr)⟩

/-- The numbers of a list, outside block d. -/
def Nums (w : World) (d : Nat) (A : Option Addr) (n : Nat) : Prop :=
  ∀ i, i < n → ∃ (b off : Nat) (x : Int), A = some ⟨b, off, none⟩ ∧ b < d ∧ w.cell? ⟨b, off + i, none⟩ = some (.int .i64 x)

/-- Behind a store into the cell of the seed they are dice still; draws turn nothing. -/
theorem seed_turned {w w' : World} {d : Nat} {A : Option Addr} {n c : Nat} {k s S : Int} (hn : n ≤ 1000000000000000000) (hk : 0 ≤ k) (hkn : k ≤ n)
    (hd : w.heap[d]? = some (.cells #[.slice A n c, .int .i64 k, .int .u64 s] 69 (0, 0))) (hx : Nums w d A n)
    (hw : w'.heap = (w.setCell ⟨d, 2, none⟩ (.int .u64 S)).heap) (ho : w'.os = w.os) (ht : w'.tape = w.tape) (hp : w'.output = w.output) :
    Dice w' d (.slice A n c) ∧ w.grownBy w' (some d) := by
  have hg : w.grownBy w' (some d) := ⟨ho, ht, hp, by rw [hw]; simp, fun i hi hne => by rw [hw]; exact Below.heap_setCell w _ _ i (by simpa using hne)⟩
  refine ⟨⟨A, n, c, k, S, rfl, hn, hk, hkn, ?_, fun i hi => ?_⟩, hg⟩
  · rw [hw, setCell_block hd]; rfl
  · obtain ⟨b, off, x, e, hne, hc⟩ := hx i hi
    exact ⟨b, off, x, e, hne, hg.cell hc (by simp; omega)⟩

/-- Behind stores into the cells of the seed and of the place they are dice still. -/
theorem both_turned {w w' : World} {d : Nat} {A : Option Addr} {n c : Nat} {k s S : Int} (hn : n ≤ 1000000000000000000) (hk : 0 ≤ k) (hkn : k < n)
    (hd : w.heap[d]? = some (.cells #[.slice A n c, .int .i64 k, .int .u64 s] 69 (0, 0))) (hx : Nums w d A n)
    (hw : w'.heap = ((w.setCell ⟨d, 2, none⟩ (.int .u64 S)).setCell ⟨d, 1, none⟩ (.int .i64 (k + 1))).heap) (ho : w'.os = w.os) (ht : w'.tape = w.tape) (hp : w'.output = w.output) :
    Dice w' d (.slice A n c) ∧ w.grownBy w' (some d) := by
  have hg : w.grownBy w' (some d) := ⟨ho, ht, hp, by rw [hw]; simp, fun i hi hne => by
    rw [hw]; exact (Below.heap_setCell _ _ _ i (by simpa using hne)).trans (Below.heap_setCell w _ _ i (by simpa using hne))⟩
  refine ⟨⟨A, n, c, k + 1, S, rfl, hn, by omega, by omega, ?_, fun i hi => ?_⟩, hg⟩
  · rw [hw, setCell_block (setCell_block hd _)]; rfl
  · obtain ⟨b, off, x, e, hne, hc⟩ := hx i hi
    exact ⟨b, off, x, e, hne, hg.cell hc (by simp; omega)⟩

set_option maxRecDepth 100000 in
set_option maxHeartbeats 800000 in
theorem raw_end (d n c : Nat) (A : Option Addr) (k s : Int) (w : World) (hk : (n : Int) ≤ k) (hkn : k ≤ n) (hn : n ≤ 1000000000000000000)
    (hd : w.heap[d]? = some (.cells #[.slice A n c, .int .i64 k, .int .u64 s] 69 (0, 0)))
    (hx : Nums w d A n) :
    Calls Tryz.prog 77 #[.pointer (some ⟨d, 0, none⟩)] w (RawPost d (.slice A n c) w) := by
  have h0 := (cells_of hd 0).1
  have h1 := (cells_of hd 1).1
  have h2 := (cells_of hd 2).1
  have f1 := (cells_of hd 1).2
  have f2 := (cells_of hd 2).2
  simp at h0 h1 h2
  have HD := Lib.hid hd
  clear hd
  have hss := fun x y => setCell_twice w ⟨d, 2, none⟩ x y
  go_enter Tryz.func77, Tryz.ntmps77
  go_wp2
  go_region
  go_wp2
  go_region
  go_wp2
  go_region
  go_wp2
  go_region
  go_wp2
  go_ret
  refine ⟨_, rfl, bits_nonneg _ _ _, ?_⟩
  exact seed_turned (w := w) hn (by omega) hkn HD.out hx rfl rfl rfl rfl

set_option maxRecDepth 100000 in
set_option maxHeartbeats 800000 in
theorem raw_list (d n c : Nat) (A : Option Addr) (k s : Int) (w : World) (hk : 0 ≤ k) (hkn : k < n) (hn : n ≤ 1000000000000000000)
    (hd : w.heap[d]? = some (.cells #[.slice A n c, .int .i64 k, .int .u64 s] 69 (0, 0)))
    (hx : Nums w d A n) :
    Calls Tryz.prog 77 #[.pointer (some ⟨d, 0, none⟩)] w (RawPost d (.slice A n c) w) := by
  obtain ⟨k, rfl⟩ := Int.eq_ofNat_of_zero_le hk
  obtain ⟨b, off, x, rfl, hne, hcx⟩ := hx k (by omega)
  have h0 := (cells_of hd 0).1
  have h1 := (cells_of hd 1).1
  have h2 := (cells_of hd 2).1
  have f1 := (cells_of hd 1).2
  have f2 := (cells_of hd 2).2
  simp at h0 h1 h2
  have HD := Lib.hid hd
  clear hd
  have hss := fun x y => setCell_twice w ⟨d, 2, none⟩ x y
  have hcx2 : ∀ y, (w.setCell ⟨d, 2, none⟩ y).cell? ⟨b, off + k, none⟩ = some (.int .i64 x) := fun y => by
    rw [World.cell?_setCell_other _ _ _ _ (by intro e; injection e with e; omega)]; exact hcx
  have hc1 : ∀ y, (w.setCell ⟨d, 2, none⟩ y).cell? ⟨d, 1, none⟩ = some (.int .i64 k) := fun y => by
    rw [World.cell?_setCell_other _ _ _ _ (by simp)]; exact h1
  have hc2 : ∀ y, (w.setCell ⟨d, 2, none⟩ y).cell? ⟨d, 2, none⟩ = some y := fun y => World.cell?_setCell_same _ _ _ h2
  clear hcx
  go_enter Tryz.func77, Tryz.ntmps77
  go_wp2
  go_region
  go_wp2
  go_region
  go_wp2
  go_region
  go_wp2
  go_region
  go_wp2
  go_region
  go_wp2
  go_ret
  refine ⟨_, rfl, bits_nonneg _ _ _, ?_⟩
  exact both_turned (w := w) hn hk hkn HD.out hx rfl rfl rfl rfl

theorem raw_any (d : Nat) (v : Value) (w : World) (h : Dice w d v) :
    Calls Tryz.prog 77 #[.pointer (some ⟨d, 0, none⟩)] w (RawPost d v w) := by
  obtain ⟨A, n, c, k, s, rfl, hn, hk, hkn, hd, hx⟩ := h
  by_cases hlt : k < n
  · exact raw_list d n c A k s w hk hlt hn hd hx
  · exact raw_end d n c A k s w (by omega) hkn hn hd hx
end Go.Proofs.YtljlkhaolfihjaaGreatDoor
