/- The program's order of names, and its sorting of a list. -/
import Derived.Test.YtljlkhaolfihjaaGreatDoorPgC
import Derived.Shelf.SlSortFunc.HeapSort
import Derived.StillTailTactics
namespace Go.Proofs.YtljlkhaolfihjaaGreatDoor
open Go.RowKit Go.Shelf Go.Lib Go.Sort

/-- A world that has drawn and laid blocks, and nothing else. -/
def GQ (w w' : World) : Prop := ∃ (q : Nat) (os : Array Obj), w' = grow (w.drewN q) os
theorem GQ.refl (w : World) : GQ w w := ⟨0, #[], by rw [grow_empty]; rfl⟩
theorem GQ.alloc {w w' : World} (h : GQ w w') (o : Obj) : GQ w (w'.alloc o) := by
  obtain ⟨q, os, rfl⟩ := h
  exact ⟨q, os ++ #[o], by rw [alloc_eq_grow, grow_grow]⟩
theorem GQ.drew {w w' : World} (h : GQ w w') : GQ w w'.drew := by
  obtain ⟨q, os, rfl⟩ := h
  exact ⟨q + 1, os, rfl⟩
theorem GQ.trans {a b c : World} (h : GQ a b) (k : GQ b c) : GQ a c := by
  obtain ⟨q, os, rfl⟩ := h
  obtain ⟨p, ps, rfl⟩ := k
  refine ⟨q + p, os ++ ps, ?_⟩
  rw [← grow_grow]
  show World.mk .. = World.mk ..
  congr 1
  exact Nat.add_assoc _ _ _
theorem GQ.below {w w' : World} (h : GQ w w') : Below w.heap.size w w' := by
  obtain ⟨q, os, rfl⟩ := h
  refine ⟨rfl, rfl, rfl, ?_, ?_⟩
  · simp [grow]
  · intro k hk
    show (w.heap ++ os)[k]? = w.heap[k]?
    rw [Array.getElem?_append_left hk]

set_option maxRecDepth 100000 in
theorem keyCmp_any (a b : ByteArray) (w : World) : Calls Tryz.prog 82 #[.string a, .string b] w fun e w' => e = .returned (.int .i64 (Lib.compareBytes a.data.toList b.data.toList)) ∧ w' = w := by
  go_enter Tryz.func82, Tryz.ntmps82
  go_wp2_with fail
  refine (Tryz.strings_Compare a b _).mono ?_
  rintro e w' ⟨rfl, rfl⟩
  go_wp2_with fail
  go_ret
  exact ⟨rfl, rfl⟩

def orP (x y : Int) : Int := if x = 0 then y else x
set_option maxRecDepth 100000 in
set_option maxHeartbeats 800000 in
theorem or_any (b : Nat) (x y : Int) (w : World) (h0 : w.cell? ⟨b, 0, none⟩ = some (.int .i64 x)) (h1 : w.cell? ⟨b, 1, none⟩ = some (.int .i64 y)) :
    Calls Tryz.prog 81 #[.slice (some ⟨b, 0, none⟩) 2 2] w fun e w' => e = .returned (.int .i64 (orP x y)) ∧ w' = w := by
  go_enter Tryz.func81, Tryz.ntmps81
  go_wp2_with fail
  go_loop [8] (fun i => ∃ k : Nat, k ≤ 2 ∧ i = .int .i64 k ∧ Hid (1 ≤ k → x = 0) ∧ Hid (2 ≤ k → y = 0)) (fun i => 2 - (intOf i).toNat)
  case atStart => exact ⟨0, by omega, rfl, fun h => by omega, fun h => by omega⟩
  case round =>
    obtain ⟨k, hk, rfl, hx, hy⟩ := hrel
    have h3 : k = 0 ∨ k = 1 ∨ k = 2 := by omega
    rcases h3 with rfl | rfl | rfl
    · by_cases e0 : x = 0
      · have b0 : (x != 0) = false := by simp [e0]
        have E0 := Lib.hid e0
        clear e0
        go_wp2_with fail
        go_round
        case rel => exact ⟨1, by omega, rfl, fun _ => E0.out, fun h => by omega⟩
        case measure => simp [intOf]
      · have b0 : (x != 0) = true := by simp [e0]
        have E0 := Lib.hid e0
        clear e0
        go_wp2_with fail
        go_ret
        exact ⟨ret_int (by unfold orP; rw [if_neg E0.out]), rfl⟩
    · by_cases e0 : y = 0
      · have b0 : (y != 0) = false := by simp [e0]
        have E0 := Lib.hid e0
        clear e0
        go_wp2_with fail
        go_round
        case rel => exact ⟨2, by omega, rfl, fun _ => hx.out (by omega), fun _ => E0.out⟩
        case measure => simp [intOf]
      · have b0 : (y != 0) = true := by simp [e0]
        have E0 := Lib.hid e0
        clear e0
        go_wp2_with fail
        go_ret
        exact ⟨ret_int (by unfold orP; rw [if_pos (hx.out (by omega))]), rfl⟩
    · have ey : orP x y = 0 := by unfold orP; rw [if_pos (hx.out (by omega))]; exact hy.out (by omega)
      have EY := Lib.hid ey
      clear ey
      go_wp2_with fail
      go_ret
      exact ⟨ret_int EY.out.symm, rfl⟩

theorem cmp_or (a b : Spell) : orP (Lib.compareBytes a.1.data.toList b.1.data.toList) (Lib.compareInt a.2 b.2) = cmpSpell a b := rfl

set_option maxRecDepth 100000 in
set_option maxHeartbeats 800000 in
theorem compare_any (a b : Spell) (w : World) : Calls Tryz.prog 48 #[.agg #[.string a.1, .int .i64 a.2], .agg #[.string b.1, .int .i64 b.2]] w
    fun e w' => e = .returned (.int .i64 (cmpSpell a b)) ∧ GQ w w' := by
  obtain ⟨A, p⟩ := a
  obtain ⟨B, q⟩ := b
  have eo := cmp_or (A, p) (B, q)
  have EO := Lib.hid eo
  clear eo
  go_enter Tryz.func48, Tryz.ntmps48
  go_wp2_with fail
  have g0 : GQ w ((w.alloc (.cells #[.string A, .int .i64 p] 84)).alloc (.cells #[.string B, .int .i64 q] 84)) := ((GQ.refl w).alloc _).alloc _
  have h1 : ((w.alloc (.cells #[.string A, .int .i64 p] 84)).alloc (.cells #[.string B, .int .i64 q] 84)).heap[w.heap.size]? = some (.cells #[.string A, .int .i64 p] 84 (0, 0)) :=
    (Below.heap_alloc _ _ _ (by simp)).trans (heap_alloc_new w _)
  have h2 : ((w.alloc (.cells #[.string A, .int .i64 p] 84)).alloc (.cells #[.string B, .int .i64 q] 84)).heap[w.heap.size + 1]? = some (.cells #[.string B, .int .i64 q] 84 (0, 0)) := by
    have := heap_alloc_new (w.alloc (.cells #[.string A, .int .i64 p] 84)) (.cells #[.string B, .int .i64 q] 84)
    rwa [World.size_alloc] at this
  obtain ⟨c0, c1, _, _⟩ := block2_cells h1
  obtain ⟨c2, c3, _, _⟩ := block2_cells h2
  generalize (w.alloc (.cells #[.string A, .int .i64 p] 84)).alloc (.cells #[.string B, .int .i64 q] 84) = W at *
  clear h1 h2
  refine wp_region_still_tail 10 (by kernel_rfl) (by kernel_rfl) ?_
  simp only [List.take_succ_cons, List.take_zero, List.drop_succ_cons, List.drop_zero]
  still_step
  still_step
  still_step
  still_step
  still_call (keyCmp_any A B _)
  still_step
  still_step
  still_step
  still_step
  still_call (Tryz.cmp_Compare_int p q _)
  refine wpStill_nil ?_
  change wpList _ _ _ _ _ W.drew
  have g1 := g0.drew
  clear c0 c1 c2 c3 g0
  generalize W.drew = V at *
  generalize Lib.compareBytes A.data.toList B.data.toList = x at *
  generalize Lib.compareInt p q = y at *
  have g2 := g1.alloc (.cells #[.int .i64 x, .int .i64 y] 3)
  have hv := heap_alloc_new V (.cells #[.int .i64 x, .int .i64 y] 3)
  obtain ⟨d0, d1, _, _⟩ := block2_cells hv
  have qo := or_any V.heap.size x y _ d0 d1
  have QO := Lib.hid qo
  clear qo hv d0 d1
  go_wp2_with fail
  refine QO.out.mono ?_
  rintro e w' ⟨rfl, rfl⟩
  go_wp2_with fail
  go_ret
  exact ⟨ret_int EO.out, g2⟩

/-! ### Numbers from 0 on -/

def upRow (n j : Nat) : List Int := (List.range n).map fun i => if i < j then (i : Int) else 0
theorem upRow_len (n j : Nat) : (upRow n j).length = n := by simp [upRow]
theorem upRow_zero (n : Nat) : upRow n 0 = List.replicate n 0 := by
  refine List.ext_getElem (by simp [upRow]) fun i h1 h2 => ?_
  simp [upRow]
theorem upRow_all (n : Nat) : upRow n n = (List.range n).map fun i : Nat => (i : Int) := by
  refine List.map_congr_left fun i hi => ?_
  rw [if_pos (List.mem_range.1 hi)]
theorem upRow_set (n j : Nat) : (upRow n j).set j (j : Int) = upRow n (j + 1) := by
  refine List.ext_getElem (by simp [upRow]) fun i h1 h2 => ?_
  rw [List.getElem_set]
  simp only [upRow, List.getElem_map, List.getElem_range]
  by_cases h3 : j = i
  · subst h3; simp
  · rw [if_neg h3]
    by_cases h4 : i < j
    · rw [if_pos h4, if_pos (by omega)]
    · rw [if_neg h4, if_neg (by omega)]

def UpPost (n : Nat) (w : World) (e : Ending) (w' : World) : Prop :=
  ∃ G, e = .returned (.slice (some ⟨G, 0, none⟩) n n) ∧ w'.ownsRow w.heap.size 3 1 (.slice (some ⟨G, 0, none⟩) n n) n ((upRow n n).map (Value.int .i64)) ∧ Below w.heap.size w w'

set_option maxRecDepth 100000 in
set_option maxHeartbeats 800000 in
theorem upTo_any (n : Nat) (w : World) (hn : n ≤ 1000) : Calls Tryz.prog 51 #[.int .i64 n] w (UpPost n w) := by
  obtain ⟨si, hi, hz0, hz1, hz2⟩ := info_parts infoInt
  obtain ⟨w3, hrun, hownM, hgM⟩ := run_make_full (P := Tryz.prog) w w.heap.size 23 3 si (.int .i64 0) 1 Tryz.underlying23 hi hz0 hz1 .i64 .i64 n (by rw [hz2]; omega) (by unfold maxLen; omega) (Nat.le_refl _)
  have hm : (madeCells (Value.int .i64 0).cells (n * 1)).toList = (upRow n 0).map (Value.int .i64) := by
    rw [Nat.mul_one, show (Value.int .i64 0).cells = #[.int .i64 0] from rfl, toList_madeCells_one, upRow_zero, List.map_replicate]
  rw [hm] at hownM
  have hb3 : Below w.heap.size w w3 := (Below.refl _ w).grown hgM (Nat.le_refl _) fun k hk => by cases hk
  clear hm hgM
  generalize hG : w.heap.size = G at *
  have HG := Lib.hid hG
  clear hG
  go_enter Tryz.func51, Tryz.ntmps51
  go_wp2_with fail
  go_loopw [9] (fun i wr => ∃ j : Nat, j ≤ n ∧ i = .int .i64 j ∧ wr.ownsRow G 3 1 (.slice (some ⟨G, 0, none⟩) n n) n ((upRow n j).map (Value.int .i64)) ∧ Below G w wr) (fun i _ => n - (intOf i).toNat)
  case atStart => exact ⟨0, Nat.zero_le _, rfl, hownM, hb3⟩
  case round =>
    obtain ⟨j, hj, rfl, hown, hb⟩ := hrel
    clear hownM hb3
    by_cases hlt : j < n
    · have hlen := upRow_len n j
      have hc3 : wr.cell? ⟨G, j, none⟩ = some (.int .i64 ((upRow n j)[j]'(by rw [hlen]; exact hlt))) := by
        rw [hown.cellAt j (by rw [Nat.mul_one]; exact hlt), List.getElem?_map, List.getElem?_eq_getElem (by rw [hlen]; exact hlt)]; rfl
      have hf3 := hown.frozenAt j
      have hst := (hown.stored j (.int .i64 j)).1
      have hbs := hb.setCell (p := ⟨G, j, none⟩) (hown.lt G rfl).1 (.int .i64 j)
      rw [← List.map_set, upRow_set n j] at hst
      generalize (upRow n j)[j]'(by rw [hlen]; exact hlt) = OLD at hc3
      clear hlen
      go_wp2
      go_roundw
      case rel => exact ⟨j + 1, by omega, by go_num, hst, hbs⟩
      case measure => simp [intOf]; omega
    · have ej : j = n := by omega
      subst ej
      go_wp2
      go_ret
      exact ⟨G, rfl, by rw [HG.out]; exact hown, by rw [HG.out]; exact hb⟩

/-! ### The comparison of two indices -/

theorem spellCells_get (ss : List ByteArray) (k : Nat) (hk : k < ss.length) :
    (spellCells ss).getD (k * 2) undef = .string (keyS ss[k]) ∧ (spellCells ss).getD (k * 2 + 1) undef = .int .i64 (alphaN ss[k].data.toList) ∧ k * 2 + 1 < (spellCells ss).length := by
  induction ss generalizing k with
  | nil => simp at hk
  | cons r t ih =>
    cases k with
    | zero => exact ⟨rfl, rfl, by simp [spellCells]⟩
    | succ k =>
      obtain ⟨h1, h2, h3⟩ := ih k (by simpa using hk)
      have e : spellCells (r :: t) = .string (keyS r) :: .int .i64 (alphaN r.data.toList) :: spellCells t := rfl
      refine ⟨?_, ?_, ?_⟩
      · rw [e]; exact (by rw [show (k + 1) * 2 = k * 2 + 1 + 1 from by omega]; rfl : _ = (spellCells t).getD (k * 2) undef).trans h1
      · rw [e]; exact (by rw [show (k + 1) * 2 + 1 = k * 2 + 1 + 1 + 1 from by omega]; rfl : _ = (spellCells t).getD (k * 2 + 1) undef).trans h2
      · rw [e]; simp; omega
theorem Cells.spell {w : World} {A : Option Addr} {ss : List ByteArray} (h : Cells w A (spellCells ss)) (k : Nat) (hk : k < ss.length) :
    ∃ b off : Nat, A = some ⟨b, off, none⟩ ∧ w.cell? ⟨b, off + k * 2, none⟩ = some (.string (keyS ss[k])) ∧ w.cell? ⟨b, off + k * 2 + 1, none⟩ = some (.int .i64 (alphaN ss[k].data.toList)) := by
  obtain ⟨g1, g2, g3⟩ := spellCells_get ss k hk
  obtain ⟨b, off, e, h1⟩ := h (k * 2) (by omega)
  obtain ⟨b', off', e', h2⟩ := h (k * 2 + 1) g3
  rw [e] at e'
  injection e' with e'
  injection e' with e1 e2 _
  subst e1 e2
  exact ⟨b, off, e, by rw [h1, g1], by rw [← g2, ← h2, Nat.add_assoc]⟩

set_option maxRecDepth 100000 in
set_option maxHeartbeats 800000 in
theorem sortCmp_any (ss : List ByteArray) (i j Bn G cap : Nat) (hi : i < ss.length) (hj : j < ss.length) (w : World) (hb : w.cell? ⟨Bn, 0, none⟩ = some (.slice (some ⟨G, 0, none⟩) ss.length cap)) (hx : Cells w (some ⟨G, 0, none⟩) (spellCells ss)) :
    Calls Tryz.prog 53 #[.int .i64 i, .int .i64 j, .pointer (some ⟨Bn, 0, none⟩)] w fun e w' => e = .returned (.int .i64 (cmpSpell (spellOf ss[i]) (spellOf ss[j]))) ∧ GQ w w' := by
  obtain ⟨b1, o1, e1, c1, c2⟩ := hx.spell i hi
  obtain ⟨b2, o2, e2, c3, c4⟩ := hx.spell j hj
  injection e1 with e1; injection e1 with e1 e1' _; subst e1 e1'
  injection e2 with e2; injection e2 with e2 e2' _; subst e2 e2'
  simp only [Nat.zero_add] at c1 c2 c3 c4
  have q := fun W => compare_any (spellOf ss[i]) (spellOf ss[j]) W
  unfold spellOf at q ⊢
  generalize ss[i] = X at *
  generalize ss[j] = Y at *
  generalize alphaN X.data.toList = a at *
  generalize alphaN Y.data.toList = b at *
  generalize keyS X = X' at *
  generalize keyS Y = Y' at *
  generalize ss.length = n at *
  have i1 : (0 : Int) ≤ (i : Int) := by omega
  have i2 : (i : Int) < (n : Int) := by omega
  have j1 : (0 : Int) ≤ (j : Int) := by omega
  have j2 : (j : Int) < (n : Int) := by omega
  have Q := Lib.hid q
  have HX := Lib.hid hx
  clear q hx
  go_enter Tryz.func53, Tryz.ntmps53
  go_wp2_with fail
  go_still_tail 8, (by kernel_rfl)
  change wpList _ _ _ _ _ w.drew
  go_wp2_with fail
  refine (Q.out _).mono ?_
  rintro e w' ⟨rfl, g⟩
  go_wp2_with fail
  go_ret
  exact ⟨rfl, (GQ.refl w).drew.trans g⟩

/-! ### The sorting -/

theorem below_sortWorld {α : Type} [Inhabited α] (enc : α → Value) (w : World) (blk off m B : Nat) (dk : Array α) (os : Array Obj) (hB : B ≤ blk) (hw : B ≤ w.heap.size) : Below B w (sortWorld enc w blk off m dk os) := by
  refine ⟨rfl, rfl, rfl, ?_, ?_⟩
  · simp [sortWorld, grow, putRow, mapBlock, Sort.ahead]
  · intro k hk
    show ((w.heap.modify blk _) ++ os)[k]? = w.heap[k]?
    rw [Array.getElem?_append_left (by simp; omega), Array.getElem?_modify, if_neg (by omega)]

/-- How an index stands as a value. -/
def encF (m : Nat) (i : Fin (m + 1)) : Value := .int .i64 (i.val : Int)
def cfF (ss : List ByteArray) (m : Nat) (i j : Fin (m + 1)) : Int := cmpSpell ((ss.map spellOf).getD i.val (ByteArray.empty, 0)) ((ss.map spellOf).getD j.val (ByteArray.empty, 0))
theorem spell_getD (ss : List ByteArray) (i : Nat) (h : i < ss.length) : (ss.map spellOf).getD i (ByteArray.empty, 0) = spellOf ss[i] := by
  rw [List.getD_eq_getElem?_getD, List.getElem?_map, List.getElem?_eq_getElem h]; rfl

theorem cmpLays (ss : List ByteArray) (m Bn G cap blk : Nat) (hm : ss.length = m + 1) (w : World) (hb : w.cell? ⟨Bn, 0, none⟩ = some (.slice (some ⟨G, 0, none⟩) ss.length cap)) (hx : Cells w (some ⟨G, 0, none⟩) (spellCells ss)) (h1 : Bn ≠ blk) (h2 : G ≠ blk) :
    CmpLays1 Tryz.prog 53 #[.pointer (some ⟨Bn, 0, none⟩)] (encF m) (cfF ss m) blk 0 (m + 1) w := by
  intro k os dk _ x y
  have hx1 : x.val < ss.length := by rw [hm]; exact x.isLt
  have hy1 : y.val < ss.length := by rw [hm]; exact y.isLt
  have q := sortCmp_any ss x.val y.val Bn G cap hx1 hy1 (sortWorld (encF m) w blk 0 k dk os)
    ((cell?_sortWorld_other (encF m) w blk 0 k dk os ⟨Bn, 0, none⟩ h1 (World.block_lt_of_cell? w _ hb)).trans hb)
    (fun i hi => by
      obtain ⟨b, off, e, hc⟩ := hx i hi
      have e2 := e
      injection e2 with e2
      injection e2 with e2 e3 _
      subst e2 e3
      exact ⟨_, _, rfl, (cell?_sortWorld_other (encF m) w blk 0 k dk os _ h2 (World.block_lt_of_cell? w _ hc)).trans hc⟩)
  refine q.mono fun e w' h => ⟨?_, ?_⟩
  · rw [h.1]; unfold cfF; rw [spell_getD ss x.val hx1, spell_getD ss y.val hy1]
  · obtain ⟨a, b, hw⟩ := h.2
    exact ⟨a, b, hw⟩

/-- Cells of a row that holds some indices. -/
theorem holds_of_own {w : World} {base n G : Nat} {m : Nat} (hm : n = m + 1) (h : w.ownsRow base 3 1 (.slice (some ⟨G, 0, none⟩) n n) n ((upRow n n).map (Value.int .i64))) :
    Holds (encF m) w G 0 (Array.ofFn (n := m + 1) id) := by
  intro j hj
  have hj1 : j < m + 1 := by simpa using hj
  refine ⟨?_, ?_⟩
  · rw [Nat.zero_add, h.cellAt j (by omega), upRow_all, List.map_map, List.getElem?_map, List.getElem?_range (by omega)]
    rw [getElem!_pos _ j hj, Array.getElem_ofFn]
    rfl
  · rw [Nat.zero_add]; exact h.frozenAt j

theorem insertion_eq (ss : List ByteArray) (m : Nat) : Sort.insertionSort (ltOf (cfF ss m)) (Array.ofFn (n := m + 1) id) 0 (m + 1) = (sortM (ss.map spellOf) m).toArray := by
  unfold Sort.insertionSort sortM
  rw [outer_F _ (m + 1) m 1 _ (by omega)]
  rfl

set_option maxRecDepth 100000 in
set_option maxHeartbeats 800000 in
/-- The stable sorting of few things is one insertion. -/
theorem stableCmp_any (n : Int) (d f : Value) (S : World → Prop) (w : World) (h1 : 0 ≤ n) (h19 : n ≤ 19) (q : Calls Tryz.prog 114 #[d, .int .i64 0, .int .i64 n, f] w fun e w' => e = .returned (.tuple #[]) ∧ S w') :
    Calls Tryz.prog 85 #[d, .int .i64 n, f] w fun e w' => e = .returned (.tuple #[]) ∧ S w' := by
  have Q := Lib.hid q
  clear q
  go_enter Tryz.func85, Tryz.ntmps85
  go_wp2_with fail
  go_loopw [7, 8] (fun a b wr => a = .int .i64 0 ∧ b = .int .i64 20 ∧ wr = w) (fun _ _ _ => 0)
  case atStart => exact ⟨rfl, rfl, rfl⟩
  case round =>
    obtain ⟨rfl, rfl, rfl⟩ := hrel
    go_wp2_with fail
    refine Q.out.mono ?_
    rintro e w1 ⟨rfl, hS⟩
    go_wp2_with fail
    go_loopw [6, 7, 8, 9] (fun a _ _ _ wr => a = .int .i64 20 ∧ wr = w1) (fun _ _ _ _ _ => 0)
    case atStart => exact ⟨rfl, rfl⟩
    case round =>
      obtain ⟨rfl, rfl⟩ := hrel
      go_wp2_with fail
      go_end0
      exact ⟨rfl, hS⟩

set_option maxRecDepth 100000 in
set_option maxHeartbeats 800000 in
theorem stable_any (ss : List ByteArray) (m Bn G cap blk : Nat) (hm : ss.length = m + 1) (h19 : m + 1 ≤ 19) (w : World) (hb : w.cell? ⟨Bn, 0, none⟩ = some (.slice (some ⟨G, 0, none⟩) ss.length cap)) (hx : Cells w (some ⟨G, 0, none⟩) (spellCells ss)) (h1 : Bn ≠ blk) (h2 : G ≠ blk)
    (hH : Holds (encF m) w blk 0 (Array.ofFn (n := m + 1) id)) (hblk : blk < w.heap.size) :
    Calls Tryz.prog 52 #[.slice (some ⟨blk, 0, none⟩) (m + 1) (m + 1), .func (.func 53) #[] #[.pointer (some ⟨Bn, 0, none⟩)]] w
      fun e w' => e = .returned (.tuple #[]) ∧ SW (encF m) w blk 0 (sortM (ss.map spellOf) m).toArray w' := by
  have eg : ∀ args w, (callFunc 53 args).run Tryz.prog w = .ok (.enter 53 args) w := enters_of Tryz.func53 (by kernel_rfl) rfl
  have hC := cmpLays ss m Bn G cap blk hm w hb hx h1 h2
  have R : Row1 (encF m) w blk 0 (Array.ofFn (n := m + 1) id) := ⟨fun _ => rfl, hH, hblk⟩
  have sz : (Array.ofFn (n := m + 1) (id : Fin (m + 1) → Fin (m + 1))).size = m + 1 := by simp
  have q := Any.insertionSortCmpFunc_s Tryz.insInt (encF m) (cfF ss m) 53 #[.pointer (some ⟨Bn, 0, none⟩)] blk 0 (m + 1) 0 (m + 1) (Array.ofFn (n := m + 1) id) (Array.ofFn (n := m + 1) id) w w eg (by rw [sz]; exact hC) R rfl (SW.start hH) (by omega) (by rw [sz]; exact Nat.le_refl _) (by rw [sz]; omega)
  rw [sz, insertion_eq] at q
  change Calls Tryz.prog 114 _ _ _ at q
  generalize hS : (sortM (ss.map spellOf) m).toArray = S at *
  have q2 : Calls Tryz.prog 114 #[.slice (some ⟨blk, 0, none⟩) (m + 1) (m + 1), .int .i64 0, .int .i64 ((m : Int) + 1), .func (.func 53) #[] #[.pointer (some ⟨Bn, 0, none⟩)]] w fun e w' => e = .returned (.tuple #[]) ∧ SW (encF m) w blk 0 S w' := q
  have Q := Lib.hid q2
  clear q q2 hC R sz hS hH hx hb eg
  have m1 : (0 : Int) ≤ (m : Int) := by omega
  have m2 : (m : Int) + 1 ≤ 19 := by omega
  go_enter Tryz.func52, Tryz.ntmps52
  go_wp2_with fail
  refine (stableCmp_any ((m : Int) + 1) _ _ _ _ (by omega) (by omega) Q.out).mono ?_
  rintro e w' ⟨rfl, hS⟩
  go_wp2_with fail
  go_end0
  exact ⟨rfl, hS⟩

theorem sortG_eq (ks : List Spell) (m : Nat) (h : ks.length = m + 1) : sortG ks = (sortM ks m).map fun i => (i.val : Int) := by
  cases ks with
  | nil => simp at h
  | cons a t =>
    have : t.length = m := by simpa using h
    subst this
    rfl
theorem insF_size {α : Type} [Inhabited α] (lt : α → α → Bool) : ∀ (k i : Nat) (d : Array α), (insF lt k i d).size = d.size := by
  intro k
  induction k with
  | zero => intro i d; rfl
  | succ k ih =>
    intro i d
    show (insF lt k (i + 1) _).size = _
    rw [ih]
    have hi : ∀ (i : Nat) (d : Array α), (Sort.insInner lt 0 i d).size = d.size := by
      intro i
      induction i with
      | zero => intro d; rfl
      | succ i ih2 =>
        intro d
        unfold Sort.insInner
        split
        · rw [ih2]; simp [Sort.swp]
        · rfl
    exact hi i d
theorem sortM_len (ks : List Spell) (m : Nat) : (sortM ks m).length = m + 1 := by
  unfold sortM
  rw [Array.length_toList, insF_size]; simp

theorem upTo_call (m : Nat) (w : World) (h : m + 1 ≤ 1000) : Calls Tryz.prog 51 #[.int .i64 ((m : Int) + 1)] w (UpPost (m + 1) w) := by
  have := upTo_any (m + 1) w h
  rwa [show ((m + 1 : Nat) : Int) = (m : Int) + 1 by omega] at this

theorem cells_own {w : World} {base n size cap : Nat} {e : TypeId} {A : Option Addr} {xs : List Value} (h : w.ownsRow base e size (.slice A n cap) n xs) : Cells w A xs := by
  intro i hi
  rcases h.2 with ⟨_, hn⟩ | ⟨g, cap', cur, hv, _⟩
  · have h1 := h.1; rw [hn, Nat.zero_mul] at h1; omega
  · injection hv with h1 h2 h3
    subst h1 h3
    refine ⟨g, 0, rfl, ?_⟩
    rw [Nat.zero_add, h.cellAt i (by rw [← h.1]; exact hi), List.getD_eq_getElem?_getD, List.getElem?_eq_getElem hi]; rfl
theorem own_head {W : World} {base : Nat} {e : TypeId} {size : Nat} {v : Value} {k : Nat} {xs : List Value} (h : W.ownsRow base e size v (k + 1) xs) : ∃ g cap, v = .slice (some ⟨g, 0, none⟩) (k + 1) cap := by
  rcases h.2 with ⟨_, h0⟩ | ⟨g, cap, _, rfl, _⟩
  · omega
  · exact ⟨g, cap, rfl⟩

def SortPost (xs : List Int) (w : World) (e : Ending) (w' : World) : Prop :=
  ∃ (A : Option Addr) (c : Nat), e = .returned (.tuple #[.slice A xs.length c, .int .i64 0]) ∧ Cells w' A (xs.map (Value.int .i64)) ∧ Below w.heap.size w w'

set_option maxRecDepth 100000 in
set_option maxHeartbeats 1600000 in
theorem Sort_ok (A : Option Addr) (m c : Nat) (ss : List ByteArray) (w : World) (hn : ss.length = m + 1) (hb : m ≤ 5) (hv : AllOk ss) (hx : Cells w A (ss.map Value.string)) :
    Calls Tryz.prog 16 #[.slice A (m + 1) c] w (SortPost (sortG (ss.map spellOf)) w) := by
  have q := readList_ok A (m + 1) c ss w hn.symm (by omega) hv hx
  have hG := sortG_eq (ss.map spellOf) m (by simpa using hn)
  have hLen : (sortG (ss.map spellOf)).length = m + 1 := by rw [hG, List.length_map, sortM_len]
  have Q := Lib.hid q
  have HN := Lib.hid hn
  have HG := Lib.hid hG
  have HLEN := Lib.hid hLen
  clear q hn hv hx hG hLen
  have m0 : (0 : Int) ≤ (m : Int) := by omega
  have m5 : (m : Int) + 1 ≤ 6 := by omega
  go_enter Tryz.func16, Tryz.ntmps16
  go_wp2_with fail
  refine Q.out.mono ?_
  rintro e w1 ⟨o, rfl, ho, hb1⟩
  rw [HN.out] at ho
  obtain ⟨G, cap, rfl⟩ := own_head ho
  have hb2 := hb1.alloc (o := .cells #[.slice (some ⟨G, 0, none⟩) (m + 1) cap] 76) hb1.size
  have hc0 : (w1.alloc (.cells #[.slice (some ⟨G, 0, none⟩) (m + 1) cap] 76)).cell? ⟨w1.heap.size, 0, none⟩ = some (.slice (some ⟨G, 0, none⟩) (m + 1) cap) := by
    rw [Lib.cell_of_heap (heap_alloc_new w1 _)]; rfl
  have hcl : Cells (w1.alloc (.cells #[.slice (some ⟨G, 0, none⟩) (m + 1) cap] 76)) (some ⟨G, 0, none⟩) (spellCells ss) := cells_own (ho.alloc _)
  have hGl : G < (w1.alloc (.cells #[.slice (some ⟨G, 0, none⟩) (m + 1) cap] 76)).heap.size := by
    have := (ho.lt G rfl).2; simp; omega
  have hBl : w1.heap.size < (w1.alloc (.cells #[.slice (some ⟨G, 0, none⟩) (m + 1) cap] 76)).heap.size := by simp
  have H1 := Lib.hid hcl
  clear ho hcl hb1
  have HC0 := Lib.hid hc0
  clear hc0
  go_wp2_with fail
  have hc0 := HC0.out
  clear HC0
  generalize w1.alloc (.cells #[.slice (some ⟨G, 0, none⟩) (m + 1) cap] 76) = W at *
  generalize w1.heap.size = Bn at *
  refine (upTo_call m _ (by omega)).mono ?_
  rintro e w2 ⟨blk, rfl, ho2, hb3⟩
  have k1 := (hb3.cell (World.block_lt_of_cell? W _ hc0)).trans hc0
  have k2 := H1.out.below hb3
  have k3 := (ho2.lt blk rfl)
  have hH := holds_of_own rfl ho2
  have qs := stable_any ss m Bn G cap blk HN.out (by omega) w2 (by rw [HN.out]; exact k1) k2 (by omega) (by omega) hH k3.2
  have hb4 := hb2.trans (hb3.mono hb2.size)
  have QS := Lib.hid qs
  have HH := Lib.hid hH
  clear qs hc0 k1 k2 hH ho2 H1
  go_wp2_with fail
  refine QS.out.mono ?_
  rintro e w3 ⟨rfl, hS⟩
  have hF := hS.holds k3.2 HH.out (by simp [sortM_len])
  obtain ⟨q3, os3, hw3⟩ := hS
  have hb5 : Below w.heap.size w2 w3 := by
    rw [hw3]
    exact below_sortWorld (encF m) w2 blk 0 q3 w.heap.size _ os3 (by have := hb2.size; omega) hb4.size
  have HW3 := Lib.hid hw3
  clear hw3
  go_wp2_with fail
  go_ret2
  refine ⟨some ⟨blk, 0, none⟩, m + 1, ?_, ?_, hb4.trans hb5⟩
  · rw [HLEN.out]; rfl
  · rw [HG.out]
    intro i hi
    have hi2 : i < m + 1 := by simpa [sortM_len] using hi
    have h := (hF i (by simpa [sortM_len] using hi2)).1
    refine ⟨blk, 0, rfl, ?_⟩
    rw [h, getElem!_pos _ i (by simpa [sortM_len] using hi2)]
    rw [List.getD_eq_getElem?_getD, List.getElem?_map, List.getElem?_map, List.getElem?_eq_getElem (by rw [sortM_len]; exact hi2)]
    rfl
end Go.Proofs.YtljlkhaolfihjaaGreatDoor
