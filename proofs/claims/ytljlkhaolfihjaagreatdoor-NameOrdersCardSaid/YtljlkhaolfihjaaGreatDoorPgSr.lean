/- Sort of any list. -/
import Derived.Test.YtljlkhaolfihjaaGreatDoorPzC
import Derived.Test.YtljlkhaolfihjaaGreatDoorPgZ
namespace Go.Proofs.YtljlkhaolfihjaaGreatDoor
open Go.RowKit Go.Shelf

def sortP (ss : List ByteArray) : List Int := if listErr ss = 0 then sortG (ss.map spellOf) else []
def SortAns (ss : List ByteArray) (w : World) (e : Ending) (w' : World) : Prop :=
  ∃ (A : Option Addr) (c : Nat), e = .returned (.tuple #[.slice A (sortP ss).length c, .int .i64 (listErr ss)]) ∧ Cells w' A ((sortP ss).map (Value.int .i64)) ∧ Below w.heap.size w w' ∧ (sortP ss).length ≤ c

set_option maxRecDepth 100000 in
set_option maxHeartbeats 800000 in
theorem insertion_none (d f : Value) (w : World) : Calls Tryz.prog 114 #[d, .int .i64 0, .int .i64 0, f] w fun e w' => e = .returned (.tuple #[]) ∧ w' = w := by
  go_enter Tryz.func114, Tryz.ntmps114
  go_wp2_with fail
  refine wp_loop_rounds 1 ?_
  rw [rounds_succ]
  go_wp2_with fail
  go_end0
  exact ⟨rfl, rfl⟩

set_option maxRecDepth 100000 in
set_option maxHeartbeats 800000 in
theorem stable_none (f : Value) (blk c : Nat) (w : World) :
    Calls Tryz.prog 52 #[.slice (some ⟨blk, 0, none⟩) 0 c, f] w fun e w' => e = .returned (.tuple #[]) ∧ w' = w := by
  have Q := Lib.hid (stableCmp_any 0 (.slice (some ⟨blk, 0, none⟩) 0 c) f (fun w' => w' = w) w (by omega) (by omega) (insertion_none _ _ w))
  go_enter Tryz.func52, Tryz.ntmps52
  go_wp2_with fail
  refine Q.out.mono ?_
  rintro e w' ⟨rfl, rfl⟩
  go_wp2_with fail
  go_end0
  exact ⟨rfl, rfl⟩

def SortPost2 (xs : List Int) (w : World) (e : Ending) (w' : World) : Prop :=
  ∃ (A : Option Addr) (c : Nat), e = .returned (.tuple #[.slice A xs.length c, .int .i64 0]) ∧ Cells w' A (xs.map (Value.int .i64)) ∧ Below w.heap.size w w' ∧ xs.length ≤ c

set_option maxRecDepth 100000 in
set_option maxHeartbeats 1600000 in
theorem Sort_ok2 (A : Option Addr) (m c : Nat) (ss : List ByteArray) (w : World) (hn : ss.length = m + 1) (hb : m ≤ 5) (hv : AllOk ss) (hx : Cells w A (ss.map Value.string)) :
    Calls Tryz.prog 16 #[.slice A (m + 1) c] w (SortPost2 (sortG (ss.map spellOf)) w) := by
  have q := readList_ok A (m + 1) c ss w hn.symm (by omega) hv hx
  have hG := sortG_eq (ss.map spellOf) m (by simpa using hn)
  have hLen : (sortG (ss.map spellOf)).length = m + 1 := by rw [hG, List.length_map, sortM_len]
  have Q := Lib.hid q
  have HN := Lib.hid hn
  have HG := Lib.hid hG
  have HLEN := Lib.hid hLen
  clear q hn hv hx hG hLen
  have m0 : (0 : Int) ≤ (m : Int) := by omega
  have m5 : (m : Int) + 1 ≤ 6 := by omega
  go_enter Tryz.func16, Tryz.ntmps16
  go_wp2_with fail
  refine Q.out.mono ?_
  rintro e w1 ⟨o, rfl, ho, hb1⟩
  rw [HN.out] at ho
  obtain ⟨G, cap, rfl⟩ := own_head ho
  have hb2 := hb1.alloc (o := .cells #[.slice (some ⟨G, 0, none⟩) (m + 1) cap] 76) hb1.size
  have hc0 : (w1.alloc (.cells #[.slice (some ⟨G, 0, none⟩) (m + 1) cap] 76)).cell? ⟨w1.heap.size, 0, none⟩ = some (.slice (some ⟨G, 0, none⟩) (m + 1) cap) := by
    rw [Lib.cell_of_heap (heap_alloc_new w1 _)]; rfl
  have hcl : Cells (w1.alloc (.cells #[.slice (some ⟨G, 0, none⟩) (m + 1) cap] 76)) (some ⟨G, 0, none⟩) (spellCells ss) := cells_own (ho.alloc _)
  have hGl : G < (w1.alloc (.cells #[.slice (some ⟨G, 0, none⟩) (m + 1) cap] 76)).heap.size := by
    have := (ho.lt G rfl).2; simp; omega
  have hBl : w1.heap.size < (w1.alloc (.cells #[.slice (some ⟨G, 0, none⟩) (m + 1) cap] 76)).heap.size := by simp
  have H1 := Lib.hid hcl
  clear ho hcl hb1
  have HC0 := Lib.hid hc0
  clear hc0
  go_wp2_with fail
  have hc0 := HC0.out
  clear HC0
  generalize w1.alloc (.cells #[.slice (some ⟨G, 0, none⟩) (m + 1) cap] 76) = W at *
  generalize w1.heap.size = Bn at *
  refine (upTo_call m _ (by omega)).mono ?_
  rintro e w2 ⟨blk, rfl, ho2, hb3⟩
  have k1 := (hb3.cell (World.block_lt_of_cell? W _ hc0)).trans hc0
  have k2 := H1.out.below hb3
  have k3 := (ho2.lt blk rfl)
  have hH := holds_of_own rfl ho2
  have qs := stable_any ss m Bn G cap blk HN.out (by omega) w2 (by rw [HN.out]; exact k1) k2 (by omega) (by omega) hH k3.2
  have hb4 := hb2.trans (hb3.mono hb2.size)
  have QS := Lib.hid qs
  have HH := Lib.hid hH
  clear qs hc0 k1 k2 hH ho2 H1
  go_wp2_with fail
  refine QS.out.mono ?_
  rintro e w3 ⟨rfl, hS⟩
  have hF := hS.holds k3.2 HH.out (by simp [sortM_len])
  obtain ⟨q3, os3, hw3⟩ := hS
  have hb5 : Below w.heap.size w2 w3 := by
    rw [hw3]
    exact below_sortWorld (encF m) w2 blk 0 q3 w.heap.size _ os3 (by have := hb2.size; omega) hb4.size
  have HW3 := Lib.hid hw3
  clear hw3
  go_wp2_with fail
  go_ret2
  refine ⟨some ⟨blk, 0, none⟩, m + 1, ?_, ?_, hb4.trans hb5, by rw [HLEN.out]; exact Nat.le_refl _⟩
  · rw [HLEN.out]; rfl
  · rw [HG.out]
    intro i hi
    have hi2 : i < m + 1 := by simpa [sortM_len] using hi
    have h := (hF i (by simpa [sortM_len] using hi2)).1
    refine ⟨blk, 0, rfl, ?_⟩
    rw [h, getElem!_pos _ i (by simpa [sortM_len] using hi2)]
    rw [List.getD_eq_getElem?_getD, List.getElem?_map, List.getElem?_map, List.getElem?_eq_getElem (by rw [sortM_len]; exact hi2)]
    rfl
set_option maxRecDepth 100000 in
set_option maxHeartbeats 1600000 in
theorem pSort_any (A : Option Addr) (n c : Nat) (ss : List ByteArray) (w : World) (hL : LaidErr w) (hn : n = ss.length) (hx : Cells w A (ss.map Value.string)) :
    Calls Tryz.prog 16 #[.slice A n c] w (SortAns ss w) := by
  unfold SortAns
  by_cases hle : listErr ss = 0
  · obtain ⟨l6, hok⟩ := list_facts hle
    have e1 : sortP ss = sortG (ss.map spellOf) := by unfold sortP; rw [if_pos hle]
    rw [e1, hle]
    cases n with
    | succ m => exact Sort_ok2 A m c ss w hn.symm (by omega) hok hx
    | zero =>
      have hs : ss = [] := List.eq_nil_of_length_eq_zero hn.symm
      have QR := Lib.hid (readList_ok A 0 c ss w hn (by omega) hok hx)
      unfold SpellsPost at QR
      have QU := Lib.hid (fun W => upTo_any 0 W (by omega))
      unfold UpPost at QU
      subst hs
      clear hn hx hok l6 hle e1 hL
      go_enter Tryz.func16, Tryz.ntmps16
      go_wp2_with fail
      refine QR.out.mono ?_
      rintro e w1 ⟨o, rfl, ho, hb1⟩
      obtain ⟨G, cap, rfl⟩ := own_form ho
      have hb2 := hb1.alloc (o := .cells #[.slice G 0 cap] 76) hb1.size
      have hP := heap_alloc_new w1 (.cells #[.slice G 0 cap] 76)
      obtain ⟨p0, p1⟩ := cells_at hP
      clear ho QR hP
      go_wp2_with fail
      generalize w1.alloc (.cells #[.slice G 0 cap] 76) = W at *
      generalize w1.heap.size = Bn at *
      refine (show Calls Tryz.prog 51 #[.int .i64 0] W _ from QU.out W).mono ?_
      rintro e w2 ⟨blk, rfl, ho2, hb3⟩
      have hb4 := hb2.trans (hb3.mono hb2.size)
      clear ho2 hb2 hb3 QU
      go_wp2_with fail
      refine (stable_none _ blk 0 w2).mono ?_
      rintro e w3 ⟨rfl, rfl⟩
      go_wp2_with fail
      go_ret2
      exact ⟨_, 0, rfl, (fun i hi => absurd hi (by simp [sortG])), hb4, by simp [sortG]⟩
  · have HL := Lib.hid hL
    have qr := readList_err A n c ss w hn hle hx
    unfold ListErrAns at qr
    have QR := Lib.hid qr
    have e1 : sortP ss = [] := by unfold sortP; rw [if_neg hle]
    rw [e1]
    generalize listErr ss = E at *
    have QE := Lib.hid (fun W h => codeOf_err E W h)
    clear hx hL hle hn qr e1
    go_enter Tryz.func16, Tryz.ntmps16
    go_wp2_with fail
    refine QR.out.mono ?_
    rintro e w1 ⟨rfl, hb1⟩
    have hb2 := hb1.alloc (o := .cells #[.slice none 0 0] 76) hb1.size
    go_wp2_with fail
    refine (QE.out _ (HL.out.below hb2)).mono ?_
    rintro e w3 ⟨rfl, hb4⟩
    have hb5 := hb2.trans (hb4.mono hb2.size)
    go_wp2_with fail
    go_ret2
    exact ⟨none, 0, rfl, (fun i hi => absurd hi (by simp)), hb5, by simp⟩
end Go.Proofs.YtljlkhaolfihjaaGreatDoor
