/- Where each letter of a string stands first. -/
import Derived.Test.YtljlkhaolfihjaaGreatDoorPgL
namespace Go.Proofs.YtljlkhaolfihjaaGreatDoor
open Go.RowKit Go.Shelf Go.Sort

section maps
variable {α β : Type} [Inhabited α] [Inhabited β] (f : α → β) (lt : α → α → Bool) (lt' : β → β → Bool)
theorem map_at (hf : f default = default) (d : Array α) (i : Nat) : (d.map f)[i]! = f d[i]! := by
  by_cases h : i < d.size
  · rw [getElem!_pos _ i (by simpa using h), getElem!_pos d i h, Array.getElem_map]
  · rw [getElem!_neg _ i (by simpa using h), getElem!_neg d i h, hf]
theorem swp_map (hf : f default = default) (d : Array α) (i j : Nat) : swp (d.map f) i j = (swp d i j).map f := by
  unfold swp
  rw [map_at f hf, map_at f hf]
  apply Array.ext_getElem?
  intro n
  simp [Array.getElem?_setIfInBounds, Array.getElem?_map]
theorem insInner_map (hf : f default = default) (h : ∀ x y, lt' (f x) (f y) = lt x y) (a : Nat) : ∀ (j : Nat) (d : Array α), insInner lt' a j (d.map f) = (insInner lt a j d).map f
  | 0, _ => rfl
  | j + 1, d => by
    rw [insInner, insInner, map_at f hf, map_at f hf, h]
    split
    · rw [swp_map f hf, insInner_map hf h a j]
    · rfl
theorem insF_map (hf : f default = default) (h : ∀ x y, lt' (f x) (f y) = lt x y) : ∀ (k i : Nat) (d : Array α), insF lt' k i (d.map f) = (insF lt k i d).map f
  | 0, _, _ => rfl
  | k + 1, i, d => by
    show insF lt' k (i + 1) (insInner lt' 0 i (d.map f)) = _
    rw [insInner_map f lt lt' hf h, insF_map hf h k]
    rfl
end maps

theorem idx_mem (l : List UInt8) (c : UInt8) (h : c ∈ l) : Lib.indexByte l c = (l.idxOf c : Int) := by
  induction l with
  | nil => cases h
  | cons b t ih =>
    by_cases e : b = c
    · subst e; simp [Lib.indexByte]
    · have h2 : c ∈ t := by
        rcases List.mem_cons.1 h with e2 | e2
        · exact absurd e2.symm e
        · exact e2
      have h3 := ih h2
      have : ¬ ((t.idxOf c : Int) = -1) := by omega
      have e3 : (b == c) = false := by simpa using e
      simp [Lib.indexByte, e3, h3, this, List.idxOf_cons]

theorem firstsAt_step (l : List UInt8) (j : Nat) : firstsAt l (j + 1) = firstsAt l j ++ (if l.idxOf (l.getD j 0) = j then [j] else []) := by
  unfold firstsAt
  rw [List.range_succ, List.filter_append]
  congr 1
  by_cases h : l.idxOf (l.getD j 0) = j
  · rw [if_pos h]; simp only [List.filter_cons, decide_eq_true h]; rfl
  · rw [if_neg h]; simp only [List.filter_cons, decide_eq_false h]; rfl
theorem firstsAt_lt {l : List UInt8} {n i : Nat} (h : i ∈ firstsAt l n) : i < n := by
  unfold firstsAt at h
  exact List.mem_range.1 (List.mem_filter.1 h).1
theorem firstsAt_len (l : List UInt8) (n : Nat) : (firstsAt l n).length ≤ n := by
  unfold firstsAt
  have := List.length_filter_le (fun i => decide (l.idxOf (l.getD i 0) = i)) (List.range n)
  simpa using this
def FirstsPost (l : List UInt8) (w : World) (e : Ending) (w' : World) : Prop :=
  ∃ (A : Option Addr) (n c : Nat), e = .returned (.slice A n c) ∧ n = (firstsG l).length ∧ Cells w' A ((firstsG l).map fun i : Nat => Value.int .i64 (i : Int)) ∧ Below w.heap.size w w' ∧ ∀ a, A = some a → ∃ c fz, w'.heap[a.block]? = some (.cells c 3 fz)

set_option maxRecDepth 100000 in
set_option maxHeartbeats 1600000 in
theorem ins_nil (f : Value) (w : World) : Calls Tryz.prog 114 #[.slice none 0 0, .int .i64 0, .int .i64 0, f] w fun e w' => e = .returned (.tuple #[]) ∧ w = w' := by
  go_enter Tryz.func114, Tryz.ntmps114
  go_wp2_with fail
  refine wp_loop_rounds 1 ?_
  rw [rounds_succ]
  go_wp2_with fail
  go_end0
  exact ⟨rfl, rfl⟩
set_option maxRecDepth 100000 in
set_option maxHeartbeats 1600000 in
theorem pdq_nil (f : Value) (l : Int) (w : World) : Calls Tryz.prog 145 #[.slice none 0 0, .int .i64 0, .int .i64 0, .int .i64 l, f] w fun e w' => e = .returned (.tuple #[]) ∧ w = w' := by
  have Q := Lib.hid (ins_nil f w)
  go_enter Tryz.func145, Tryz.ntmps145
  go_wp2_with fail
  refine wp_loop_rounds 1 ?_
  rw [rounds_succ]
  go_wp2_with fail
  refine Q.out.mono ?_
  rintro e w' ⟨rfl, rfl⟩
  go_wp2_with fail
  (try simp only [Exit.inBlock, Exit.then])
  refine bodyPost_ret (results_none rfl _ _ _) rfl ?_
  exact ⟨rfl, rfl⟩
theorem len_any (n : Nat) (W : World) (h : n ≤ 12) : Calls Tryz.prog 146 #[.int .u64 n] W fun e w' => (∃ l : Int, e = .returned (.int .i64 l)) ∧ w' = W := by
  refine (Tryz.bits_Len (n : Int) W (by omega) (by omega)).mono ?_
  rintro e w' ⟨h1, h2⟩
  exact ⟨⟨_, h1⟩, h2⟩
set_option maxRecDepth 100000 in
set_option maxHeartbeats 1600000 in
theorem sort_nil (f : Value) (w : World) : Calls Tryz.prog 130 #[.slice none 0 0, f] w fun e w' => e = .returned (.tuple #[]) ∧ w = w' := by
  have Q1 := Lib.hid (len_any 0 w (by omega))
  go_enter Tryz.func130, Tryz.ntmps130
  go_wp2_with fail
  refine Q1.out.mono ?_
  rintro e w' ⟨⟨l, rfl⟩, rfl⟩
  go_wp2_with fail
  refine (pdq_nil f l _).mono ?_
  rintro e w' ⟨rfl, rfl⟩
  go_wp2_with fail
  go_end0
  exact ⟨rfl, rfl⟩


/-! ### The sorting of the places -/
def encN (m : Nat) (i : Fin (m + 1)) : Value := .int .i64 (i.val : Int)
def cfN (l : List UInt8) (m : Nat) (i j : Fin (m + 1)) : Int := ((l.getD i.val 0).toNat : Int) - ((l.getD j.val 0).toNat : Int)
set_option maxRecDepth 100000 in
set_option maxHeartbeats 1600000 in
theorem firstsCmp_any (k : ByteArray) (i j B : Nat) (hi : i < k.size) (hj : j < k.size) (w : World) (hb : w.cell? ⟨B, 0, none⟩ = some (.string k)) :
    Calls Tryz.prog 131 #[.int .i64 i, .int .i64 j, .pointer (some ⟨B, 0, none⟩)] w fun e w' => e = .returned (.int .i64 (((k.data.toList.getD i 0).toNat : Int) - ((k.data.toList.getD j 0).toNat : Int))) ∧ ∃ q, w' = w.drewN q := by
  have i0 : (0 : Int) ≤ (i : Int) := by omega
  have i1 : (i : Int) < (k.size : Int) := by omega
  have j0 : (0 : Int) ≤ (j : Int) := by omega
  have j1 : (j : Int) < (k.size : Int) := by omega
  have ei : k.data.toList.getD i 0 = k[i] := by rw [List.getD_eq_getElem?_getD, List.getElem?_eq_getElem (by simpa using hi)]; rfl
  have ej : k.data.toList.getD j 0 = k[j] := by rw [List.getD_eq_getElem?_getD, List.getElem?_eq_getElem (by simpa using hj)]; rfl
  rw [ei, ej]
  have b1 := UInt8.toNat_lt k[i]
  have b2 := UInt8.toNat_lt k[j]
  clear ei ej
  go_enter Tryz.func131, Tryz.ntmps131
  go_wp2_with fail
  go_quiet (fail)
  go_wp2
  go_ret
  exact ⟨rfl, nq, rfl⟩

theorem firstsReads (k : ByteArray) (m B blk n : Nat) (hm : k.size = m + 1) (w : World) (hb : w.cell? ⟨B, 0, none⟩ = some (.string k)) (h1 : B ≠ blk) :
    CmpReads Tryz.prog 131 #[.pointer (some ⟨B, 0, none⟩)] (encN m) (cfN k.data.toList m) blk 0 n w := by
  intro q os dk _ x y
  exact firstsCmp_any k x.val y.val B (by have := x.isLt; omega) (by have := y.isLt; omega) _ ((cell?_sortWorld_other (encN m) w blk 0 q dk os ⟨B, 0, none⟩ h1 (World.block_lt_of_cell? w _ hb)).trans hb)

theorem sortFirsts_any (k : ByteArray) (m B G cap : Nat) (L : List (Fin (m + 1))) (hm : k.size = m + 1) (w : World) (hL : L.length ≤ 12) (hb : w.cell? ⟨B, 0, none⟩ = some (.string k)) (h1 : B ≠ G) (hH : Holds (encN m) w G 0 L.toArray) :
    Calls Tryz.prog 130 #[.slice (some ⟨G, 0, none⟩) L.length cap, .func (.func 131) #[] #[.pointer (some ⟨B, 0, none⟩)]] w
      fun e w' => e = .returned (.tuple #[]) ∧ ∃ n, w' = (putRow (encN m) w G 0 (Sort.insertionSort (ltOf (cfN k.data.toList m)) L.toArray 0 L.length)).drewN n := by
  have q := Any.slices_SortFunc_small Tryz.sortFuncInt (encN m) (fun _ => rfl) (cfN k.data.toList m) 131 #[.pointer (some ⟨B, 0, none⟩)] G 0 cap L.toArray w
    (enters_of Tryz.func131 (by kernel_rfl) rfl) (firstsReads k m B G _ hm w hb h1) hH (by simpa using hL) (fun n W hn => len_any n W hn)
  rw [List.size_toArray] at q
  exact q

/-- The places in their order, over the places that there are. -/
theorem sort_vals (l : List UInt8) (m : Nat) (L : List (Fin (m + 1))) (hL : L.map (·.val) = firstsAt l l.length) : (Sort.insertionSort (ltOf (cfN l m)) L.toArray 0 L.length).toList.map (·.val) = firstsG l := by
  unfold Sort.insertionSort firstsG sortNat
  rw [outer_F _ L.length (L.length - 1) 1 _ (by omega), ← hL, List.length_map]
  have h := insF_map (fun i : Fin (m + 1) => i.val) (ltOf (cfN l m)) (ltAt l) rfl (fun x y => rfl) (L.length - 1) 1 L.toArray
  rw [List.map_toArray] at h
  rw [h, Array.toList_map]

def toFinM (m i : Nat) : Fin (m + 1) := if h : i < m + 1 then ⟨i, h⟩ else 0
theorem toFin_vals (m : Nat) (L : List Nat) (h : ∀ i, i ∈ L → i < m + 1) : (L.map (toFinM m)).map (·.val) = L := by
  induction L with
  | nil => rfl
  | cons a t ih =>
    have h1 := h a (by simp)
    rw [List.map_cons, List.map_cons, ih (fun i hi => h i (by simp [hi]))]
    congr 1
    unfold toFinM
    rw [dif_pos h1]

theorem insInner_size {α : Type} [Inhabited α] (lt : α → α → Bool) (a : Nat) : ∀ (j : Nat) (d : Array α), (insInner lt a j d).size = d.size
  | 0, _ => rfl
  | j + 1, d => by
    rw [insInner]
    split
    · rw [insInner_size lt a j]; unfold swp; simp
    · rfl
theorem insF_size2 {α : Type} [Inhabited α] (lt : α → α → Bool) : ∀ (k i : Nat) (d : Array α), (insF lt k i d).size = d.size
  | 0, _, _ => rfl
  | k + 1, i, d => by show (insF lt k (i + 1) (insInner lt 0 i d)).size = _; rw [insF_size2 lt k, insInner_size]
theorem insSize {α : Type} [Inhabited α] (lt : α → α → Bool) (d : Array α) (b : Nat) : (Sort.insertionSort lt d 0 b).size = d.size := by
  unfold Sort.insertionSort
  rw [outer_F _ b (b - 1) 1 _ (by omega), insF_size2]

theorem putRow_type {α : Type} [Inhabited α] (enc : α → Value) (w : World) (blk off : Nat) (d : Array α) (n : Nat) {c : Array Value} {t : TypeId} {fz : Nat × Nat} (h : w.heap[blk]? = some (.cells c t fz)) : ((putRow enc w blk off d).drewN n).heap[blk]? = some (.cells (putCells enc off d c) t fz) := by
  show (w.heap.modify blk (onCells _))[blk]? = _
  rw [Array.getElem?_modify, if_pos rfl, h]
  rfl
theorem firstsG_lt {l : List UInt8} {i : Nat} (h : i ∈ firstsG l) : i < l.length := by
  cases l with
  | nil => cases h
  | cons x t =>
    have hmem : ∀ i, i ∈ firstsAt (x :: t) (x :: t).length → i < t.length + 1 := fun i h => by have := firstsAt_lt h; simpa using this
    have hv := toFin_vals t.length _ hmem
    have hsv := sort_vals (x :: t) t.length _ hv
    rw [← hsv] at h
    obtain ⟨y, _, hy⟩ := List.mem_map.1 h
    have := y.isLt
    simp
    omega

set_option maxRecDepth 100000 in
set_option maxHeartbeats 3200000 in
theorem firsts_any (k : ByteArray) (w : World) (hk : k.size ≤ 12) : Calls Tryz.prog 105 #[.string k] w (FirstsPost k.data.toList w) := by
  obtain ⟨si, hi, hz0, hz1, hz2⟩ := info_parts infoInt
  have HS := Lib.hid (size_list k)
  have hb0 : Below w.heap.size w (w.alloc (.cells #[.string k] 82)) := (Below.refl _ _).alloc (Nat.le_refl _) _
  have hw0 : (w.alloc (.cells #[.string k] 82)).heap.size = w.heap.size + 1 := by simp
  have hc0 : (w.alloc (.cells #[.string k] 82)).cell? ⟨w.heap.size, 0, none⟩ = some (.string k) := cell_one_new _ _ _ 0 _ rfl
  go_enter Tryz.func105, Tryz.ntmps105
  go_wp2_with fail
  generalize w.alloc (.cells #[.string k] 82) = W0 at *
  have HC0 := Lib.hid hc0
  clear hc0
  go_loopw [3, 7] (fun s3 s7 wr => ∃ j : Nat, j ≤ k.size ∧ s7 = .int .i64 j ∧ wr.ownsRow W0.heap.size 3 1 s3 (firstsAt k.data.toList j).length ((firstsAt k.data.toList j).map fun i : Nat => Value.int .i64 (i : Int)) ∧ Below W0.heap.size W0 wr ∧ (j = 0 → s3 = .slice none 0 0)) (fun _ s7 _ => k.size - (intOf s7).toNat)
  case atStart => exact ⟨0, Nat.zero_le _, rfl, World.ownsRow_nil _ _ _ _, Below.refl _ _, fun _ => rfl⟩
  case round =>
    obtain ⟨j, hj, rfl, hown, hb, hnil⟩ := hrel
    have hcr := (hb.cell (p := ⟨w.heap.size, 0, none⟩) (by show w.heap.size < _; omega)).trans HC0.out
    obtain ⟨O, cap, rfl⟩ := own_form hown
    by_cases hlt : j < k.size
    · have j0 : (0 : Int) ≤ (j : Int) := by omega
      have j1 : (j : Int) < (k.size : Int) := by omega
      have ej : k.data.toList.getD j 0 = k[j] := by rw [List.getD_eq_getElem?_getD, List.getElem?_eq_getElem (by simpa using hlt)]; rfl
      have hst := firstsAt_step k.data.toList j
      rw [ej] at hst
      have hix := idx_mem k.data.toList k[j] (Array.getElem_mem_toList _)
      have q := fun W => Tryz.strings_IndexByte k (k[j].toNat : Int) W
      rw [show (k[j].toNat : Int).toNat.toUInt8 = k[j] by simp, hix] at q
      have hln := firstsAt_len k.data.toList j
      have hs1 := hb.size
      by_cases hh : k.data.toList.idxOf k[j] = j
      · rw [if_pos hh] at hst
        rw [hh] at q
        have HST := Lib.hid hst
        have Q := Lib.hid q
        clear hst q hix ej hh
        go_wp2_with fail
        go_quiet ((go_at_call 126; refine Calls.quiet_of (v := .int .i64 (j : Int)) ?_; exact (Q.out _).mono fun _ _ h => ⟨h.1, 0, h.2⟩))
        have hownD : (wr.drewN nq).ownsRow W0.heap.size 3 1 (.slice O (firstsAt k.data.toList j).length cap) (firstsAt k.data.toList j).length ((firstsAt k.data.toList j).map fun i : Nat => Value.int .i64 (i : Int)) := hown
        have hbD : Below W0.heap.size W0 (wr.drewN nq) := ⟨hb.os, hb.tape, hb.output, hb.size, hb.block⟩
        have hs2 := hbD.size
        generalize wr.drewN nq = wd at *
        clear hown hb hcr
        go_wp2_with (at_builtin; refine wpList_append_own _ rfl _ _ 23 rfl W0.heap.size 3 si (.int .i64 0) 1 8 Tryz.underlying23 hi hz0 hz1 hz2 rfl (by decide) _ _ _ rfl (hownD.alloc _) ⟨wd.heap.size, 0, none⟩ 1 1 [.int .i64 j] rfl rfl (cell_one_new _ _ _) (by simp [Value.oneCell']) (by unfold maxLen; omega) (by omega) (by simp; omega) ?_; intro v' wn hownN hgN _)
        have hbN := (hbD.alloc hs2 (.cells #[.int .i64 j] 3)).grown hgN (by simp; omega) (fun j hj => (hownD.lt j hj).1)
        go_wp2
        go_roundw
        case rel => exact ⟨j + 1, by omega, by go_num, by rw [HST.out, List.length_append, List.map_append]; exact hownN, hbN, fun h => by omega⟩
        case measure => simp [intOf]; omega
      · rw [if_neg hh] at hst
        have hne : ((k.data.toList.idxOf k[j] : Int) == (j : Int)) = false := by rw [beq_eq_false_iff_ne]; omega
        generalize k.data.toList.idxOf k[j] = I at *
        have HST := Lib.hid hst
        have Q := Lib.hid q
        clear hst q hix ej
        go_wp2_with fail
        go_quiet ((go_at_call 126; refine Calls.quiet_of (v := .int .i64 (I : Int)) ?_; exact (Q.out _).mono fun _ _ h => ⟨h.1, 0, h.2⟩))
        have hownD : (wr.drewN nq).ownsRow W0.heap.size 3 1 (.slice O (firstsAt k.data.toList j).length cap) (firstsAt k.data.toList j).length ((firstsAt k.data.toList j).map fun i : Nat => Value.int .i64 (i : Int)) := hown
        have hbD : Below W0.heap.size W0 (wr.drewN nq) := ⟨hb.os, hb.tape, hb.output, hb.size, hb.block⟩
        generalize wr.drewN nq = wd at *
        clear hown hb hcr
        go_wp2
        go_roundw
        case rel => exact ⟨j + 1, by omega, by go_num, by rw [HST.out, List.append_nil]; exact hownD, hbD, fun h => by omega⟩
        case measure => simp [intOf]; omega
    · have hjk : j = k.size := by omega
      subst hjk
      by_cases hz : k.size = 0
      · have hnl := hnil hz
        have e : firstsG k.data.toList = [] := by
          have : k.data.toList = [] := List.length_eq_zero_iff.1 (by rw [HS.out]; exact hz)
          rw [this]; rfl
        have E := Lib.hid e
        rw [hnl]
        clear e hnil hown hcr
        go_wp2_with fail
        refine (sort_nil _ _).mono ?_
        rintro e w' ⟨rfl, rfl⟩
        go_wp2_with fail
        go_ret
        exact ⟨none, 0, 0, rfl, by rw [E.out]; rfl, by rw [E.out]; exact fun i hi => absurd hi (by simp), hb0.trans (hb.mono (by omega)), fun a h => by cases h⟩
      · obtain ⟨m, hm⟩ : ∃ m, k.size = m + 1 := ⟨k.size - 1, by omega⟩
        have hmem : ∀ i, i ∈ firstsAt k.data.toList k.size → i < m + 1 := fun i h => by have := firstsAt_lt h; omega
        have hv := toFin_vals m _ hmem
        have hsv := sort_vals k.data.toList m _ (by rw [hv, HS.out])
        have hlen : (firstsAt k.data.toList k.size).length ≤ 12 := by have := firstsAt_len k.data.toList k.size; omega
        have hpos : ∃ p, (firstsAt k.data.toList k.size).length = p + 1 := by
          have h0 : 0 ∈ firstsAt k.data.toList k.size := by
            unfold firstsAt
            refine List.mem_filter.2 ⟨List.mem_range.2 (by omega), ?_⟩
            cases hl : k.data.toList with
            | nil => have := HS.out; rw [hl] at this; simp at this; omega
            | cons x t => simp
          have := List.length_pos_of_mem h0
          exact ⟨(firstsAt k.data.toList k.size).length - 1, by omega⟩
        obtain ⟨p, hp⟩ := hpos
        generalize hL : (firstsAt k.data.toList k.size).map (toFinM m) = L at *
        have hLl : L.length = p + 1 := by rw [← hL, List.length_map]; exact hp
        rw [hp, ← hv, List.map_map] at hown
        obtain ⟨G, cp, he⟩ := own_head hown
        cases he
        have hG := hown.lt G rfl
        have hH : Holds (encN m) wr G 0 L.toArray := fun j hj => by
          have hj1 : j < L.length := by simpa using hj
          refine ⟨?_, by rw [Nat.zero_add]; exact hown.frozenAt j⟩
          rw [Nat.zero_add, hown.cellAt j (by omega), List.getElem?_map, List.getElem?_eq_getElem hj1, getElem!_pos _ j hj]
          rfl
        have q := sortFirsts_any k m w.heap.size G cap L hm wr (by omega) hcr (by omega) hH
        rw [hLl] at q hsv
        obtain ⟨cg, hgc⟩ := own_block hown G rfl
        have hS0 := insSize (ltOf (cfN k.data.toList m)) L.toArray (p + 1)
        generalize Sort.insertionSort (ltOf (cfN k.data.toList m)) L.toArray 0 (p + 1) = S at *
        have Q := Lib.hid q
        have HH := Lib.hid hH
        have HSV := Lib.hid hsv
        clear q hH hsv hown hcr hnil hv hmem hL
        rw [hp]
        go_wp2_with fail
        refine Q.out.mono ?_
        rintro e w' ⟨rfl, n, hw'⟩
        have hSW : SW (encN m) wr G 0 S w' := ⟨n, #[], by rw [hw', sortWorld_none]⟩
        have hF := hSW.holds hG.2 HH.out (by rw [hS0])
        have hb5 : Below w.heap.size wr w' := by
          obtain ⟨q3, os3, hw3⟩ := hSW
          rw [hw3]
          exact below_sortWorld (encN m) wr G 0 q3 w.heap.size _ os3 (by omega) (by have := hb.size; omega)
        have hTy : ∃ c fz, w'.heap[G]? = some (.cells c 3 fz) := by
          rw [hw']
          exact ⟨_, _, putRow_type _ _ _ _ _ _ hgc⟩
        have hb6 := (hb0.trans (hb.mono (by omega))).trans hb5
        clear hSW hw'
        go_wp2_with fail
        go_ret
        refine ⟨some ⟨G, 0, none⟩, p + 1, cap, rfl, ?_, ?_, hb6, fun a h => ?_⟩
        · rw [← HSV.out, List.length_map, Array.length_toList, hS0, List.size_toArray, hLl]
        · rw [← HSV.out]
          intro i hi
          have hi2 : i < S.size := by simpa using hi
          have h := (hF i hi2).1
          refine ⟨G, 0, rfl, ?_⟩
          rw [h, getElem!_pos _ i hi2, List.getD_eq_getElem?_getD, List.getElem?_map, List.getElem?_map, List.getElem?_eq_getElem (by simpa using hi2)]
          simp [encN]
        · injection h with h
          subst h
          exact hTy
end Go.Proofs.YtljlkhaolfihjaaGreatDoor
