/- Which names of a list are near. -/
import Derived.Test.YtljlkhaolfihjaaGreatDoorPgX
import Derived.Test.YtljlkhaolfihjaaGreatDoorPgM
import Derived.Test.YtljlkhaolfihjaaGreatDoorSpecM
namespace Go.Proofs.YtljlkhaolfihjaaGreatDoor
open Go.RowKit Go.Shelf Go.Lib Go.Sort

theorem Cells.laid {w : World} {A : Option Addr} {xs : List Value} (h : Cells w A xs) (o : Obj) : Cells (w.alloc o) A xs := h.below ((Below.refl _ _).alloc (Nat.le_refl _) _)

/-! ### The comparison of two places by their uses -/

theorem row_at {w : World} {G : Nat} {xs : List Int} (h : Cells w (some ⟨G, 0, none⟩) (xs.map (Value.int .i64))) (k : Nat) (hk : k < xs.length) : w.cell? ⟨G, k, none⟩ = some (.int .i64 (xs.getD k 0)) := by
  obtain ⟨b, off, e, hc⟩ := h k (by simpa using hk)
  injection e with e
  injection e with e1 e2 _
  subst e1 e2
  rw [Nat.zero_add] at hc
  rw [hc, List.getD_eq_getElem?_getD, List.getD_eq_getElem?_getD, List.getElem?_map, List.getElem?_eq_getElem hk]
  rfl

set_option maxRecDepth 100000 in
set_option maxHeartbeats 1600000 in
theorem nearCmp_any (us : List Int) (i j Bn G n c : Nat) (hn : n = us.length) (hi : i < us.length) (hj : j < us.length) (w : World) (hb : w.cell? ⟨Bn, 0, none⟩ = some (.slice (some ⟨G, 0, none⟩) n c)) (hx : Cells w (some ⟨G, 0, none⟩) (us.map (Value.int .i64))) :
    Calls Tryz.prog 68 #[.int .i64 i, .int .i64 j, .pointer (some ⟨Bn, 0, none⟩)] w fun e w' => e = .returned (.int .i64 (Lib.compareInt (us.getD i 0) (us.getD j 0))) ∧ ∃ q, w' = w.drewN q := by
  have c1 := row_at hx i hi
  have c2 := row_at hx j hj
  have i0 : (0 : Int) ≤ (i : Int) := by omega
  have i1 : (i : Int) < (n : Int) := by omega
  have j0 : (0 : Int) ≤ (j : Int) := by omega
  have j1 : (j : Int) < (n : Int) := by omega
  generalize us.getD i 0 = x at *
  generalize us.getD j 0 = y at *
  clear hx hn hi hj
  go_enter Tryz.func68, Tryz.ntmps68
  go_wp2_with fail
  go_quiet ((go_at_call 69; refine Calls.quiet_of (v := .int .i64 (Lib.compareInt x y)) ?_; exact (Tryz.cmp_Compare_int x y _).mono fun _ _ h => ⟨h.1, 0, h.2⟩))
  go_wp2
  go_ret
  exact ⟨rfl, nq, rfl⟩

def cfU (us : List Int) (m : Nat) (i j : Fin (m + 1)) : Int := Lib.compareInt (us.getD i.val 0) (us.getD j.val 0)
theorem nearLays (us : List Int) (m Bn G c blk p : Nat) (hm : us.length = m + 1) (w : World) (hb : w.cell? ⟨Bn, 0, none⟩ = some (.slice (some ⟨G, 0, none⟩) (m + 1) c)) (hx : Cells w (some ⟨G, 0, none⟩) (us.map (Value.int .i64))) (h1 : Bn ≠ blk) (h2 : G ≠ blk) :
    CmpLays1 Tryz.prog 68 #[.pointer (some ⟨Bn, 0, none⟩)] (encF m) (cfU us m) blk 0 p w := by
  intro k os dk _ x y
  have q := nearCmp_any us x.val y.val Bn G (m + 1) c hm.symm (by rw [hm]; exact x.isLt) (by rw [hm]; exact y.isLt) (sortWorld (encF m) w blk 0 k dk os)
    ((cell?_sortWorld_other (encF m) w blk 0 k dk os ⟨Bn, 0, none⟩ h1 (World.block_lt_of_cell? w _ hb)).trans hb)
    (fun i hi => by
      obtain ⟨b, off, e, hc⟩ := hx i hi
      have e2 := e
      injection e2 with e2
      injection e2 with e2 e3 _
      subst e2 e3
      exact ⟨_, _, rfl, (cell?_sortWorld_other (encF m) w blk 0 k dk os _ h2 (World.block_lt_of_cell? w _ hc)).trans hc⟩)
  refine q.mono fun e w' h => ⟨h.1, ?_⟩
  obtain ⟨a, hw⟩ := h.2
  exact ⟨a, #[], by rw [grow_empty]; exact hw⟩

set_option maxRecDepth 100000 in
set_option maxHeartbeats 1600000 in
theorem nearSort_any (us : List Int) (m Bn G c blk cap : Nat) (L : List (Fin (m + 1))) (hm : us.length = m + 1) (hL : L.length ≤ 19) (w : World) (hb : w.cell? ⟨Bn, 0, none⟩ = some (.slice (some ⟨G, 0, none⟩) (m + 1) c)) (hx : Cells w (some ⟨G, 0, none⟩) (us.map (Value.int .i64))) (h1 : Bn ≠ blk) (h2 : G ≠ blk)
    (hH : Holds (encF m) w blk 0 L.toArray) (hblk : blk < w.heap.size) :
    Calls Tryz.prog 52 #[.slice (some ⟨blk, 0, none⟩) L.length cap, .func (.func 68) #[] #[.pointer (some ⟨Bn, 0, none⟩)]] w
      fun e w' => e = .returned (.tuple #[]) ∧ SW (encF m) w blk 0 (Sort.insertionSort (ltOf (cfU us m)) L.toArray 0 L.length) w' := by
  have eg : ∀ args w, (callFunc 68 args).run Tryz.prog w = .ok (.enter 68 args) w := enters_of Tryz.func68 (by kernel_rfl) rfl
  have hC := nearLays us m Bn G c blk L.toArray.size hm w hb hx h1 h2
  have R : Row1 (encF m) w blk 0 L.toArray := ⟨fun _ => rfl, hH, hblk⟩
  have sz : L.toArray.size = L.length := by simp
  have q := Any.insertionSortCmpFunc_s Tryz.insInt (encF m) (cfU us m) 68 #[.pointer (some ⟨Bn, 0, none⟩)] blk 0 cap 0 L.length L.toArray L.toArray w w eg hC R rfl (SW.start hH) (by omega) (by rw [sz]; exact Nat.le_refl _) (by rw [sz]; omega)
  rw [sz] at q
  change Calls Tryz.prog 114 _ _ _ at q
  generalize hS : Sort.insertionSort (ltOf (cfU us m)) L.toArray 0 L.length = S at *
  have q2 : Calls Tryz.prog 114 #[.slice (some ⟨blk, 0, none⟩) L.length cap, .int .i64 0, .int .i64 (L.length : Nat), .func (.func 68) #[] #[.pointer (some ⟨Bn, 0, none⟩)]] w fun e w' => e = .returned (.tuple #[]) ∧ SW (encF m) w blk 0 S w' := q
  have Q := Lib.hid q2
  clear q q2 hC R sz hS hH hx hb eg
  generalize L.length = p at *
  have m1 : (0 : Int) ≤ (p : Int) := by omega
  have m2 : (p : Int) ≤ 19 := by omega
  go_enter Tryz.func52, Tryz.ntmps52
  go_wp2_with fail
  refine (stableCmp_any (p : Int) _ _ _ _ (by omega) (by omega) Q.out).mono ?_
  rintro e w' ⟨rfl, hS⟩
  go_wp2_with fail
  go_end0
  exact ⟨rfl, hS⟩
set_option maxRecDepth 100000 in
set_option maxHeartbeats 1600000 in
theorem nearSort_nil (f : Value) (w : World) :
    Calls Tryz.prog 52 #[.slice none 0 0, f] w fun e w' => e = .returned (.tuple #[]) ∧ w = w' := by
  have Q := Lib.hid (ins_nil f w)
  go_enter Tryz.func52, Tryz.ntmps52
  go_wp2_with fail
  refine (stableCmp_any 0 _ _ (fun w' => w = w') _ (by omega) (by omega) Q.out).mono ?_
  rintro e w' ⟨rfl, hS⟩
  go_wp2_with fail
  go_end0
  exact ⟨rfl, hS⟩

/-- The places in the order of their uses, over the places that there are. -/
theorem near_vals (uu : List (Option Nat)) (us : List Int) (m : Nat) (L : List (Fin (m + 1))) (hu : ∀ i, us.getD i 0 = ((uOf uu i : Nat) : Int)) (hL : L.map (·.val) = nearAt uu uu.length) :
    (Sort.insertionSort (ltOf (cfU us m)) L.toArray 0 L.length).toList.map (·.val) = nearS uu := by
  unfold Sort.insertionSort nearS sortNat
  rw [outer_F _ L.length (L.length - 1) 1 _ (by omega), ← hL, List.length_map]
  have h := insF_map (fun i : Fin (m + 1) => i.val) (ltOf (cfU us m)) (ltU uu) rfl (fun x y => by
    show decide (uOf uu x.val < uOf uu y.val) = decide (Lib.compareInt (us.getD x.val 0) (us.getD y.val 0) < 0)
    rw [hu, hu]
    unfold Lib.compareInt
    by_cases h1 : uOf uu x.val < uOf uu y.val
    · simp [h1]
    · by_cases h2 : uOf uu y.val < uOf uu x.val
      · simp [h1, h2]
      · simp [h1, h2]) (L.length - 1) 1 L.toArray
  rw [List.map_toArray] at h
  rw [h, Array.toList_map]

def usI (uu : List (Option Nat)) : List Int := uu.map fun u => ((u.getD 0 : Nat) : Int)
theorem usI_get (uu : List (Option Nat)) (i : Nat) : (usI uu).getD i 0 = ((uOf uu i : Nat) : Int) := by
  unfold usI uOf
  rw [List.getD_eq_getElem?_getD, List.getElem?_map, List.getD_eq_getElem?_getD]
  cases uu[i]? <;> rfl
theorem grownSet (w : World) (B j : Nat) (v : Value) : w.grownBy (w.setCell ⟨B, j, none⟩ v) (some B) :=
  ⟨rfl, rfl, rfl, by simp [World.setCell], fun k _ hk => Below.heap_setCell _ _ _ _ (fun e => hk (by simp [e]))⟩
def rowU (us : List Int) (n j : Nat) : List Int := (List.range n).map fun i => if i < j then us.getD i 0 else 0
theorem rowU_len (us : List Int) (n j : Nat) : (rowU us n j).length = n := by simp [rowU]
theorem rowU_zero (us : List Int) (n : Nat) : rowU us n 0 = List.replicate n 0 := by
  refine List.ext_getElem (by simp [rowU]) fun i h1 h2 => ?_
  simp [rowU]
theorem rowU_all (us : List Int) : rowU us us.length us.length = us := by
  refine List.ext_getElem (by simp [rowU]) fun i h1 h2 => ?_
  simp [rowU, h2]
theorem rowU_set (us : List Int) (n j : Nat) : (rowU us n j).set j (us.getD j 0) = rowU us n (j + 1) := by
  refine List.ext_getElem (by simp [rowU]) fun i h1 h2 => ?_
  rw [List.getElem_set]
  simp only [rowU, List.getElem_map, List.getElem_range]
  by_cases h3 : j = i
  · subst h3; simp
  · rw [if_neg h3]
    by_cases h4 : i < j
    · rw [if_pos h4, if_pos (by omega)]
    · rw [if_neg h4, if_neg (by omega)]
theorem nearAt_step (uu : List (Option Nat)) (j : Nat) : nearAt uu (j + 1) = nearAt uu j ++ (if (uu.getD j none).isSome then [j] else []) := by
  unfold nearAt
  rw [List.range_succ, List.filter_append]
  congr 1
  by_cases h : (uu.getD j none).isSome = true
  · rw [if_pos h]; simp only [List.filter_cons, h]; rfl
  · rw [if_neg h]; simp only [List.filter_cons, h]; rfl
theorem nearAt_lt {uu : List (Option Nat)} {n i : Nat} (h : i ∈ nearAt uu n) : i < n := by
  unfold nearAt at h
  exact List.mem_range.1 (List.mem_filter.1 h).1
theorem nearAt_len (uu : List (Option Nat)) (n : Nat) : (nearAt uu n).length ≤ n := by
  unfold nearAt
  have := List.length_filter_le (fun i => (uu.getD i none).isSome) (List.range n)
  simpa using this

theorem nearCell {w : World} {UB n k : Nat} {uu : List (Option Nat)} (h : w.ownsRow UB 3 1 (.slice (some ⟨UB, 0, none⟩) n n) n ((rowU (usI uu) n k).map (Value.int .i64))) (hk : k < n) :
    w.cell? ⟨UB, k, none⟩ = some (.int .i64 ((rowU (usI uu) n k)[k]'(by rw [rowU_len]; exact hk))) ∧ w.frozen? ⟨UB, k, none⟩ = false := by
  refine ⟨?_, h.frozenAt k⟩
  rw [h.cellAt k (by rw [Nat.mul_one]; exact hk), List.getElem?_map, List.getElem?_eq_getElem (by rw [rowU_len]; exact hk)]; rfl
theorem nearStep {w wn : World} {M UB Bn n k : Nat} {uu : List (Option Nat)} {nv : Value} {o : Obj} (hoN : ∀ g, nv.ownBlock = some g → M ≤ g)
    (hu : w.ownsRow UB 3 1 (.slice (some ⟨UB, 0, none⟩) n n) n ((rowU (usI uu) n k).map (Value.int .i64))) (hbn : w.heap[Bn]? = some (.cells #[.slice (some ⟨UB, 0, none⟩) n n] 23 (0, 0))) (hM : M ≤ w.heap.size) (h1 : UB < M) (h2 : Bn < M)
    (hg : (w.alloc o).grownBy wn nv.ownBlock) :
    Below M w wn ∧ wn.ownsRow UB 3 1 (.slice (some ⟨UB, 0, none⟩) n n) n ((rowU (usI uu) n k).map (Value.int .i64)) ∧ wn.heap[Bn]? = some (.cells #[.slice (some ⟨UB, 0, none⟩) n n] 23 (0, 0)) := by
  have hstep : Below M w wn := ((Below.refl M w).alloc hM o).grown hg (by simp; omega) hoN
  exact ⟨hstep, (hu.alloc o).kept hg (.inr fun he => by have h1 := hoN UB he.symm; omega), (hstep.block Bn h2).trans hbn⟩

set_option maxRecDepth 100000 in
set_option maxHeartbeats 6400000 in
theorem Near_ok (A : Option Addr) (nn c : Nat) (rs : List (ByteArray × ByteArray)) (s : ByteArray) (B : Option Addr) (n d : Nat) (ss : List ByteArray) (w : World) (hn : nn = rs.length) (hf : RulesOk rs) (hs : Sp.check s.data.toList = 0) (hx : Cells w A (ruleCells rs)) (hm : n = ss.length) (hb : n ≤ 6) (hv : AllOk ss) (hy : Cells w B (ss.map Value.string)) :
    Calls Tryz.prog 29 #[.slice A nn c, .string s, .slice B n d] w (SortPost ((nearS (ss.map fun x => usesG rs (keyS s) (keyS x))).map fun i : Nat => (i : Int)) w) := by
  obtain ⟨si, hi, hz0, hz1, hz2⟩ := info_parts infoInt
  have Q1 := Lib.hid (fun W h => checkRules_ok A nn c rs W hn hf h)
  have q2 := (fun W => read_ok s W hs)
  unfold ReadOk at q2
  have Q2 := Lib.hid q2
  have Q3 := Lib.hid (fun W h => readList_ok B n d ss W hm hb hv h)
  have q4 := (fun W h => pathTo_any A nn c rs (keyS s) W (keyS_key12 hs).2 hf.short hn (by rw [hn]; have := hf.1; omega) h)
  unfold PathPost at q4
  have Q4 := Lib.hid q4
  have Q5 := Lib.hid (fun B m D k W (hk : k.size ≤ 12) h1 h2 h3 => pathUses_any A nn c B m rs (keyS s) k D W hk hf.short hn (by rw [hn]; have := hf.1; omega) h1 h2 h3)
  have HX := Lib.hid hx
  have HY := Lib.hid hy
  have HV := Lib.hid hv
  have HM := Lib.hid hm
  obtain ⟨uu, huu⟩ : ∃ uu, (ss.map fun x => usesG rs (keyS s) (keyS x)) = uu := ⟨_, rfl⟩
  rw [huu]
  have hul : uu.length = n := by rw [← huu, List.length_map, hm]
  have HUL := Lib.hid hul
  have HU : Hid (∀ k (hk : k < ss.length), usesG rs (keyS s) (keyS ss[k]) = uu.getD k none) := Lib.hid fun k hk => by
    rw [← huu, List.getD_eq_getElem?_getD, List.getElem?_map, List.getElem?_eq_getElem hk]; rfl
  clear hn hf hs hx hm hv hy q2 q4 huu hul
  unfold SpellsPost at Q3
  unfold SortPost
  go_enter Tryz.func29, Tryz.ntmps29
  go_wp2_with fail
  refine (Q1.out _ HX.out).mono ?_
  rintro e w1 ⟨rfl, hb1⟩
  have X1 := Lib.hid (HX.out.below hb1)
  have Y1 := Lib.hid (HY.out.below hb1)
  clear Q1 HX HY
  go_wp2_with fail
  refine (Q2.out _).mono ?_
  rintro e w2 ⟨rfl, hb2⟩
  have hb3 := hb1.trans (hb2.mono hb1.size)
  have X2 := Lib.hid (X1.out.below hb2)
  have Y2 := Lib.hid (Y1.out.below hb2)
  clear Q2 X1 Y1 hb1 hb2
  go_wp2_with fail
  have hb4 := hb3.alloc (o := .cells #[.string (keyS s), .int .i64 (alphaN s.data.toList)] 84) hb3.size
  have hY3 := Lib.hid (Y2.out.laid (.cells #[.string (keyS s), .int .i64 (alphaN s.data.toList)] 84))
  have hX3 := Lib.hid (X2.out.laid (.cells #[.string (keyS s), .int .i64 (alphaN s.data.toList)] 84))
  have hr := heap_alloc_new w2 (.cells #[.string (keyS s), .int .i64 (alphaN s.data.toList)] 84)
  obtain ⟨c0, c1, _, _⟩ := block2_cells hr
  have hsz3 : (w2.alloc (.cells #[.string (keyS s), .int .i64 (alphaN s.data.toList)] 84)).heap.size = w2.heap.size + 1 := by simp
  generalize w2.alloc (.cells #[.string (keyS s), .int .i64 (alphaN s.data.toList)] 84) = W2 at *
  generalize w2.heap.size = BS at *
  generalize alphaN s.data.toList = AN at *
  generalize keyS s = KS at *
  clear X2 Y2 hr hb3 c1
  refine (Q3.out _ hY3.out).mono ?_
  rintro e w3 ⟨o, rfl, ho, hb5⟩
  rw [← HM.out] at ho
  obtain ⟨SA, cs, rfl⟩ := own_form ho
  have hb6 := hb4.trans (hb5.mono hb4.size)
  have X3 := Lib.hid (hX3.out.below hb5)
  have d0 := (hb5.cell (World.block_lt_of_cell? _ _ c0)).trans c0
  have CS := Lib.hid (cells_own ho)
  clear Q3 hY3 hX3 c0 hb4 hb5 ho
  go_wp2_with fail
  refine (Q4.out _ X3.out).mono ?_
  rintro e w4 ⟨MB, mm, DM, rfl, hO, hMp, hMB, hb7⟩
  have hb8 := hb6.trans (hb7.mono hb6.size)
  have X4 := Lib.hid (X3.out.below hb7)
  have CS4 := Lib.hid (CS.out.below hb7)
  have HO := Lib.hid (hO.alloc (.cells #[.slice A nn c, .map (some MB)] 108))
  have HMP := Lib.hid hMp
  have X5 := Lib.hid (X4.out.laid (.cells #[.slice A nn c, .map (some MB)] 108))
  have CS5 := Lib.hid (CS4.out.laid (.cells #[.slice A nn c, .map (some MB)] 108))
  have hb9 := hb8.alloc (o := .cells #[.slice A nn c, .map (some MB)] 108) hb8.size
  have hr := heap_alloc_new w4 (.cells #[.slice A nn c, .map (some MB)] 108)
  obtain ⟨p0, p1, _, _⟩ := block2_cells hr
  clear Q4 X3 CS X4 CS4 hO hMp hr d0 hb6 hb7
  generalize hW4 : w4.alloc (.cells #[.slice A nn c, .map (some MB)] 108) = W4 at *
  obtain ⟨w5, hrun, hownM, hgM⟩ := run_make_full (P := Tryz.prog) W4 W4.heap.size 23 3 si (.int .i64 0) 1 Tryz.underlying23 hi hz0 hz1 .i64 .i64 n (by rw [hz2]; omega) (by unfold maxLen; omega) (Nat.le_refl _)
  go_wp2_with fail
  generalize w4.heap.size = PB at *
  have hUBlt := (hownM.lt W4.heap.size rfl).2
  have hm0 : (madeCells (Value.int .i64 0).cells (n * 1)).toList = (rowU (usI uu) n 0).map (Value.int .i64) := by
    rw [Nat.mul_one, show (Value.int .i64 0).cells = #[.int .i64 0] from rfl, toList_madeCells_one, rowU_zero, List.map_replicate]
  rw [hm0] at hownM
  have hb45 : Below W4.heap.size W4 w5 := (Below.refl _ W4).grown hgM (Nat.le_refl _) fun k hk => by cases hk
  have huse0 := hownM.alloc (.cells #[.slice (some ⟨W4.heap.size, 0, none⟩) n n] 23)
  have hb40 := hb45.alloc (o := .cells #[.slice (some ⟨W4.heap.size, 0, none⟩) n n] 23) hb45.size
  have hBn := heap_alloc_new w5 (.cells #[.slice (some ⟨W4.heap.size, 0, none⟩) n n] 23)
  have hsz0 : (w5.alloc (.cells #[.slice (some ⟨W4.heap.size, 0, none⟩) n n] 23)).heap.size = w5.heap.size + 1 := by simp
  generalize hUBE : W4.heap.size = UB at *
  generalize hW0E : w5.alloc (.cells #[.slice (some ⟨UB, 0, none⟩) n n] 23) = W0 at *
  clear hW0E
  generalize w5.heap.size = Bn at *
  have hPB : PB < UB := by rw [← hUBE]; exact World.block_lt_of_cell? _ _ p0
  have p0' := (hb40.cell (p := ⟨PB, 0, none⟩) hPB).trans p0
  have p1' := (hb40.cell (p := ⟨PB, 1, none⟩) hPB).trans p1
  rw [← hUBE] at hb40
  have hb0 := hb9.trans (hb40.mono hb9.size)
  have hw4 : w.heap.size ≤ UB := by rw [← hUBE]; exact hb9.size
  have HMETS : Hid (∀ W, Below UB W0 W → OwnMet W MB mm DM) := Lib.hid fun W hW => OwnMet.below HO.out (hb40.trans (by rw [hUBE]; exact hW))
  have HXS : Hid (∀ W, Below UB W0 W → Cells W A (ruleCells rs)) := Lib.hid fun W hW => X5.out.below (hb40.trans (by rw [hUBE]; exact hW))
  have HCS : Hid (∀ W, Below UB W0 W → Cells W SA (spellCells ss)) := Lib.hid fun W hW => CS5.out.below (hb40.trans (by rw [hUBE]; exact hW))
  have HP0 : Hid (∀ W, Below UB W0 W → W.cell? ⟨PB, 0, none⟩ = some (.slice A nn c) ∧ W.cell? ⟨PB, 1, none⟩ = some (.map (some MB))) := Lib.hid fun W hW => ⟨(hW.cell (p := ⟨PB, 0, none⟩) hPB).trans p0', (hW.cell (p := ⟨PB, 1, none⟩) hPB).trans p1'⟩
  clear HO X5 CS5 p0 p1 p0' p1' hb45 hb9 hb40 hrun hgM hownM hm0 hW4 hUBE
  go_loopw [13, 15, 16, 17, 18, 52] (fun nv _ _ _ _ iv wr => ∃ k : Nat, k ≤ n ∧ iv = .int .i64 k ∧ wr.ownsRow W0.heap.size 3 1 nv (nearAt uu k).length ((nearAt uu k).map fun i : Nat => Value.int .i64 (i : Int)) ∧ Hid (nearAt uu k = [] → nv = .slice none 0 0) ∧ wr.ownsRow UB 3 1 (.slice (some ⟨UB, 0, none⟩) n n) n ((rowU (usI uu) n k).map (Value.int .i64)) ∧ wr.heap[Bn]? = some (.cells #[.slice (some ⟨UB, 0, none⟩) n n] 23 (0, 0)) ∧ Below UB W0 wr ∧ W0.heap.size ≤ wr.heap.size) (fun _ _ _ _ _ iv _ => n - (intOf iv).toNat)
  case atStart => exact ⟨0, Nat.zero_le _, rfl, World.ownsRow_nil _ _ _ _, Lib.hid fun _ => rfl, huse0, hBn, Below.refl _ _, Nat.le_refl _⟩
  case round =>
    obtain ⟨k, hk, rfl, hown, hnil, huse, hbn, t0, hsz⟩ := hrel
    clear huse0 hBn
    obtain ⟨NA, cap, rfl⟩ := own_form hown
    by_cases hlt : k < n
    · have hkL : k < ss.length := by rw [← HM.out]; exact hlt
      obtain ⟨b1, o1, rfl, s1, s2⟩ := (HCS.out _ t0).spell k hkL
      have qu := Q5.out MB mm DM (keyS ss[k])
      have hk12 := (keyS_key12 (HV.out _ (List.getElem_mem hkL))).2
      have hu := HU.out k hkL
      rw [hu] at qu
      have hst := nearAt_step uu k
      have hrs := rowU_set (usI uu) n k
      rw [usI_get] at hrs
      unfold uOf at hrs
      clear hu
      generalize uu.getD k none = U at *
      have QU := Lib.hid qu
      have HRS := Lib.hid hrs
      have HST := Lib.hid hst
      clear qu hrs hst
      have hln := nearAt_len uu k
      generalize alphaN ss[k].data.toList = al at *
      generalize keyS ss[k] = KX at *
      have hws := t0.size
      have hUBw : UB < wr.heap.size := (huse.lt UB rfl).2
      have hBnw : Bn < wr.heap.size := (Array.getElem?_eq_some_iff.1 hbn).1
      have t1 : Below UB W0 (wr.alloc (.cells #[.string KX, .int .i64 al] 84)) := t0.alloc (by omega) _
      have hs1 : (wr.alloc (.cells #[.string KX, .int .i64 al] 84)).heap.size = wr.heap.size + 1 := by simp
      have hr1 := heap_alloc_new wr (.cells #[.string KX, .int .i64 al] 84)
      have hown1 := hown.alloc (.cells #[.string KX, .int .i64 al] 84)
      have huse1 := huse.alloc (.cells #[.string KX, .int .i64 al] 84)
      have hbn1 := (Below.heap_alloc wr (.cells #[.string KX, .int .i64 al] 84) Bn hBnw).trans hbn
      obtain ⟨pp0, pp1⟩ := HP0.out _ t1
      obtain ⟨k0, k1, _, _⟩ := block2_cells hr1
      have i0 : (0 : Int) ≤ (k : Int) := by omega
      have i1 : (k : Int) < (n : Int) := by omega
      go_wp2_with fail
      generalize wr.alloc (.cells #[.string KX, .int .i64 al] 84) = wa at *
      generalize wr.heap.size = SB at *
      refine (QU.out _ hk12 (HXS.out _ t1) (HMETS.out _ t1) HMP.out).mono ?_
      rintro e w6 ⟨rfl, hb6⟩
      have hn6 := own_below hown1 hb6
      have hu6 := own_below huse1 hb6
      have hbn6 := (hb6.block _ (by omega)).trans hbn1
      have t2 := t1.trans (hb6.mono (by omega))
      have hs6 := hb6.size
      obtain ⟨cb, _⟩ := cells_at hbn6
      have hz := rowU_len (usI uu) n k
      have hoN := fun g (hg : (Value.slice NA (nearAt uu k).length cap).ownBlock = some g) => (hn6.lt g hg).1
      clear hown1 huse1 hbn1 hb6 pp0 pp1 k0 k1 hr1 hown huse hbn t1 t0
      cases U with
      | none =>
        have hc3 : w6.cell? ⟨UB, k, none⟩ = some (.int .i64 ((rowU (usI uu) n k)[k]'(by rw [hz]; exact hlt))) := by
          rw [hu6.cellAt k (by rw [Nat.mul_one]; exact hlt), List.getElem?_map, List.getElem?_eq_getElem (by rw [hz]; exact hlt)]; rfl
        have hf3 := hu6.frozenAt k
        have hst := (hu6.stored k (.int .i64 0)).1
        have hrs : (rowU (usI uu) n k).set k 0 = rowU (usI uu) n (k + 1) := HRS.out
        rw [← List.map_set, hrs] at hst
        have hs3 : nearAt uu (k + 1) = nearAt uu k := by rw [HST.out]; exact List.append_nil _
        have hn7 : (w6.setCell ⟨UB, k, none⟩ (.int .i64 0)).ownsRow W0.heap.size 3 1 (.slice NA (nearAt uu k).length cap) (nearAt uu k).length ((nearAt uu k).map fun i : Nat => Value.int .i64 (i : Int)) := hn6.kept (grownSet w6 UB k (.int .i64 0)) (by
          cases hA : (Value.slice NA (nearAt uu k).length cap).ownBlock with
          | none => exact .inl rfl
          | some g =>
            refine .inr fun he => ?_
            have h1 := hoN g hA
            injection he with he
            omega)
        have hbn7 : (w6.setCell ⟨UB, k, none⟩ (.int .i64 0)).heap[Bn]? = some (.cells #[.slice (some ⟨UB, 0, none⟩) n n] 23 (0, 0)) := (Below.heap_setCell _ _ _ _ (by show Bn ≠ UB; omega)).trans hbn6
        have t3 := t2.setCell (p := ⟨UB, k, none⟩) (Nat.le_refl _) (.int .i64 0)
        have hs7 : W0.heap.size ≤ (w6.setCell ⟨UB, k, none⟩ (.int .i64 0)).heap.size := by simp [World.setCell]; omega
        have HN7 := Lib.hid hn7
        have HS3 := Lib.hid hs3
        have HT7 := Lib.hid hst
        have hnil2 : Hid (nearAt uu (k + 1) = [] → Value.slice NA (nearAt uu k).length cap = .slice none 0 0) := Lib.hid fun h => hnil.out (by rw [← hs3]; exact h)
        clear hn6 hu6 hst hn7 HST HRS hs3
        go_wp2_with fail
        go_roundw
        case rel => exact ⟨k + 1, by omega, by go_num, by rw [HS3.out]; exact HN7.out, hnil2, HT7.out, hbn7, t3, hs7⟩
        case measure => simp [intOf]; omega
      | some u =>
        have hrs : (rowU (usI uu) n k).set k (u : Int) = rowU (usI uu) n (k + 1) := HRS.out
        have hs3 : nearAt uu (k + 1) = nearAt uu k ++ [k] := by rw [HST.out]; rfl
        have HRS2 := Lib.hid hrs
        have HS3 := Lib.hid hs3
        have HON := Lib.hid hoN
        have HU6 := Lib.hid hu6
        have HZ := Lib.hid hz
        have HBN6 := Lib.hid hbn6
        clear hrs hs3 HST HRS hoN hu6 hz hbn6 cb
        go_wp2_with (at_builtin; refine wpList_append_own _ rfl _ _ 23 rfl W0.heap.size 3 si (.int .i64 0) 1 8 Tryz.underlying23 hi hz0 hz1 hz2 rfl (by decide) _ _ _ rfl (hn6.alloc _) ⟨w6.heap.size, 0, none⟩ 1 1 [.int .i64 k] rfl rfl (cell_one_new _ _ _) (by simp [Value.oneCell']) (by unfold maxLen; omega) (by omega) (by simp; omega) ?_; intro v' wn hnN hgN _; obtain ⟨GN, capN, rfl⟩ := own_head hnN; obtain ⟨hstep, huN, hbnN⟩ := nearStep (n := n) (uu := uu) (k := k) HON.out HU6.out HBN6.out (by omega) (by omega) (by omega) hgN; obtain ⟨cb, _⟩ := cells_at hbnN; obtain ⟨hc3, hf3⟩ := nearCell huN hlt)
        have hs8 := hstep.size
        have t3 := t2.trans (hstep.mono (by omega))
        have hst := (huN.stored k (.int .i64 u)).1
        rw [← List.map_set, HRS2.out] at hst
        have hGN := (hnN.lt GN rfl).1
        have hn7 := hnN.kept (grownSet wn UB k (.int .i64 u)) (.inr fun he => by
          have he' : some GN = some UB := he
          injection he' with he'
          omega)
        have hbn7 : (wn.setCell ⟨UB, k, none⟩ (.int .i64 u)).heap[Bn]? = some (.cells #[.slice (some ⟨UB, 0, none⟩) n n] 23 (0, 0)) := (Below.heap_setCell _ _ _ _ (by show Bn ≠ UB; omega)).trans hbnN
        have t4 := t3.setCell (p := ⟨UB, k, none⟩) (Nat.le_refl _) (.int .i64 u)
        have hs7 : W0.heap.size ≤ (wn.setCell ⟨UB, k, none⟩ (.int .i64 u)).heap.size := by simp [World.setCell]; omega
        have HN7 := Lib.hid hn7
        have HT7 := Lib.hid hst
        clear hnN huN hn6 hst hn7 hgN
        go_wp2_with fail
        go_roundw
        case rel => exact ⟨k + 1, by omega, by go_num, by rw [HS3.out, List.length_append, List.map_append]; exact HN7.out, Lib.hid fun h => by rw [HS3.out] at h; simp at h, HT7.out, hbn7, t4, hs7⟩
        case measure => simp [intOf]; omega
    · have ekn : k = n := by omega
      clear hlt hk
      subst ekn
      obtain ⟨cb, _⟩ := cells_at hbn
      have hfin := hb0.trans (t0.mono hw4)
      by_cases hz : nearAt uu k = []
      · have hnl := hnil.out hz
        have e : nearS uu = [] := by unfold nearS; rw [HUL.out, hz]; rfl
        have E := Lib.hid e
        rw [hnl]
        clear e hnil hown huse hnl hz
        go_wp2_with fail
        refine (nearSort_nil _ _).mono ?_
        rintro e w' ⟨rfl, rfl⟩
        go_wp2_with fail
        go_ret2
        exact ⟨none, 0, by rw [E.out]; rfl, by rw [E.out]; exact fun i hi => absurd hi (by simp), hfin⟩
      · obtain ⟨m, hm1⟩ : ∃ m, k = m + 1 := ⟨k - 1, by
          have : k ≠ 0 := fun h0 => hz (by rw [h0]; rfl)
          omega⟩
        have hmem : ∀ i, i ∈ nearAt uu k → i < m + 1 := fun i h => by have := nearAt_lt h; omega
        have hv := toFin_vals m _ hmem
        have hsv := near_vals uu (usI uu) m _ (usI_get uu) (by rw [hv, HUL.out])
        have hlen : (nearAt uu k).length ≤ 6 := by have := nearAt_len uu k; omega
        obtain ⟨p, hp⟩ : ∃ p, (nearAt uu k).length = p + 1 := ⟨(nearAt uu k).length - 1, by have := List.length_pos_iff.2 hz; omega⟩
        generalize hL : (nearAt uu k).map (toFinM m) = L at *
        have hLl : L.length = p + 1 := by rw [← hL, List.length_map]; exact hp
        rw [hp, ← hv, List.map_map] at hown
        obtain ⟨G, cp, he⟩ := own_head hown
        cases he
        have hG := hown.lt G rfl
        have hH : Holds (encF m) wr G 0 L.toArray := fun j hj => by
          have hj1 : j < L.length := by simpa using hj
          refine ⟨?_, by rw [Nat.zero_add]; exact hown.frozenAt j⟩
          rw [Nat.zero_add, hown.cellAt j (by omega), List.getElem?_map, List.getElem?_eq_getElem hj1, getElem!_pos _ j hj]
          rfl
        have hul : (usI uu).length = k := by unfold usI; rw [List.length_map, HUL.out]
        have hcu := cells_own huse
        have hra : rowU (usI uu) k k = usI uu := by
          have := rowU_all (usI uu)
          rwa [hul] at this
        rw [hra] at hcu
        have q := nearSort_any (usI uu) m Bn UB k G cap L (by omega) (by omega) wr (by rw [← hm1]; exact cb) hcu (by omega) (by omega) hH hG.2
        rw [hLl] at q hsv
        have hS0 := insSize (ltOf (cfU (usI uu) m)) L.toArray (p + 1)
        generalize Sort.insertionSort (ltOf (cfU (usI uu) m)) L.toArray 0 (p + 1) = S at *
        have Q := Lib.hid q
        have HH := Lib.hid hH
        have HSV := Lib.hid hsv
        have hlS : S.toList.length = p + 1 := by rw [Array.length_toList, hS0]; simp [hLl]
        have HLS : Hid ((nearS uu).length = p + 1) := Lib.hid (by rw [← hsv, List.length_map]; exact hlS)
        clear q hH hsv hown hnil hv hmem hL hz hcu huse
        rw [hp]
        go_wp2_with fail
        refine Q.out.mono ?_
        rintro e w' ⟨rfl, hSW⟩
        have hF := hSW.holds hG.2 HH.out (by rw [hS0])
        have hb5 : Below w.heap.size wr w' := by
          obtain ⟨q3, os3, hw3⟩ := hSW
          rw [hw3]
          exact below_sortWorld (encF m) wr G 0 q3 w.heap.size _ os3 (by have := t0.size; omega) hfin.size
        have hb6 := hfin.trans hb5
        clear hSW hb5
        go_wp2_with fail
        go_ret2
        refine ⟨some ⟨G, 0, none⟩, cap, ?_, ?_, hb6⟩
        · rw [List.length_map, HLS.out]; rfl
        · intro i hi
          rw [List.length_map, List.length_map, HLS.out] at hi
          have hi2 : i < S.size := by rw [← Array.length_toList, hlS]; exact hi
          have h := (hF i hi2).1
          refine ⟨G, 0, rfl, ?_⟩
          rw [h, getElem!_pos _ i hi2, ← HSV.out, List.getD_eq_getElem?_getD, List.getElem?_map, List.getElem?_map, List.getElem?_map, List.getElem?_eq_getElem (by rw [hlS]; exact hi)]
          rfl
end Go.Proofs.YtljlkhaolfihjaaGreatDoor
