/- The first list of numbers that is good. -/
import Derived.Test.YtljlkhaolfihjaaGreatDoorPgRc
namespace Go.Proofs.YtljlkhaolfihjaaGreatDoor
open Go.RowKit Go.Shelf

attribute [local go_sem] Oper.semAt_some

structure FirJ (w : World) (V : Value) (Ds : List Nat) (s : Value) (b : Bool) (W : World) : Prop where
  v : W.heap[w.heap.size]? = some (.cells #[V] 57 (0, 0))
  r1 : W.heap[w.heap.size + 1]? = some (.cells #[s] 23 (0, 0))
  r2 : W.heap[w.heap.size + 2]? = some (.cells #[.bool b] 4 (0, 0))
  below : Below w.heap.size w W
  nd : Ds.Nodup
  lt : ∀ D, D ∈ Ds → w.heap.size + 3 ≤ D ∧ D < W.heap.size
  ds : ∀ D, D ∈ Ds → W.heap[D]? = some (.deferred (some []))

theorem FirJ.low {w : World} {V : Value} {Ds : List Nat} {s : Value} {b : Bool} {A C : World} {B : Nat} (h : FirJ w V Ds s b A) (hB : w.heap.size + 3 ≤ B) (hD : ∀ D, D ∈ Ds → D < B) (k : Below B A C) : FirJ w V Ds s b C :=
  ⟨(k.block _ (by omega)).trans h.v, (k.block _ (by omega)).trans h.r1, (k.block _ (by omega)).trans h.r2, h.below.trans (k.mono (by omega)), h.nd, fun D hd => ⟨(h.lt D hd).1, Nat.lt_of_lt_of_le (h.lt D hd).2 k.size⟩, fun D hd => (k.block _ (hD D hd)).trans (h.ds D hd)⟩
theorem FirJ.lt3 {w : World} {V : Value} {Ds : List Nat} {s : Value} {b : Bool} {A : World} (hs : FirJ w V Ds s b A) : w.heap.size + 3 ≤ A.heap.size := by
  have := (Array.getElem?_eq_some_iff.1 hs.r2).1
  omega
theorem FirJ.on {w : World} {V : Value} {Ds : List Nat} {s : Value} {b : Bool} {A C : World} (hs : FirJ w V Ds s b A) (hb : Below A.heap.size A C) : FirJ w V Ds s b C := hs.low hs.lt3 (fun D hD => (hs.lt D hD).2) hb
theorem FirJ.set {w : World} {V : Value} {Ds : List Nat} {s : Value} {b : Bool} {W : World} (h : FirJ w V Ds s b W) (u1 : Value) (u2 : Bool) :
    FirJ w V Ds u1 u2 ((W.setCell ⟨w.heap.size + 1, 0, none⟩ u1).setCell ⟨w.heap.size + 2, 0, none⟩ (.bool u2)) := by
  have k1 := (Below.heap_setCell W ⟨w.heap.size + 1, 0, none⟩ u1 (w.heap.size + 2) (by simp)).trans h.r2
  refine ⟨(Below.heap_setCell _ _ _ _ (by simp)).trans ((Below.heap_setCell _ _ _ _ (by simp)).trans h.v), (Below.heap_setCell _ _ _ _ (by simp)).trans (Boxed.set _ h.r1), Boxed.set _ k1, (h.below.setCell (by simp) _).setCell (by simp) _, h.nd, fun D hD => ?_, fun D hD => ?_⟩
  · have := h.lt D hD
    simpa [World.setCell] using this
  · have := h.lt D hD
    exact (Below.heap_setCell _ _ _ _ (by simp; omega)).trans ((Below.heap_setCell _ _ _ _ (by simp; omega)).trans (h.ds D hD))
theorem FirJ.more {w : World} {V : Value} {Ds : List Nat} {s : Value} {b : Bool} {W : World} {D : Nat} (h : FirJ w V Ds s b W) (hK : W.heap[D]? = some (.deferred (some []))) (h3 : w.heap.size + 3 ≤ D) (hD : ∀ E, E ∈ Ds → E < D) : FirJ w V (D :: Ds) s b W :=
  ⟨h.v, h.r1, h.r2, h.below, List.nodup_cons.2 ⟨fun e => by have := hD D e; omega, h.nd⟩, fun E hE => by
    rcases List.mem_cons.1 hE with rfl | hE
    · exact ⟨h3, (Array.getElem?_eq_some_iff.1 hK).1⟩
    · exact h.lt E hE, fun E hE => by
    rcases List.mem_cons.1 hE with rfl | hE
    · exact hK
    · exact h.ds E hE⟩

/-- Iterators of lists of numbers as they lie in memory. -/
def SeqsI (w : World) (A : Option Addr) (nn : Nat) (ns : List Nat) : Prop :=
  ∀ i (h : i < ns.length), ∃ (b off Bs Bn : Nat), A = some ⟨b, off, none⟩ ∧ w.cell? ⟨b, off + i, none⟩ = some (.func (.func 91) #[] #[.pointer (some ⟨Bs, 0, none⟩), .pointer (some ⟨Bn, 0, none⟩)]) ∧
    w.heap[Bs]? = some (.cells #[.int .i64 (ns[i] : Nat)] 3 (0, 0)) ∧ w.heap[Bn]? = some (.cells #[.int .i64 nn] 3 (0, 0))

def goodI (Bl : Nat) : Value := .func (.func 60) #[] #[.pointer (some ⟨Bl, 0, none⟩)]
def allI (nn : Nat) (ns : List Nat) : List (List Int) := (ns.map fun m => subsL m 0 nn).flatten
def FirstIPost (ss : List ByteArray) (nn : Nat) (ns : List Nat) (w : World) (e : Ending) (w' : World) : Prop :=
  ∃ (v : Value) (b : Bool), e = .returned (.tuple #[v, .bool b]) ∧ (b = true → ∃ x : List Int, (allI nn ns).find? (fineI ss) = some x ∧ x.length ≤ 6 ∧ w'.ownsRow w.heap.size 3 1 v x.length (x.map (Value.int .i64))) ∧ (b = false → v = .slice none 0 0 ∧ (allI nn ns).find? (fineI ss) = Option.none) ∧ Below w.heap.size w w'
def itemsI (xs : List Item) : List (List Int) := xs.map (·.2)
theorem itemsI_snoc (xs : List Item) (x : Item) : itemsI (xs ++ [x]) = itemsI xs ++ [x.2] := by unfold itemsI; rw [List.map_append]; rfl
def doneI (nn : Nat) (ns : List Nat) (j : Nat) : List (List Int) := ((ns.take j).map fun m => subsL m 0 nn).flatten
def FirRI (w : World) (A : Option Addr) (n c : Nat) (V : Value) (nn : Nat) (ns : List Nat) (ss : List ByteArray) (r : Nat) (a : Act) (W : World) : Prop :=
  ∃ (j : Nat) (Ds : List Nat) (u6 u7 u8 u12 u13 u14 u15 u16 u17 u18 u19 u20 u21 u22 u23 : Value), r + j = n ∧
    a = { tmps := #[V, .slice A n c, .pointer (some ⟨w.heap.size, 0, none⟩), undef, .pointer (some ⟨w.heap.size + 1, 0, none⟩), .pointer (some ⟨w.heap.size + 2, 0, none⟩), u6, u7, u8, .slice A n c, .int .i64 n, .int .i64 j, u12, u13, u14, u15, u16, u17, u18, u19, u20, u21, u22, u23], defers := marks Ds } ∧
    FirJ w V Ds (.slice none 0 0) false W ∧ (doneI nn ns j).find? (fineI ss) = Option.none

theorem firstI_end {ss : List ByteArray} {nn : Nat} {ns : List Nat} {w W : World} {V : Value} {Ds : List Nat} {s : Value} {b : Bool} (h : FirJ w V Ds s b W) (tm : Array Value) (h4 : tm.getD 4 undef = .pointer (some ⟨w.heap.size + 1, 0, none⟩)) (h5 : tm.getD 5 undef = .pointer (some ⟨w.heap.size + 2, 0, none⟩))
    (q1 : b = true → ∃ x : List Int, (allI nn ns).find? (fineI ss) = some x ∧ x.length ≤ 6 ∧ W.ownsRow w.heap.size 3 1 s x.length (x.map (Value.int .i64))) (q2 : b = false → s = .slice none 0 0 ∧ (allI nn ns).find? (fineI ss) = Option.none) :
    LeavesInM Fence.wide 10 Tryz.prog Tryz.f59 tm (FirstIPost ss nn ns w) (marks Ds) .returning W := by
  refine leaves_marks Ds W h.nd h.ds (fun W' e1 e2 e3 e4 e5 => ?_)
  have a1 := (cells_at ((e5 (w.heap.size + 1) (fun hD => by have := (h.lt _ hD).1; omega)).trans h.r1)).1
  have a2 := (cells_at ((e5 (w.heap.size + 2) (fun hD => by have := (h.lt _ hD).1; omega)).trans h.r2)).1
  have h4' : tm[4]?.getD undef = .pointer (some ⟨w.heap.size + 1, 0, none⟩) := by simpa using h4
  have h5' : tm[5]?.getD undef = .pointer (some ⟨w.heap.size + 2, 0, none⟩) := by simpa using h5
  refine ⟨.tuple #[s, .bool b], by simp [results, Tryz.results59, go_sem, h4', h5', a1, a2], s, b, rfl, fun hb => ?_, q2,
    ⟨e1.trans h.below.os, e2.trans h.below.tape, e3.trans h.below.output, by rw [e4]; exact h.below.size, fun k hk => (e5 k (fun hD => by have := (h.lt _ hD).1; omega)).trans (h.below.block k hk)⟩⟩
  obtain ⟨x, h1, h6, h2⟩ := q1 hb
  refine ⟨x, h1, h6, h2.1, ?_⟩
  rcases h2.2 with h0 | ⟨g, cap, cur, hv, hb', hg, h3⟩
  · exact .inl h0
  · refine .inr ⟨g, cap, cur, hv, hb', (e5 g fun hD => ?_).trans hg, h3⟩
    rw [h.ds g hD] at hg
    cases hg

set_option maxRecDepth 100000 in
set_option maxHeartbeats 4000000 in
theorem firstI_any (A A2 : Option Addr) (Bl n c n2 c2 nn : Nat) (ns : List Nat) (ss : List ByteArray) (w : World) (hn : n = ns.length) (hn12 : n ≤ 12) (hns : ∀ m, m ∈ ns → m ≤ 6) (hnn : nn ≤ 6)
    (hs : SeqsI w A nn ns) (hn2 : n2 = ss.length) (hnb2 : n2 ≤ 1000) (hbl : w.cell? ⟨Bl, 0, none⟩ = some (.slice A2 n2 c2)) (hx : Cells w A2 (spellCells ss)) :
    Calls Tryz.prog 59 #[goodI Bl, .slice A n c] w (FirstIPost ss nn ns w) := by
  have HN := Lib.hid hn
  have HNS := Lib.hid hns
  have HSQ := Lib.hid hs
  have QU := Lib.hid (fun (B : Option Addr) (d : Nat) (q : List Int) W (hq : q.length ≤ 6) (hW : Below w.heap.size w W) (hy : Cells W B (q.map (Value.int .i64))) => good_any A2 B Bl n2 c2 q.length d ss q W hn2 rfl hnb2 (by omega) ((hW.cell (p := ⟨Bl, 0, none⟩) (World.block_lt_of_cell? w _ hbl)).trans hbl) (hx.below hW) hy)
  have hbV : Below w.heap.size w (((w.alloc (.cells #[goodI Bl] 57)).alloc (.cells #[.slice none 0 0] 23)).alloc (.cells #[.bool false] 4)) := (((Below.refl _ w).alloc (Nat.le_refl _) _).alloc (by simp) _).alloc (by simp; omega) _
  have hF0 : FirJ w (goodI Bl) [] (.slice none 0 0) false (((w.alloc (.cells #[goodI Bl] 57)).alloc (.cells #[.slice none 0 0] 23)).alloc (.cells #[.bool false] 4)) := by
    refine ⟨?_, ?_, ?_, hbV, List.nodup_nil, fun D h => by simp at h, fun D h => by simp at h⟩
    · exact (Below.heap_alloc _ _ _ (by simp; omega)).trans ((Below.heap_alloc _ _ _ (by simp)).trans (heap_alloc_new w _))
    · refine (Below.heap_alloc _ _ _ (by simp)).trans ?_
      have := heap_alloc_new (w.alloc (.cells #[goodI Bl] 57)) (.cells #[.slice none 0 0] 23)
      rwa [World.size_alloc] at this
    · have := heap_alloc_new ((w.alloc (.cells #[goodI Bl] 57)).alloc (.cells #[.slice none 0 0] 23)) (.cells #[.bool false] 4)
      rwa [World.size_alloc, World.size_alloc] at this
  have HF0 := Lib.hid hF0
  clear hn hns hs hx hF0 hbV hn2 hbl
  have hgv : goodI Bl = .func (.func 60) #[] #[.pointer (some ⟨Bl, 0, none⟩)] := rfl
  refine (callsIn_wide (n := 10)).1 (callsIn_of_wp_marks Tryz.func59 rfl trivial ?_ rfl)
  simp only [Tryz.ntmps59, List.size_toArray, List.length_cons, List.length_nil, Nat.reduceAdd, Nat.reduceSub, Array.replicate_succ, Array.replicate_zero, List.push_toArray, List.append_toArray, List.nil_append, List.cons_append]
  gi_wp2_with (fail)
  refine (wpIn_wide (n := 10)).2 (wp_scope_straight ((wpIn_wide (n := 10)).1 ?_))
  refine wpIn_seq (wpIn_label ?_)
  gi_wp2_with (fail)
  refine loop_act (FirRI w A n c (goodI Bl) nn ns ss) ?_ n _ _ ?_
  rotate_left
  · exact ⟨0, [], undef, undef, undef, undef, undef, undef, undef, undef, undef, undef, undef, undef, undef, undef, undef, by omega, rfl, HF0.out, rfl⟩
  · rintro r a W ⟨j, Ds, u6, u7, u8, u12, u13, u14, u15, u16, u17, u18, u19, u20, u21, u22, u23, hrj, rfl, hI, hno⟩
    have hj0 : (0 : Int) ≤ (j : Int) := by omega
    by_cases hlt : j < n
    · have hjs : j < ns.length := by rw [← HN.out]; exact hlt
      obtain ⟨b, off, Bs, Bn, rfl, c1, hBs, hBn⟩ := HSQ.out j hjs
      have hlti : (j : Int) < (n : Int) := by omega
      have d1 := (hI.below.cell (World.block_lt_of_cell? w _ c1)).trans c1
      have d2 := (hI.below.block _ (Array.getElem?_eq_some_iff.1 hBs).1).trans hBs
      have d3 := (hI.below.block _ (Array.getElem?_eq_some_iff.1 hBn).1).trans hBn
      have m6 := HNS.out _ (List.getElem_mem hjs)
      have hdn : doneI nn ns (j + 1) = doneI nn ns j ++ subsL ns[j] 0 nn := by
        unfold doneI
        rw [List.take_succ_eq_append_getElem hjs, List.map_append, List.flatten_append]; simp
      have hdp : doneI nn ns (j + 1) <+: allI nn ns := by
        unfold doneI allI
        conv => rhs; rw [← List.take_append_drop (j + 1) ns, List.map_append, List.flatten_append]
        exact List.prefix_append _ _
      generalize ns[j] = m at *
      have HI := Lib.hid hI
      have HDN := Lib.hid hdn
      have HDP := Lib.hid hdp
      have HNO := Lib.hid hno
      have HD2 := Lib.hid d2
      have HD3 := Lib.hid d3
      clear hI hdn hdp hno c1 hBs hBn d2 d3
      gi_wp2_with (fail)
      refine range_writes (α := Item) (by decide) (gf := 91) (lb := #[.pointer (some ⟨Bs, 0, none⟩), .pointer (some ⟨Bn, 0, none⟩)]) rfl (enters_of Tryz.func91 (by kernel_rfl) rfl)
        (n₀ := w.heap.size + 3) HI.out.lt3 (choices_writes _ nn m Bs Bn (w.heap.size + 3) W m6 hnn HD2.out HD3.out) (fun _ => rfl) (fun _ _ _ h k => h.kept k)
        (fun (xs : List Item) W1 => FirJ w (goodI Bl) Ds (.slice none 0 0) false W1 ∧ (itemsI xs).find? (fineI ss) = Option.none ∧ W.heap.size ≤ W1.heap.size)
        (fun cd (xs : List Item) W1 => cd = .exit 0 ∧ ∃ (v : Value) (x : List Int), FirJ w (goodI Bl) Ds v true W1 ∧ x.length ≤ 6 ∧ W1.ownsRow (w.heap.size + 3) 3 1 v x.length (x.map (Value.int .i64)) ∧ (itemsI xs).find? (fineI ss) = some x ∧ W.heap.size ≤ W1.heap.size)
        (fun xs A C hs hb => ⟨hs.1.low HI.out.lt3 (fun D hD => (HI.out.lt D hD).2) hb, hs.2.1, Nat.le_trans hs.2.2 hb.size⟩)
        (fun cd xs A l o o' hs hl ho hc => by
          obtain ⟨e, v, x, h1, h2, h3, h4, h5⟩ := hs
          have hb := put_below o' hl ho
          exact ⟨e, v, x, h1.low HI.out.lt3 (fun D hD => (HI.out.lt D hD).2) hb, h2, own_but h3 ((put_cells o' hl ho hc).but none) (fun g _ => by simp), h4, Nat.le_trans h5 hb.size⟩)
        ⟨HI.out, rfl, Nat.le_refl _⟩ ?frame1 ?assign ?body ?done ?stop
      case assign =>
        intro l x W1 K hK
        gi_wp2
        exact hK
      case body =>
        rintro l pre ⟨v, x⟩ W1 ⟨hI1, hno1, hsz1⟩ ⟨hox, hx6⟩ hlt1
        obtain ⟨AX, cx, hvx⟩ := own_form hox
        dsimp only at hox hx6 hvx
        subst hvx
        obtain ⟨v0, _⟩ := cells_at hI1.v
        rw [hgv] at v0
        have q := QU.out AX cx x W1 hx6 hI1.below (cells_own hox)
        obtain ⟨a1, a2⟩ := cells_at hI1.r1
        obtain ⟨b1, b2⟩ := cells_at hI1.r2
        have HOX := Lib.hid hox
        cases hfx : fineI ss x with
        | false =>
          rw [hfx] at q
          have Q := Lib.hid q
          have HI1 := Lib.hid hI1
          clear q hI1 a1 a2 b1 b2 hox
          gi_wp2_with (fail)
          refine ⟨trivial, ?_⟩
          refine (CallsIn.inRound _ (callsIn_wide.2 Q.out)).mono ?_
          rintro e W2 ⟨rfl, hb2⟩
          gi_wp2_with (fail)
          refine ⟨KeepsFrom.of_grownBy (below_grown hb2) (fun j e => by cases e), CellsKept.of_below hb2 HI1.out.lt3, HI1.out.on hb2, ?_, Nat.le_trans hsz1 hb2.size⟩
          rw [itemsI_snoc, List.find?_append, hno1]
          simp [hfx]
        | true =>
          rw [hfx] at q
          have Q := Lib.hid q
          have HI1 := Lib.hid hI1
          clear q hI1 a1 a2 b1 b2 hox
          gi_wp2_with (fail)
          refine ⟨trivial, ?_⟩
          refine (CallsIn.inRound _ (callsIn_wide.2 Q.out)).mono ?_
          rintro e W2 ⟨rfl, hb2⟩
          have hI2 := HI1.out.on hb2
          obtain ⟨a1, a2⟩ := cells_at hI2.r1
          obtain ⟨b1, b2⟩ := cells_at hI2.r2
          have HI2 := Lib.hid hI2
          clear hI2
          gi_wp2_with (fail)
          refine ⟨(KeepsFrom.of_grownBy (below_grown hb2) (fun j e => by cases e)).trans (((KeepsOthers.setCell W2 _ _).trans (KeepsOthers.setCell _ _ _)).from _), rfl, .slice AX x.length cx, x, HI2.out.set _ true, hx6, ?_, ?_, ?_⟩
          · exact ownsRow_setCell_below (ownsRow_setCell_below (own_below HOX.out hb2) (by simp) _) (by simp) _
          · rw [itemsI_snoc, List.find?_append, hno1]
            simp [hfx]
          · have := hb2.size
            simp [World.setCell]
            omega
      case done =>
        rintro D xs W1 hD hxs ⟨hI1, hno1, hsz1⟩ hK
        have hx2 : itemsI xs = subsL m 0 nn := hxs
        rw [hx2] at hno1
        have hno2 : (doneI nn ns (j + 1)).find? (fineI ss) = Option.none := by
          rw [HDN.out, List.find?_append, HNO.out, hno1]; rfl
        have hI3 := hI1.more hK (Nat.le_trans HI.out.below.size hD |> fun h => by have := HI.out.lt3; omega) (fun E hE => by have := (HI.out.lt E hE).2; omega)
        have HI3 := Lib.hid hI3
        have HNO2 := Lib.hid hno2
        clear hI1 hno1 hxs hx2 hno2 hI3 hK
        gi_wp2_with (fail)
        exact ⟨r - 1, by omega, j + 1, D :: Ds, _, _, _, _, _, _, _, _, _, _, _, _, _, _, _, by omega, rfl, HI3.out, HNO2.out⟩
      case stop =>
        rintro D cd pre W1 hD hpre ⟨rfl, v, x, hI1, hx6, hox, hfd, hsz1⟩ hK
        have hx2 : itemsI pre <+: subsL m 0 nn := hpre
        have hf2 : (allI nn ns).find? (fineI ss) = some x := by
          obtain ⟨t1, ht1⟩ := HDP.out
          obtain ⟨t2, ht2⟩ := hx2
          rw [← ht1, List.find?_append, HDN.out, List.find?_append, HNO.out, ← ht2, List.find?_append, hfd]
          rfl
        have hI3 := hI1.more hK (Nat.le_trans HI.out.below.size hD |> fun h => by have := HI.out.lt3; omega) (fun E hE => by have := (HI.out.lt E hE).2; omega)
        have HI3 := Lib.hid hI3
        have HF2 := Lib.hid hf2
        obtain ⟨AX, cx, hvx⟩ := own_form hox
        subst hvx
        have HOX := Lib.hid hox
        obtain ⟨a1, a2⟩ := cells_at hI1.r1
        obtain ⟨b1, b2⟩ := cells_at hI1.r2
        clear hI1 hpre hx2 hfd hf2 hI3 hK hox
        gi_wp2_with (fail)
        refine (wpIn_wide (n := 10)).2 ?_
        go_region
        gi_wp2_with (fail)
        exact firstI_end (Ds := D :: Ds) ((HI3.out.set (.slice AX x.length cx) true).on (drewB _ _)) _ rfl rfl (fun _ => ⟨x, HF2.out, hx6, (ownsRow_setCell_below (ownsRow_setCell_below HOX.out (a := ⟨w.heap.size + 1, 0, none⟩) (by simp) (.slice AX x.length cx)) (a := ⟨w.heap.size + 2, 0, none⟩) (by simp) (.bool true)).mono (by omega)⟩) (fun h => by cases h)
    · have hlti : ¬ ((j : Int) < (n : Int)) := by omega
      have hf2 : (allI nn ns).find? (fineI ss) = Option.none := by
        have e : doneI nn ns j = allI nn ns := by unfold doneI allI; rw [List.take_of_length_le (by rw [← HN.out]; omega)]
        rw [← e]; exact hno
      obtain ⟨a1, a2⟩ := cells_at hI.r1
      obtain ⟨b1, b2⟩ := cells_at hI.r2
      have HI := Lib.hid hI
      have HF2 := Lib.hid hf2
      clear hI hno hf2
      gi_wp2_with (fail)
      refine (wpIn_wide (n := 10)).2 ?_
      go_region
      gi_wp2_with (fail)
      exact firstI_end (Ds := Ds) ((HI.out.set (.slice none 0 0) false).on (drewB _ _)) _ rfl rfl (fun h => by cases h) (fun _ => ⟨rfl, HF2.out⟩)
end Go.Proofs.YtljlkhaolfihjaaGreatDoor

/- Names at a wrong place. -/
namespace Go.Proofs.YtljlkhaolfihjaaGreatDoor
open Go.RowKit Go.Shelf

def seqI (p : Nat) : Value := .func (.func 91) #[] #[.pointer (some ⟨p + 1, 0, none⟩), .pointer (some ⟨p, 0, none⟩)]
structure SeqRI (base nn : Nat) (bs : List Nat) (v : Value) (W : World) : Prop where
  row : W.ownsRow base 98 1 v bs.length (bs.map seqI)
  at_ : ∀ (j : Nat), j < bs.length → W.heap[bs.getD j 0]? = some (.cells #[.int .i64 nn] 3 (0, 0)) ∧ W.heap[bs.getD j 0 + 1]? = some (.cells #[.int .i64 (j : Nat)] 3 (0, 0))
theorem SeqRI.seqs {base nn : Nat} {bs : List Nat} {W : World} {A : Option Addr} {n c : Nat} (hn : n = bs.length) (h : SeqRI base nn bs (.slice A n c) W) : SeqsI W A nn (List.range n) := by
  subst hn
  intro i hi
  have hil : i < bs.length := by simpa using hi
  have hc := cells_own h.row
  obtain ⟨b, off, e, hb⟩ := hc i (by simpa using hil)
  obtain ⟨a1, a2⟩ := h.at_ i hil
  refine ⟨b, off, bs.getD i 0 + 1, bs.getD i 0, e, ?_, by rw [List.getElem_range]; exact a2, a1⟩
  rw [hb, List.getD_eq_getElem?_getD, List.getElem?_map, List.getElem?_eq_getElem hil, List.getD_eq_getElem?_getD, List.getElem?_eq_getElem hil]
  rfl
theorem SeqRI.none (base nn : Nat) (W : World) : SeqRI base nn [] (.slice none 0 0) W := ⟨World.ownsRow_nil _ _ _ _, fun j h => by simp at h⟩
theorem SeqRI.step {base nn : Nat} {bs : List Nat} {v v' : Value} {W wn : World} {m : Nat} (h : SeqRI base nn bs v W) (hm : m = bs.length)
    (hg : (((W.alloc (.cells #[.int .i64 nn] 3)).alloc (.cells #[.int .i64 m] 3)).alloc (.cells #[seqI W.heap.size] 98)).grownBy wn v.ownBlock) (ho : wn.ownsRow base 98 1 v' (bs.length + 1) (bs.map seqI ++ [seqI W.heap.size])) :
    SeqRI base nn (bs ++ [W.heap.size]) v' wn := by
  have hrow := ((h.row.alloc (.cells #[.int .i64 nn] 3)).alloc (.cells #[.int .i64 m] 3)).alloc (.cells #[seqI W.heap.size] 98)
  have keep : ∀ (b : Nat) c t, t ≠ 98 → (((W.alloc (.cells #[.int .i64 nn] 3)).alloc (.cells #[.int .i64 m] 3)).alloc (.cells #[seqI W.heap.size] 98)).heap[b]? = some (.cells c t (0, 0)) → wn.heap[b]? = some (.cells c t (0, 0)) := by
    intro b c t ht hb
    refine (hg.block b (Array.getElem?_eq_some_iff.1 hb).1 (fun e => ?_)).trans hb
    obtain ⟨c', hc'⟩ := own_block hrow b e.symm
    rw [hb] at hc'
    injection hc' with hc'
    injection hc' with _ h3 _
    exact ht h3
  have hb3 : Below W.heap.size W (((W.alloc (.cells #[.int .i64 nn] 3)).alloc (.cells #[.int .i64 m] 3)).alloc (.cells #[seqI W.heap.size] 98)) := (((Below.refl _ W).alloc (Nat.le_refl _) _).alloc (by simp) _).alloc (by simp; omega) _
  refine ⟨by rw [List.length_append, List.map_append]; exact ho, fun j hj => ?_⟩
  by_cases hlt : j < bs.length
  · obtain ⟨a1, a2⟩ := h.at_ j hlt
    have e1 : (bs ++ [W.heap.size]).getD j 0 = bs.getD j 0 := by
      rw [List.getD_eq_getElem?_getD, List.getD_eq_getElem?_getD, List.getElem?_append_left hlt]
    rw [e1]
    exact ⟨keep _ _ _ (by decide) ((hb3.block _ (Array.getElem?_eq_some_iff.1 a1).1).trans a1), keep _ _ _ (by decide) ((hb3.block _ (Array.getElem?_eq_some_iff.1 a2).1).trans a2)⟩
  · have hj2 : j = m := by simp at hj; omega
    subst hj2
    have e1 : (bs ++ [W.heap.size]).getD j 0 = W.heap.size := by
      rw [List.getD_eq_getElem?_getD, List.getElem?_append_right (by omega), hm]; simp
    rw [e1]
    refine ⟨keep _ _ _ (by decide) ((Below.heap_alloc _ _ _ (by simp; omega)).trans ((Below.heap_alloc _ _ _ (by simp)).trans (heap_alloc_new W _))), keep _ _ _ (by decide) ?_⟩
    refine (Below.heap_alloc _ _ _ (by simp)).trans ?_
    have := heap_alloc_new (W.alloc (.cells #[.int .i64 nn] 3)) (.cells #[.int .i64 j] 3)
    rwa [World.size_alloc] at this
theorem infoSeqI : (Tryz.prog.info? 98).map (fun i => (i.zero, i.size, i.bytes)) = some (some .nilFunc, 1, 8) := by kernel_rfl

/-- The fewest names at a wrong place. -/
def wrongX (ss : List ByteArray) : List Int := ((allI ss.length (List.range (ss.length + 1))).find? (fineI ss)).getD []
def wrongL (ss : List ByteArray) : List Int := if listErr ss = 0 then wrongX ss else []
/-- Wrong's answer. -/
def WrongAns (ss : List ByteArray) (w : World) (e : Ending) (w' : World) : Prop :=
  ∃ v : Value, e = .returned (.tuple #[v, .int .i64 (listErr ss)]) ∧ w'.ownsRow w.heap.size 3 1 v (wrongL ss).length ((wrongL ss).map (Value.int .i64)) ∧ (wrongL ss).length ≤ 6 ∧ Below w.heap.size w w'

set_option maxRecDepth 100000 in
set_option maxHeartbeats 3200000 in
theorem Wrong_ok (A : Option Addr) (n c : Nat) (ss : List ByteArray) (w : World) (hn : n = ss.length) (hle : listErr ss = 0) (hx : Cells w A (ss.map Value.string)) :
    Calls Tryz.prog 20 #[.slice A n c] w (WrongAns ss w) := by
  obtain ⟨si, hif, hz0, hz1, hz2⟩ := info_parts infoSeqI
  obtain ⟨l6, hok⟩ := list_facts hle
  have QR := Lib.hid (readList_ok A n c ss w hn (by omega) hok hx)
  unfold SpellsPost at QR
  have HWX : Hid (∀ o : Option (List Int), (allI n (List.range (n + 1))).find? (fineI ss) = o → wrongL ss = o.getD []) := Lib.hid fun o ho => by
    unfold wrongL wrongX; rw [if_pos hle, ← hn, ho]
  unfold WrongAns
  rw [hle]
  generalize wrongL ss = WL at *
  have QF := Lib.hid (fun (O : Option Addr) (Bl c' cb : Nat) B W (hs : SeqsI W O n (List.range (n + 1))) (hbl : W.cell? ⟨Bl, 0, none⟩ = some (.slice B n cb)) (hcs : Cells W B (spellCells ss)) =>
    firstI_any O B Bl (n + 1) c' n cb n (List.range (n + 1)) ss W (by simp) (by omega) (fun m hm => by have := List.mem_range.1 hm; omega) (by omega) hs hn (by omega) hbl hcs)
  have hn6 : n ≤ 6 := by omega
  have HN := Lib.hid hn
  clear hn hle hok hx l6
  go_enter Tryz.func20, Tryz.ntmps20
  go_wp2_with fail
  refine QR.out.mono ?_
  rintro e w1 ⟨o, rfl, ho1, hb1⟩
  rw [← HN.out] at ho1
  obtain ⟨B, cb, rfl⟩ := own_form ho1
  have hP := heap_alloc_new w1 (.cells #[.slice B n cb] 76)
  have hbP : Below w1.heap.size w1 (w1.alloc (.cells #[.slice B n cb] 76)) := (Below.refl _ _).alloc (Nat.le_refl _) _
  have hPs : (w1.alloc (.cells #[.slice B n cb] 76)).heap.size = w1.heap.size + 1 := by simp
  have CS := Lib.hid ((cells_own ho1).below hbP)
  clear ho1 QR
  go_wp2_with fail
  generalize w1.alloc (.cells #[.slice B n cb] 76) = W0 at *
  have hb0 := hb1.trans (hbP.mono hb1.size)
  generalize w1.heap.size = Pb at *
  have HB0 := Lib.hid hb0
  have hw1 : IntKind.i64.wrap ((n : Int) + 1) = (n : Int) + 1 := IntWalk.i64_in _ (by omega)
  obtain ⟨pp0, pp1⟩ := cells_at hP
  clear hb0 hb1 hbP
  go_wp2_with fail
  go_loopw [6, 7, 22] (fun s6 _ i wr => ∃ (bs : List Nat), bs.length ≤ n + 1 ∧ i = .int .i64 bs.length ∧ SeqRI W0.heap.size n bs s6 wr ∧ Below W0.heap.size W0 wr) (fun _ _ i _ => n + 1 - (intOf i).toNat)
  case atStart => exact ⟨[], Nat.zero_le _, rfl, SeqRI.none _ _ _, Below.refl _ _⟩
  case round =>
    obtain ⟨bs, hbs, rfl, hrow, hb⟩ := hrel
    obtain ⟨p0, p1⟩ := cells_at ((hb.block Pb (by omega)).trans hP)
    obtain ⟨O, cp, rfl⟩ := own_form hrow.row
    have hsw := hb.size
    by_cases hlt : bs.length < n + 1
    · have hlti : (bs.length : Int) < (n : Int) + 1 := by omega
      have hbc : Below wr.heap.size wr ((wr.alloc (.cells #[.int .i64 n] 3)).alloc (.cells #[.int .i64 bs.length] 3)) := ((Below.refl _ wr).alloc (Nat.le_refl _) _).alloc (by simp) _
      have hrow2 := (hrow.row.alloc (.cells #[.int .i64 n] 3)).alloc (.cells #[.int .i64 bs.length] 3)
      have HROW := Lib.hid hrow
      clear hrow
      go_wp2_with fail
      refine (choices_any n bs.length wr).mono ?_
      rintro e w' ⟨rfl, rfl⟩
      have hone : ∀ (j : Nat) (u : Value), [seqI wr.heap.size][j]? = some u → ((((wr.alloc (.cells #[.int .i64 n] 3)).alloc (.cells #[.int .i64 bs.length] 3)).alloc (.cells #[seqI wr.heap.size] 98)).cell? ((⟨wr.heap.size + 2, 0, none⟩ : Addr).add j) = some u) := by
        have := cell_one_new ((wr.alloc (.cells #[.int .i64 n] 3)).alloc (.cells #[.int .i64 bs.length] 3)) (seqI wr.heap.size) 98
        rwa [World.size_alloc, World.size_alloc] at this
      unfold seqI at hone
      go_wp2_with (at_builtin; refine wpList_append_own _ rfl _ _ 96 rfl W0.heap.size 98 si .nilFunc 1 8 Tryz.underlying96 hif hz0 hz1 hz2 rfl (by decide) _ _ _ rfl (hrow2.alloc _) ⟨wr.heap.size + 2, 0, none⟩ 1 1 [seqI wr.heap.size] rfl rfl hone (by simp [Value.oneCell', seqI]) (by unfold maxLen; omega) (by omega) (by simp; omega) ?_; intro v' wn hownN hgN _)
      have hbN := (((hb.trans (hbc.mono (by omega))).alloc (by simp; omega) (.cells #[seqI wr.heap.size] 98)).grown hgN (by simp; omega) (fun j hj => (hrow2.lt j hj).1))
      have hst := HROW.out.step rfl hgN hownN
      go_wp2_with fail
      go_roundw
      case rel => exact ⟨bs ++ [wr.heap.size], by simp; omega, by rw [List.length_append]; go_num, hst, hbN⟩
      case measure => simp [intOf]; omega
    · have hbn : bs.length = n + 1 := by omega
      rw [hbn]
      have hlti : ¬ ((n : Int) + 1 < (n : Int) + 1) := by omega
      have hlti2 : decide (((n + 1 : Nat) : Int) < (n : Int) + 1) = false := decide_eq_false (by omega)
      have hsq := hrow.seqs rfl
      have q := QF.out O Pb cp cb B wr (by rw [hbn] at hsq; exact hsq) p0 (CS.out.below (hb.mono (by omega)))
      unfold FirstIPost goodI at q
      have Q := Lib.hid q
      have hbe := HB0.out.trans (hb.mono (by have := HB0.out.size; omega))
      clear q hrow hsq QF CS hbn
      go_wp2_with fail
      refine Q.out.mono ?_
      rintro e w' ⟨v, b, rfl, q1, q2, hb2⟩
      have hbf := hbe.trans (hb2.mono hbe.size)
      have hbes := hbe.size
      have hfin : w'.ownsRow w.heap.size 3 1 v WL.length (WL.map (Value.int .i64)) ∧ WL.length ≤ 6 := by
        cases b with
        | true =>
          obtain ⟨x, h1, h2, h3⟩ := q1 rfl
          rw [HWX.out _ h1]
          exact ⟨h3.mono hbes, h2⟩
        | false =>
          obtain ⟨rfl, h1⟩ := q2 rfl
          rw [HWX.out _ h1]
          exact ⟨World.ownsRow_nil _ _ _ _, Nat.zero_le _⟩
      have HF := Lib.hid hfin
      clear q1 q2 hfin Q
      go_wp2_with fail
      go_ret2
      exact ⟨v, rfl, HF.out.1, HF.out.2, hbf⟩

set_option maxRecDepth 100000 in
set_option maxHeartbeats 1600000 in
theorem pWrong_any (A : Option Addr) (n c : Nat) (ss : List ByteArray) (w : World) (hL : LaidErr w) (hn : n = ss.length) (hx : Cells w A (ss.map Value.string)) :
    Calls Tryz.prog 20 #[.slice A n c] w (WrongAns ss w) := by
  by_cases hle : listErr ss = 0
  · exact Wrong_ok A n c ss w hn hle hx
  · have HL := Lib.hid hL
    have qr := readList_err A n c ss w hn hle hx
    unfold ListErrAns at qr
    have QR := Lib.hid qr
    unfold WrongAns wrongL
    rw [if_neg hle]
    generalize listErr ss = E at *
    have QE := Lib.hid (fun W h => codeOf_err E W h)
    clear hx hL hle hn qr
    go_enter Tryz.func20, Tryz.ntmps20
    go_wp2_with fail
    refine QR.out.mono ?_
    rintro e w1 ⟨rfl, hb1⟩
    have hb2 := hb1.alloc (o := .cells #[.slice none 0 0] 76) hb1.size
    go_wp2_with fail
    refine (QE.out _ (HL.out.below hb2)).mono ?_
    rintro e w3 ⟨rfl, hb4⟩
    have hb5 := hb2.trans (hb4.mono hb2.size)
    go_wp2_with fail
    go_ret2
    exact ⟨_, rfl, World.ownsRow_nil _ _ _ _, Nat.zero_le _, hb5⟩
end Go.Proofs.YtljlkhaolfihjaaGreatDoor
