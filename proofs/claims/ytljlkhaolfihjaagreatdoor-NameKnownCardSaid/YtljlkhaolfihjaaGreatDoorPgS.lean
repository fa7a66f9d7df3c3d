/- The line of a name; the shortest abbreviation. -/
import Derived.Test.YtljlkhaolfihjaaGreatDoorPgP
namespace Go.Proofs.YtljlkhaolfihjaaGreatDoor
open Go.RowKit Go.Shelf

def FoundPost (p : List UInt8 × Int) (w : World) (e : Ending) (w' : World) : Prop := ∃ s : ByteArray, s.data.toList = p.1 ∧ e = .returned (.tuple #[.string s, .int .i64 p.2]) ∧ Below w.heap.size w w'

set_option maxRecDepth 100000 in
set_option maxHeartbeats 1600000 in
theorem lineFirst_any (A A2 : Option Addr) (n c n2 c2 : Nat) (key k : ByteArray) (ns : List Nat) (os : List ByteArray) (w : World) (hn : n = ns.length) (hn12 : n ≤ 12) (hns : ∀ m, m ∈ ns → 1 ≤ m ∧ m ≤ 12) (h1 : 1 ≤ k.size) (h12 : k.size ≤ 12) (ha : Asc k)
    (hs : SeqsAt w A k ns) (hn2 : n2 = os.length) (hnb2 : n2 ≤ 1000) (ho : ∀ o, o ∈ os → o.size ≤ 1000) (hx : Cells w A2 (os.map Value.string)) :
    Calls Tryz.prog 74 #[.agg #[.string key, .slice A2 n2 c2], .slice A n c] w (FoundPost (firstG (os.map fun o => o.data.toList) (ns.map (cutsG k.data.toList))) w) := by
  have hb : Below w.heap.size w (w.alloc (.cells #[.string key, .slice A2 n2 c2] 119)) := (Below.refl _ _).alloc (Nat.le_refl _) _
  have hs2 : SeqsAt (w.alloc (.cells #[.string key, .slice A2 n2 c2] 119)) A k ns := fun i h => by
    obtain ⟨b, off, Bn, Bk, e, c1, c2, c3⟩ := hs i h
    exact ⟨b, off, Bn, Bk, e, (hb.cell (World.block_lt_of_cell? w _ c1)).trans c1, (hb.block _ (Array.getElem?_eq_some_iff.1 c2).1).trans c2, (hb.cell (p := ⟨Bk, 0, none⟩) (World.block_lt_of_cell? w _ c3)).trans c3⟩
  have Q := Lib.hid (first_any A A2 n c n2 c2 key k ns os _ hn hn12 hns h1 h12 ha hs2 hn2 hnb2 ho (hx.below hb))
  unfold goodV at Q
  clear hn hns ha hs hs2 hn2 ho hx
  generalize (os.map fun o => o.data.toList) = oss at *
  generalize hE : firstG oss (ns.map (cutsG k.data.toList)) = E at *
  have HE := Lib.hid hE
  clear hE
  go_enter Tryz.func74, Tryz.ntmps74
  go_wp2_with fail
  refine Q.out.mono ?_
  rintro e w' ⟨s, b, rfl, q0, q1, q2, hb2⟩
  have hb3 := hb.trans (hb2.mono hb.size)
  cases b with
  | true =>
    have hq := q1 rfl
    have HQ := Lib.hid hq
    clear q1 q2 hq Q
    have hbig : ¬ (9223372036854775807 < s.size + (⟨#[46]⟩ : ByteArray).size) := by
      have : (⟨#[46]⟩ : ByteArray).size = 1 := rfl
      omega
    go_wp2_with fail
    go_ret2
    refine ⟨s ++ ⟨#[46]⟩, ?_, ?_, hb3⟩
    · rw [← HE.out]; unfold firstG; rw [HQ.out]; simp
    · rw [← HE.out]; unfold firstG; rw [HQ.out]; rfl
  | false =>
    obtain ⟨rfl, hq⟩ := q2 rfl
    have HQ := Lib.hid hq
    clear q1 q2 hq Q
    go_wp2_with fail
    go_ret2
    refine ⟨⟨#[]⟩, ?_, ?_, hb3⟩
    · rw [← HE.out]; unfold firstG; rw [HQ.out]
    · rw [← HE.out]; unfold firstG; rw [HQ.out]; rfl

theorem Cells.below2 {w : World} {A : Option Addr} {xs : List Value} (h : Cells w A xs) (b : Nat) (u v : Value) (hne : ∀ a, A = some a → a.block ≠ b) : Cells ((w.setCell ⟨b, 0, none⟩ u).setCell ⟨b, 1, none⟩ v) A xs := by
  intro i hi
  obtain ⟨g, off, e, hc⟩ := h i hi
  have hn := hne _ e
  refine ⟨g, off, e, ?_⟩
  rw [World.cell?_setCell_other _ _ _ _ (fun e => hn (congrArg Addr.block e).symm), World.cell?_setCell_other _ _ _ _ (fun e => hn (congrArg Addr.block e).symm)]
  exact hc
def othersB (ss : List ByteArray) (i : Nat) : List ByteArray := (ss.map keyS).filter fun s => decide (s ≠ keyS (ss.getD i ByteArray.empty))
def LinePost (ss : List ByteArray) (i : Nat) (w : World) (e : Ending) (w' : World) : Prop :=
  ∃ (B : Option Addr) (n c : Nat), e = .returned (.tuple #[.agg #[.string (keyS (ss.getD i ByteArray.empty)), .slice B n c], .int .i64 0]) ∧ n = (othersB ss i).length ∧ Cells w' B ((othersB ss i).map Value.string) ∧ Below w.heap.size w w'
def othersTo (ss : List ByteArray) (i j : Nat) : List ByteArray := ((ss.take j).map keyS).filter fun s => decide (s ≠ keyS (ss.getD i ByteArray.empty))
theorem othersTo_step (ss : List ByteArray) (i j : Nat) (h : j < ss.length) : othersTo ss i (j + 1) = othersTo ss i j ++ (if keyS ss[j] = keyS (ss.getD i ByteArray.empty) then [] else [keyS ss[j]]) := by
  unfold othersTo
  rw [List.take_succ_eq_append_getElem h, List.map_append, List.filter_append]
  congr 1
  by_cases e : keyS ss[j] = keyS (ss.getD i ByteArray.empty)
  · rw [if_pos e]; simp [e]
  · rw [if_neg e]; simp only [List.map_cons, List.map_nil, List.filter_cons, List.filter_nil, decide_eq_true e, if_true]
theorem othersTo_len (ss : List ByteArray) (i j : Nat) : (othersTo ss i j).length ≤ ss.length := by
  unfold othersTo
  refine Nat.le_trans (List.length_filter_le _ _) ?_
  rw [List.length_map, List.length_take]; omega

set_option maxRecDepth 100000 in
set_option maxHeartbeats 3200000 in
theorem beginLine_ok (A : Option Addr) (n c i : Nat) (ss : List ByteArray) (w : World) (hn : n = ss.length) (hb : n ≤ 6) (hv : AllOk ss) (hx : Cells w A (ss.map Value.string)) (hi : i < n) :
    Calls Tryz.prog 72 #[.slice A n c, .int .i64 i] w (LinePost ss i w) := by
  obtain ⟨si, hif, hz0, hz1, hz2⟩ := info_parts infoKey
  have Q := Lib.hid (fun W h => readList_ok A n c ss W hn hb hv h)
  have HN := Lib.hid hn
  have HX := Lib.hid hx
  clear hn hv hx
  have hbV : Below w.heap.size w (w.alloc (.cells #[.string ⟨#[]⟩, .slice none 0 0] 119)) := (Below.refl _ _).alloc (Nat.le_refl _) _
  have hr := heap_alloc_new w (.cells #[.string ⟨#[]⟩, .slice none 0 0] 119)
  have hVs : (w.alloc (.cells #[.string ⟨#[]⟩, .slice none 0 0] 119)).heap.size = w.heap.size + 1 := by simp
  go_enter Tryz.func72, Tryz.ntmps72
  go_wp2_with fail
  generalize w.alloc (.cells #[.string ⟨#[]⟩, .slice none 0 0] 119) = V at *
  refine (Q.out _ (HX.out.below hbV)).mono ?_
  rintro e w1 ⟨o, rfl, ho, hb1⟩
  obtain ⟨g, cap, rfl⟩ : ∃ g cap, o = .slice (some ⟨g, 0, none⟩) ss.length cap := by
    have h0 : ss.length = (ss.length - 1) + 1 := by rw [← HN.out]; omega
    rw [h0] at ho ⊢
    exact own_head ho
  have cs := cells_own ho
  have hr1 := (hb1.block _ (by omega)).trans hr
  have hb2 := hbV.trans (hb1.mono hbV.size)
  have his : i < ss.length := by rw [← HN.out]; exact hi
  obtain ⟨b0, o0, e0, s0, s1⟩ := cs.spell i his
  cases e0
  have egd : ss.getD i ByteArray.empty = ss[i] := by rw [List.getD_eq_getElem?_getD, List.getElem?_eq_getElem his]; rfl
  rw [← egd] at s0
  have hK : ∃ K, keyS (ss.getD i ByteArray.empty) = K := ⟨_, rfl⟩
  obtain ⟨K, hK⟩ := hK
  rw [hK, Nat.zero_add] at s0
  have HK := Lib.hid hK
  have i0 : (0 : Int) ≤ (i : Int) := by omega
  have i1 : ¬ ((i : Int) < 0) := by omega
  have i2 : ¬ ((ss.length : Int) ≤ (i : Int)) := by omega
  have i3 : (i : Int) < (ss.length : Int) := by omega
  have i4 : decide (ss.length ≤ i) = false := decide_eq_false (by omega)
  have i5 : decide ((i : Int) < 0) = false := decide_eq_false (by omega)
  have HCS := Lib.hid cs
  have hsl : ss.length ≤ 6 := by rw [← HN.out]; exact hb
  clear ho hbV hr hb1 Q cs s1 egd hK
  have hP0 := heap_alloc_new w1 (.cells #[.string K, .slice none 0 0] 119)
  have hbP : Below w1.heap.size w1 (w1.alloc (.cells #[.string K, .slice none 0 0] 119)) := (Below.refl _ _).alloc (Nat.le_refl _) _
  have hPs : (w1.alloc (.cells #[.string K, .slice none 0 0] 119)).heap.size = w1.heap.size + 1 := by simp
  go_wp2_with fail
  have hwP : w.heap.size < w1.heap.size := (Array.getElem?_eq_some_iff.1 hr1).1
  generalize w1.alloc (.cells #[.string K, .slice none 0 0] 119) = W2 at *
  generalize hPb : w1.heap.size = Pb at *
  have hgb : g < Pb := by
    rw [← hPb]; exact World.block_lt_of_cell? w1 _ s0
  have hcs2 := HCS.out.below (hPb ▸ hbP : Below w1.heap.size w1 W2)
  have HCS2 := Lib.hid hcs2
  have hrW := (hbP.block _ (by omega)).trans hr1
  have HRW := Lib.hid hrW
  have hbW : Below w.heap.size w W2 := hb2.trans (hbP.mono (by omega))
  have HBW := Lib.hid hbW
  clear hcs2 hrW hbW hb2 hr1 s0
  have hP1 : W2.heap[Pb]? = some (.cells #[.string K, .slice none 0 0] 119 (0, 0)) := hP0
  clear hP0
  go_loopw [38] (fun s38 wr => ∃ (j : Nat) (v : Value), j ≤ ss.length ∧ s38 = .int .i64 j ∧ wr.heap[Pb]? = some (.cells #[.string K, v] 119 (0, 0)) ∧ wr.ownsRow W2.heap.size 82 1 v (othersTo ss i j).length ((othersTo ss i j).map Value.string) ∧ Below Pb W2 wr) (fun s38 _ => ss.length - (intOf s38).toNat)
  case atStart => exact ⟨0, _, Nat.zero_le _, rfl, hP1, World.ownsRow_nil _ _ _ _, Below.refl _ _⟩
  case round =>
    obtain ⟨j, v, hj, rfl, hPr, hown, hb⟩ := hrel
    obtain ⟨O, cp, rfl⟩ := own_form hown
    by_cases hlt : j < ss.length
    · obtain ⟨b3, o3, e3, s3, s4⟩ := HCS2.out.spell j hlt
      cases e3
      rw [Nat.zero_add] at s3 s4
      have d3 := (hb.cell (p := ⟨g, j * 2, none⟩) (by exact hgb)).trans s3
      have d4 := (hb.cell (p := ⟨g, j * 2 + 1, none⟩) (by exact hgb)).trans s4
      have hst := othersTo_step ss i j hlt
      rw [HK.out] at hst
      have hln := othersTo_len ss i j
      generalize keyS ss[j] = X at *
      generalize alphaN ss[j].data.toList = a at *
      have HST := Lib.hid hst
      have j4 : (j : Int) < (ss.length : Int) := by omega
      have j5 : (0 : Int) ≤ (j : Int) := by omega
      have hPlt := (Array.getElem?_eq_some_iff.1 hPr).1
      have hPA := (Below.heap_alloc wr (.cells #[.string X, .int .i64 a] 84) Pb hPlt).trans hPr
      have hownA := hown.alloc (.cells #[.string X, .int .i64 a] 84)
      have hbA := hb.alloc (o := .cells #[.string X, .int .i64 a] 84) (by omega)
      obtain ⟨x0, x1, x2, x3⟩ := block2_cells (heap_alloc_new wr (.cells #[.string X, .int .i64 a] 84))
      have hszA : (wr.alloc (.cells #[.string X, .int .i64 a] 84)).heap.size = wr.heap.size + 1 := by simp
      have hsw := hb.size
      obtain ⟨p0, p1, p2, p3⟩ := block2_cells hPA
      clear hst s3 s4 hPr hown hb
      by_cases hXK : X = K
      · subst hXK
        have hne : (X.toList == X.toList) = true := by simp
        have hst := HST.out
        rw [if_pos rfl, List.append_nil] at hst
        have HST2 := Lib.hid hst
        clear hst HST
        go_wp2_with fail
        exact ⟨⟨j + 1, _, by omega, by go_num, hPA, by rw [HST2.out]; exact hownA, hbA⟩, by simp [intOf]; omega⟩
      · have hne : (X.toList == K.toList) = false := by
          rw [beq_eq_false_iff_ne, ne_eq]
          exact fun e => hXK (bytes_inj e)
        have hst := HST.out
        rw [if_neg hXK] at hst
        have HST2 := Lib.hid hst
        have hone : ∀ (j : Nat) (u : Value), [Value.string X][j]? = some u → ((wr.alloc (.cells #[.string X, .int .i64 a] 84)).alloc (.cells #[.string X] 82)).cell? ((⟨wr.heap.size + 1, 0, none⟩ : Addr).add j) = some u := by
          have := cell_one_new (wr.alloc (.cells #[.string X, .int .i64 a] 84)) (.string X) 82
          rwa [World.size_alloc] at this
        have hW2s : W2.heap.size ≤ wr.heap.size := hsw
        clear hst HST
        go_wp2_with (at_builtin; refine wpList_append_own _ rfl _ _ 117 rfl W2.heap.size 82 si (.string ByteArray.empty) 1 16 Tryz.underlying117 hif hz0 hz1 hz2 rfl (by decide) _ _ _ rfl (hownA.alloc _) ⟨wr.heap.size + 1, 0, none⟩ 1 1 [.string X] rfl rfl hone (by simp [Value.oneCell']) (by unfold maxLen; omega) (by omega) (by simp; omega) ?_; intro v' wn hownN hgN _; obtain ⟨g', cap', rfl⟩ := ownsRow_succ hownN; have hbn := ((Below.refl W2.heap.size (wr.alloc (.cells #[.string X, .int .i64 a] 84))).alloc (by rw [hszA]; omega) (.cells #[.string X] 82)).grown hgN (by simp; omega) (fun j hj => (hownA.lt j hj).1); have hPn := (hbn.block Pb (by omega)).trans hPA; have hpc := block2_cells hPn; obtain ⟨n0, n1, n2, n3⟩ := hpc)
        have hsame := heap_setCell_same wn Pb 1 _ _ (.slice (some ⟨g', 0, none⟩) ((othersTo ss i j).length + 1) cap') hPn
        have hown3 := ownsRow_setCell_below hownN (a := ⟨Pb, 1, none⟩) (by show Pb < W2.heap.size; omega) (.slice (some ⟨g', 0, none⟩) ((othersTo ss i j).length + 1) cap')
        have hb3 := (hbA.trans (hbn.mono (by omega))).setCell (p := ⟨Pb, 1, none⟩) (Nat.le_refl _) (.slice (some ⟨g', 0, none⟩) ((othersTo ss i j).length + 1) cap')
        go_roundw
        case rel => exact ⟨j + 1, _, by omega, by go_num, hsame, by rw [HST2.out, List.length_append, List.map_append]; exact hown3, hb3⟩
        case measure => simp [intOf]; omega
    · have hres := (hb.block _ hwP).trans HRW.out
      have hot : othersTo ss i j = othersB ss i := by unfold othersTo othersB; rw [List.take_of_length_le (by omega)]
      rw [hot] at hPr hown
      obtain ⟨p0, p1, p2, p3⟩ := block2_cells hPr
      obtain ⟨r0, r1, r2, r3⟩ := block2_cells hres
      have hjl : ¬ ((j : Int) < (ss.length : Int)) := by omega
      have hbe := ((HBW.out.trans (hb.mono (by omega))).setCell (p := ⟨w.heap.size, 0, none⟩) (Nat.le_refl _) (.string K)).setCell (p := ⟨w.heap.size, 1, none⟩) (Nat.le_refl _) (.slice O (othersB ss i).length cp)
      have hce := Cells.below2 (cells_own hown) (w.heap.size) (.string K) (.slice O (othersB ss i).length cp) (fun a h => by have := (hown.lt a.block (by rw [h]; rfl)).1; omega)
      have z := block2_cells (block2 hres (.string K) (.slice O (othersB ss i).length cp))
      obtain ⟨z0, z1, _, _⟩ := z
      have Z0 := Lib.hid z0
      have Z1 := Lib.hid z1
      have HBE := Lib.hid hbe
      have HCE := Lib.hid hce
      clear z0 z1 hown hbe hce hb hot
      go_wp2_with fail
      have z0 := Z0.out
      have z1 := Z1.out
      exact bodyPost_ret (v := .tuple #[.agg #[.string K, .slice O (othersB ss i).length cp], .int .i64 0]) (by simp [results, Tryz.results72, go_sem, z0, z1]) rfl ⟨O, _, cp, by rw [HK.out], rfl, HCE.out, HBE.out⟩
end Go.Proofs.YtljlkhaolfihjaaGreatDoor

/- Facts on keys. -/
namespace Go.Proofs.YtljlkhaolfihjaaGreatDoor
open Go.RowKit Go.Shelf

def lettersTo (m : Nat) : List Nat := (List.range (m - 1)).map (· + 1)
theorem lettersTo_succ (m : Nat) (h : 1 ≤ m) : lettersTo (m + 1) = lettersTo m ++ [m] := by
  unfold lettersTo
  rw [show m + 1 - 1 = (m - 1) + 1 by omega, List.range_succ, List.map_append]
  simp
  omega
theorem others_list (x : ByteArray) (L : List ByteArray) : ((L.map keyS).filter fun s => decide (s ≠ keyS x)).map (fun o => o.data.toList) = (L.map fun s => Sp.key s.data.toList).filter fun k => decide (k ≠ Sp.key x.data.toList) := by
  induction L with
  | nil => rfl
  | cons a t ih =>
    have e : (keyS a = keyS x) ↔ (Sp.key a.data.toList = Sp.key x.data.toList) := by
      constructor
      · intro h
        have := congrArg (fun b : ByteArray => b.data.toList) h
        simpa [keyS] using this
      · intro h; unfold keyS; rw [h]
    simp only [List.map_cons]
    rw [List.filter_cons, List.filter_cons]
    by_cases hc : Sp.key a.data.toList = Sp.key x.data.toList
    · rw [if_neg (by simp [e.2 hc]), if_neg (by simp [hc])]
      exact ih
    · rw [if_pos (by simpa using fun h => hc (e.1 h)), if_pos (by simpa using hc), List.map_cons, ih]
      rfl
theorem latP_asc (c : UInt8) : c.toNat < 128 → ∀ b, b ∈ latP c → b.toNat < 128 := byte_all (p := fun c => c.toNat < 128 → ∀ b, b ∈ latP c → b.toNat < 128) (by decide +kernel) c
theorem latP_pos (c : UInt8) : alphaP (c.toNat : Int) ≠ 0 → 1 ≤ (latP c).length := byte_all (p := fun c => alphaP (c.toNat : Int) ≠ 0 → 1 ≤ (latP c).length) (by decide +kernel) c
theorem others_eq (ss : List ByteArray) (i : Nat) (h : i < ss.length) : (othersB ss i).map (fun o => o.data.toList) = othersK ss i := by
  unfold othersB othersK
  have e : ss.getD i ByteArray.empty = ss[i] := by rw [List.getD_eq_getElem?_getD, List.getElem?_eq_getElem h]; rfl
  rw [e, at_get ss i h]
  exact others_list ss[i] ss
theorem key_facts {s : ByteArray} (h : Sp.check s.data.toList = 0) : (1 ≤ (keyS s).size ∧ (keyS s).size ≤ 12) ∧ Asc (keyS s) := by
  have h1 := check_size h
  have hf := latP_flat h
  have hva := valid_alpha h
  have has := valid_ascii h
  have hne := alphaN_ne s.data.toList
  have h2 := keyS_size h1.2
  have hd : (keyS s).data.toList = s.data.toList.flatMap latP := by rw [hf]; rfl
  refine ⟨⟨?_, h2⟩, ?_⟩
  · have h3 : 1 ≤ (s.data.toList.flatMap latP).length := by
      cases hl : s.data.toList with
      | nil => have := size_list s; rw [hl] at this; simp at this; omega
      | cons x t =>
        have hx := hva x (by rw [hl]; simp)
        have : 1 ≤ (latP x).length := latP_pos x (by rw [hx]; omega)
        rw [List.flatMap_cons, List.length_append]
        omega
    rw [← hd] at h3
    simpa using h3
  · intro b hb
    rw [hd] at hb
    obtain ⟨c, hc, hbc⟩ := List.mem_flatMap.1 hb
    exact latP_asc c (has c hc) b hbc

theorem othersB_len (ss : List ByteArray) (i : Nat) : (othersB ss i).length ≤ ss.length := by
  unfold othersB
  refine Nat.le_trans (List.length_filter_le _ _) ?_
  rw [List.length_map]; exact Nat.le_refl _
theorem othersB_le (ss : List ByteArray) (i : Nat) (h : AllOk ss) : ∀ o, o ∈ othersB ss i → o.size ≤ 1000 := by
  intro o ho
  unfold othersB at ho
  obtain ⟨s, hs, rfl⟩ := List.mem_map.1 (List.mem_filter.1 ho).1
  have := (key_facts (h s hs)).1.2
  omega

end Go.Proofs.YtljlkhaolfihjaaGreatDoor

/- The shortest abbreviation, and what is set in a column. -/
namespace Go.Proofs.YtljlkhaolfihjaaGreatDoor
open Go.RowKit Go.Shelf

def seqV (p : Nat) : Value := .func (.func 103) #[] #[.pointer (some ⟨p + 1, 0, none⟩), .pointer (some ⟨p, 0, none⟩)]
structure SeqRow (base : Nat) (k : ByteArray) (ns bs : List Nat) (v : Value) (W : World) : Prop where
  len : bs.length = ns.length
  row : W.ownsRow base 124 1 v ns.length (bs.map seqV)
  at_ : ∀ (j : Nat) (h : j < ns.length), W.heap[bs.getD j 0]? = some (.cells #[.string k] 82 (0, 0)) ∧ W.heap[bs.getD j 0 + 1]? = some (.cells #[.int .i64 (ns[j] : Nat)] 3 (0, 0))
theorem SeqRow.seqs {base : Nat} {k : ByteArray} {ns bs : List Nat} {W : World} {A : Option Addr} {n c : Nat} (hn : n = ns.length) (h : SeqRow base k ns bs (.slice A n c) W) : SeqsAt W A k ns := by
  subst hn
  intro i hi
  have hc := cells_own h.row
  obtain ⟨b, off, e, hb⟩ := hc i (by simp [h.len]; exact hi)
  obtain ⟨a1, a2⟩ := h.at_ i hi
  have hil : i < bs.length := by rw [h.len]; exact hi
  refine ⟨b, off, bs.getD i 0 + 1, bs.getD i 0, e, ?_, a2, (cells_at a1).1⟩
  rw [hb, List.getD_eq_getElem?_getD, List.getElem?_map, List.getElem?_eq_getElem hil, List.getD_eq_getElem?_getD, List.getElem?_eq_getElem hil]
  rfl
theorem SeqRow.none (base : Nat) (k : ByteArray) (W : World) : SeqRow base k [] [] (.slice none 0 0) W := ⟨rfl, World.ownsRow_nil _ _ _ _, fun j h => by simp at h⟩
theorem SeqRow.step {base : Nat} {k : ByteArray} {ns bs : List Nat} {v v' : Value} {W wn : World} {m : Nat} (h : SeqRow base k ns bs v W)
    (hg : (((W.alloc (.cells #[.string k] 82)).alloc (.cells #[.int .i64 m] 3)).alloc (.cells #[seqV W.heap.size] 124)).grownBy wn v.ownBlock) (ho : wn.ownsRow base 124 1 v' (ns.length + 1) (bs.map seqV ++ [seqV W.heap.size])) :
    SeqRow base k (ns ++ [m]) (bs ++ [W.heap.size]) v' wn := by
  have hrow := ((h.row.alloc (.cells #[.string k] 82)).alloc (.cells #[.int .i64 m] 3)).alloc (.cells #[seqV W.heap.size] 124)
  have keep : ∀ (b : Nat) c t, t ≠ 124 → (((W.alloc (.cells #[.string k] 82)).alloc (.cells #[.int .i64 m] 3)).alloc (.cells #[seqV W.heap.size] 124)).heap[b]? = some (.cells c t (0, 0)) → wn.heap[b]? = some (.cells c t (0, 0)) := by
    intro b c t ht hb
    refine (hg.block b (Array.getElem?_eq_some_iff.1 hb).1 (fun e => ?_)).trans hb
    obtain ⟨c', hc'⟩ := own_block hrow b e.symm
    rw [hb] at hc'
    injection hc' with hc'
    injection hc' with _ h3 _
    exact ht h3
  have hb3 : Below W.heap.size W (((W.alloc (.cells #[.string k] 82)).alloc (.cells #[.int .i64 m] 3)).alloc (.cells #[seqV W.heap.size] 124)) := (((Below.refl _ W).alloc (Nat.le_refl _) _).alloc (by simp) _).alloc (by simp; omega) _
  refine ⟨by simp [h.len], by rw [List.length_append, List.map_append]; exact ho, fun j hj => ?_⟩
  by_cases hlt : j < ns.length
  · obtain ⟨a1, a2⟩ := h.at_ j hlt
    have e1 : (bs ++ [W.heap.size]).getD j 0 = bs.getD j 0 := by
      rw [List.getD_eq_getElem?_getD, List.getD_eq_getElem?_getD, List.getElem?_append_left (by rw [h.len]; exact hlt)]
    have e2 : (ns ++ [m])[j] = ns[j] := List.getElem_append_left hlt
    rw [e1, e2]
    exact ⟨keep _ _ _ (by decide) ((hb3.block _ (Array.getElem?_eq_some_iff.1 a1).1).trans a1), keep _ _ _ (by decide) ((hb3.block _ (Array.getElem?_eq_some_iff.1 a2).1).trans a2)⟩
  · have hj2 : j = ns.length := by simp at hj; omega
    subst hj2
    have e1 : (bs ++ [W.heap.size]).getD ns.length 0 = W.heap.size := by
      rw [List.getD_eq_getElem?_getD, List.getElem?_append_right (by rw [h.len]; exact Nat.le_refl _), h.len]; simp
    have e2 : (ns ++ [m])[ns.length] = m := by simp
    rw [e1, e2]
    refine ⟨keep _ _ _ (by decide) ((Below.heap_alloc _ _ _ (by simp; omega)).trans ((Below.heap_alloc _ _ _ (by simp)).trans (heap_alloc_new W _))), keep _ _ _ (by decide) ?_⟩
    refine (Below.heap_alloc _ _ _ (by simp)).trans ?_
    have := heap_alloc_new (W.alloc (.cells #[.string k] 82)) (.cells #[.int .i64 m] 3)
    rwa [World.size_alloc] at this
theorem infoSeq : (Tryz.prog.info? 124).map (fun i => (i.zero, i.size, i.bytes)) = some (some .nilFunc, 1, 8) := by kernel_rfl

set_option maxRecDepth 100000 in
set_option maxHeartbeats 3200000 in
theorem Shortest_ok (A : Option Addr) (n c i : Nat) (ss : List ByteArray) (w : World) (hn : n = ss.length) (hb : n ≤ 6) (hv : AllOk ss) (hx : Cells w A (ss.map Value.string)) (hi : i < n) :
    Calls Tryz.prog 33 #[.slice A n c, .int .i64 i] w (FoundPost (shortestG ss i) w) := by
  obtain ⟨si, hif, hz0, hz1, hz2⟩ := info_parts infoSeq
  have QB := Lib.hid (beginLine_ok A n c i ss w hn hb hv hx hi)
  have his : i < ss.length := by omega
  have hK : ∃ K, keyS (ss.getD i ByteArray.empty) = K := ⟨_, rfl⟩
  obtain ⟨K, hK⟩ := hK
  have hkf : (1 ≤ K.size ∧ K.size ≤ 12) ∧ Asc K := by
    rw [← hK, List.getD_eq_getElem?_getD, List.getElem?_eq_getElem his]
    exact key_facts (hv _ (List.getElem_mem his))
  have hol := othersB_le ss i hv
  have hon : (othersB ss i).length ≤ 1000 := by
    have := othersB_len ss i
    omega
  have hkd : Sp.key (at' ss i) = K.data.toList := by
    rw [at_get ss i his, ← hK, List.getD_eq_getElem?_getD, List.getElem?_eq_getElem his]; rfl
  have hsp : shortestG ss i = firstG ((othersB ss i).map fun o => o.data.toList) ((lettersTo K.size).map (cutsG K.data.toList)) := by
    unfold shortestG
    rw [others_eq ss i his, hkd, size_list K]
    unfold lettersTo
    rw [List.map_map]
    rfl
  obtain ⟨⟨k1, k12⟩, kA⟩ := hkf
  unfold LinePost at QB
  rw [hK] at QB
  have HSP := Lib.hid hsp
  have HOL := Lib.hid hol
  have HON := Lib.hid hon
  have HKA := Lib.hid kA
  clear hn hv hx hsp hol hon kA hK
  go_enter Tryz.func33, Tryz.ntmps33
  go_wp2_with fail
  refine QB.out.mono ?_
  rintro e w1 ⟨B, n2, c2, rfl, hn2, hcs, hb1⟩
  have hP := heap_alloc_new w1 (.cells #[.string K, .slice B n2 c2] 119)
  have hbP : Below w1.heap.size w1 (w1.alloc (.cells #[.string K, .slice B n2 c2] 119)) := (Below.refl _ _).alloc (Nat.le_refl _) _
  have hPs : (w1.alloc (.cells #[.string K, .slice B n2 c2] 119)).heap.size = w1.heap.size + 1 := by simp
  have HN2 := Lib.hid hn2
  clear QB hn2
  go_wp2_with fail
  generalize w1.alloc (.cells #[.string K, .slice B n2 c2] 119) = W0 at *
  have hcs0 := hcs.below hbP
  have hb0 := hb1.trans (hbP.mono hb1.size)
  generalize w1.heap.size = Pb at *
  have HCS := Lib.hid hcs0
  have HB0 := Lib.hid hb0
  clear hcs hcs0 hb0 hb1 hbP
  go_loopw [8, 9] (fun s8 s9 wr => ∃ (m : Nat) (bs : List Nat), 1 ≤ m ∧ m ≤ K.size ∧ s9 = .int .i64 m ∧ SeqRow W0.heap.size K (lettersTo m) bs s8 wr ∧ Below W0.heap.size W0 wr) (fun _ s9 _ => K.size - (intOf s9).toNat)
  case atStart => exact ⟨1, [], Nat.le_refl _, k1, rfl, SeqRow.none _ _ _, Below.refl _ _⟩
  case round =>
    obtain ⟨m, bs, hm1, hmK, rfl, hrow, hb⟩ := hrel
    obtain ⟨p0, p1, p2, p3⟩ := block2_cells ((hb.block Pb (by omega)).trans hP)
    obtain ⟨O, cp, rfl⟩ := own_form hrow.row
    have hsw := hb.size
    by_cases hlt : m < K.size
    · have hlti : (m : Int) < (K.size : Int) := by omega
      have hl5 : (lettersTo m).length ≤ 12 := by unfold lettersTo; simp; omega
      have hbc : Below wr.heap.size wr ((wr.alloc (.cells #[.string K] 82)).alloc (.cells #[.int .i64 m] 3)) := ((Below.refl _ wr).alloc (Nat.le_refl _) _).alloc (by simp) _
      have hrow2 := (hrow.row.alloc (.cells #[.string K] 82)).alloc (.cells #[.int .i64 m] 3)
      have HROW := Lib.hid hrow
      clear hrow
      go_wp2_with fail
      refine (cuts_any K m wr).mono ?_
      rintro e w' ⟨rfl, rfl⟩
      have hone : ∀ (j : Nat) (u : Value), [seqV wr.heap.size][j]? = some u → ((((wr.alloc (.cells #[.string K] 82)).alloc (.cells #[.int .i64 m] 3)).alloc (.cells #[seqV wr.heap.size] 124)).cell? ((⟨wr.heap.size + 2, 0, none⟩ : Addr).add j) = some u) := by
        have := cell_one_new ((wr.alloc (.cells #[.string K] 82)).alloc (.cells #[.int .i64 m] 3)) (seqV wr.heap.size) 124
        rwa [World.size_alloc, World.size_alloc] at this
      unfold seqV at hone
      go_wp2_with (at_builtin; refine wpList_append_own _ rfl _ _ 122 rfl W0.heap.size 124 si .nilFunc 1 8 Tryz.underlying122 hif hz0 hz1 hz2 rfl (by decide) _ _ _ rfl (hrow2.alloc _) ⟨wr.heap.size + 2, 0, none⟩ 1 1 [seqV wr.heap.size] rfl rfl hone (by simp [Value.oneCell', seqV]) (by unfold maxLen; omega) (by omega) (by simp; omega) ?_; intro v' wn hownN hgN _)
      have hbN := (((hb.trans (hbc.mono (by omega))).alloc (by simp; omega) (.cells #[seqV wr.heap.size] 124)).grown hgN (by simp; omega) (fun j hj => (hrow2.lt j hj).1))
      exact ⟨⟨m + 1, bs ++ [wr.heap.size], by omega, by omega, rfl, by rw [lettersTo_succ m hm1]; exact HROW.out.step hgN (by simpa using hownN), hbN⟩, by simp [intOf]; omega⟩
    · have hmk : m = K.size := by omega
      subst hmk
      have hlti : ¬ ((K.size : Int) < (K.size : Int)) := by omega
      have hl5 : (lettersTo K.size).length ≤ 12 := by unfold lettersTo; simp; omega
      have q := lineFirst_any O B (lettersTo K.size).length cp n2 c2 K K (lettersTo K.size) (othersB ss i) wr rfl hl5 (fun x hx => by
        unfold lettersTo at hx
        obtain ⟨y, hy, rfl⟩ := List.mem_map.1 hx
        have := List.mem_range.1 hy
        omega) k1 k12 HKA.out (hrow.seqs rfl) HN2.out (by rw [HN2.out]; exact HON.out) HOL.out (HCS.out.below (hb.mono (Nat.le_refl _)))
      have Q := Lib.hid q
      have hbe := HB0.out.trans (hb.mono (by have := HB0.out.size; omega))
      clear q hrow
      go_wp2_with fail
      refine Q.out.mono ?_
      rintro e w' ⟨s, hs, rfl, hb2⟩
      have hbf := hbe.trans (hb2.mono hbe.size)
      go_wp2_with fail
      go_ret2
      exact ⟨s, by rw [HSP.out, hs], by rw [HSP.out]; rfl, hbf⟩
end Go.Proofs.YtljlkhaolfihjaaGreatDoor

/- What is set in a column. -/
namespace Go.Proofs.YtljlkhaolfihjaaGreatDoor
open Go.RowKit Go.Shelf

def downTo (wd m : Nat) : List Nat := (List.range (wd - 1 - m)).map fun j => wd - 1 - j
theorem downTo_start (wd : Nat) : downTo wd (wd - 1) = [] := by unfold downTo; simp
theorem downTo_step (wd m : Nat) (h : 1 ≤ m) (h2 : m + 1 ≤ wd) : downTo wd (m - 1) = downTo wd m ++ [m] := by
  unfold downTo
  rw [show wd - 1 - (m - 1) = (wd - 1 - m) + 1 by omega, List.range_succ, List.map_append]
  simp
  omega

set_option maxRecDepth 100000 in
set_option maxHeartbeats 3200000 in
theorem Fit_ok (A : Option Addr) (n c i wd : Nat) (ss : List ByteArray) (w : World) (hn : n = ss.length) (hb : n ≤ 6) (hv : AllOk ss) (hx : Cells w A (ss.map Value.string)) (hi : i < n) (hw1 : 1 ≤ wd) (hw2 : wd < (keyS (ss.getD i ByteArray.empty)).size) :
    Calls Tryz.prog 34 #[.slice A n c, .int .i64 i, .int .i64 wd] w (FoundPost (fitG ss i wd) w) := by
  obtain ⟨si, hif, hz0, hz1, hz2⟩ := info_parts infoSeq
  have QB := Lib.hid (beginLine_ok A n c i ss w hn hb hv hx hi)
  have his : i < ss.length := by omega
  have hK : ∃ K, keyS (ss.getD i ByteArray.empty) = K := ⟨_, rfl⟩
  obtain ⟨K, hK⟩ := hK
  have hkf : (1 ≤ K.size ∧ K.size ≤ 12) ∧ Asc K := by
    rw [← hK, List.getD_eq_getElem?_getD, List.getElem?_eq_getElem his]
    exact key_facts (hv _ (List.getElem_mem his))
  have hol := othersB_le ss i hv
  have hon : (othersB ss i).length ≤ 1000 := by
    have := othersB_len ss i
    omega
  have hkd : Sp.key (at' ss i) = K.data.toList := by
    rw [at_get ss i his, ← hK, List.getD_eq_getElem?_getD, List.getElem?_eq_getElem his]; rfl
  rw [hK] at hw2
  have hsp : fitG ss i wd = firstG ((othersB ss i).map fun o => o.data.toList) ((downTo wd 0).map (cutsG K.data.toList)) := by
    unfold fitG
    rw [others_eq ss i his, hkd, size_list K, if_neg (by omega)]
    unfold downTo
    rw [List.map_map]
    rfl
  have w1 : ¬ ((wd : Int) < 1) := by omega
  have w3 : decide ((wd : Int) < 1) = false := decide_eq_false (by omega)
  have w4 : decide (K.size ≤ wd) = false := decide_eq_false (by omega)
  have w2 : ¬ ((K.size : Int) ≤ (wd : Int)) := by omega
  obtain ⟨⟨k1, k12⟩, kA⟩ := hkf
  unfold LinePost at QB
  rw [hK] at QB
  have HSP := Lib.hid hsp
  have HOL := Lib.hid hol
  have HON := Lib.hid hon
  have HKA := Lib.hid kA
  clear hn hv hx hsp hol hon kA hK
  go_enter Tryz.func34, Tryz.ntmps34
  go_wp2_with fail
  refine QB.out.mono ?_
  rintro e w1 ⟨B, n2, c2, rfl, hn2, hcs, hb1⟩
  have hP := heap_alloc_new w1 (.cells #[.string K, .slice B n2 c2] 119)
  have hbP : Below w1.heap.size w1 (w1.alloc (.cells #[.string K, .slice B n2 c2] 119)) := (Below.refl _ _).alloc (Nat.le_refl _) _
  have hPs : (w1.alloc (.cells #[.string K, .slice B n2 c2] 119)).heap.size = w1.heap.size + 1 := by simp
  have HN2 := Lib.hid hn2
  clear QB hn2
  go_wp2_with fail
  generalize w1.alloc (.cells #[.string K, .slice B n2 c2] 119) = W0 at *
  have hcs0 := hcs.below hbP
  have hb0 := hb1.trans (hbP.mono hb1.size)
  generalize w1.heap.size = Pb at *
  have HCS := Lib.hid hcs0
  have HB0 := Lib.hid hb0
  clear hcs hcs0 hb0 hb1 hbP
  go_loopw [10, 11] (fun s8 s9 wr => ∃ (m : Nat) (bs : List Nat), m + 1 ≤ wd ∧ s9 = .int .i64 m ∧ SeqRow W0.heap.size K (downTo wd m) bs s8 wr ∧ Below W0.heap.size W0 wr) (fun _ s9 _ => (intOf s9).toNat)
  case atStart => exact ⟨wd - 1, [], by omega, by go_num, by rw [downTo_start]; exact SeqRow.none _ _ _, Below.refl _ _⟩
  case round =>
    obtain ⟨m, bs, hm1, rfl, hrow, hb⟩ := hrel
    obtain ⟨p0, p1, p2, p3⟩ := block2_cells ((hb.block Pb (by omega)).trans hP)
    obtain ⟨O, cp, rfl⟩ := own_form hrow.row
    have hsw := hb.size
    by_cases hlt : 1 ≤ m
    · have hlti : (1 : Int) ≤ (m : Int) := by omega
      have hl5 : (downTo wd m).length ≤ 12 := by unfold downTo; simp; omega
      have hbc : Below wr.heap.size wr ((wr.alloc (.cells #[.string K] 82)).alloc (.cells #[.int .i64 m] 3)) := ((Below.refl _ wr).alloc (Nat.le_refl _) _).alloc (by simp) _
      have hrow2 := (hrow.row.alloc (.cells #[.string K] 82)).alloc (.cells #[.int .i64 m] 3)
      have HROW := Lib.hid hrow
      clear hrow
      go_wp2_with fail
      refine (cuts_any K m wr).mono ?_
      rintro e w' ⟨rfl, rfl⟩
      have hone : ∀ (j : Nat) (u : Value), [seqV wr.heap.size][j]? = some u → ((((wr.alloc (.cells #[.string K] 82)).alloc (.cells #[.int .i64 m] 3)).alloc (.cells #[seqV wr.heap.size] 124)).cell? ((⟨wr.heap.size + 2, 0, none⟩ : Addr).add j) = some u) := by
        have := cell_one_new ((wr.alloc (.cells #[.string K] 82)).alloc (.cells #[.int .i64 m] 3)) (seqV wr.heap.size) 124
        rwa [World.size_alloc, World.size_alloc] at this
      unfold seqV at hone
      go_wp2_with (at_builtin; refine wpList_append_own _ rfl _ _ 122 rfl W0.heap.size 124 si .nilFunc 1 8 Tryz.underlying122 hif hz0 hz1 hz2 rfl (by decide) _ _ _ rfl (hrow2.alloc _) ⟨wr.heap.size + 2, 0, none⟩ 1 1 [seqV wr.heap.size] rfl rfl hone (by simp [Value.oneCell', seqV]) (by unfold maxLen; omega) (by omega) (by simp; omega) ?_; intro v' wn hownN hgN _)
      have hbN := (((hb.trans (hbc.mono (by omega))).alloc (by simp; omega) (.cells #[seqV wr.heap.size] 124)).grown hgN (by simp; omega) (fun j hj => (hrow2.lt j hj).1))
      exact ⟨⟨m - 1, bs ++ [wr.heap.size], by omega, by go_num, by rw [downTo_step wd m hlt hm1]; exact HROW.out.step hgN (by simpa using hownN), hbN⟩, by simp [intOf]; omega⟩
    · have hmk : m = 0 := by omega
      subst hmk
      have hlti : ¬ ((1 : Int) ≤ ((0 : Nat) : Int)) := by omega
      have hl5 : (downTo wd 0).length ≤ 12 := by unfold downTo; simp; omega
      have q := lineFirst_any O B (downTo wd 0).length cp n2 c2 K K (downTo wd 0) (othersB ss i) wr rfl hl5 (fun x hx => by
        unfold downTo at hx
        obtain ⟨y, hy, rfl⟩ := List.mem_map.1 hx
        have := List.mem_range.1 hy
        omega) k1 k12 HKA.out (hrow.seqs rfl) HN2.out (by rw [HN2.out]; exact HON.out) HOL.out (HCS.out.below (hb.mono (Nat.le_refl _)))
      have Q := Lib.hid q
      have hbe := HB0.out.trans (hb.mono (by have := HB0.out.size; omega))
      clear q hrow
      go_wp2_with fail
      refine Q.out.mono ?_
      rintro e w' ⟨s, hs, rfl, hb2⟩
      have hbf := hbe.trans (hb2.mono hbe.size)
      go_wp2_with fail
      go_ret2
      exact ⟨s, by rw [HSP.out, hs], by rw [HSP.out]; rfl, hbf⟩
end Go.Proofs.YtljlkhaolfihjaaGreatDoor
