/- The line of a name; the shortest abbreviation. -/
import Derived.Test.YtapagncaadjiaaaGreatDoorPgP
namespace Go.Proofs.YtapagncaadjiaaaGreatDoor
open Go.RowKit Go.Shelf

def FoundPost (p : List UInt8 × Int) (w : World) (e : Ending) (w' : World) : Prop := ∃ s : ByteArray, s.data.toList = p.1 ∧ e = .returned (.tuple #[.string s, .int .i64 p.2]) ∧ Below w.heap.size w w'

set_option maxRecDepth 100000 in
set_option maxHeartbeats 1600000 in
theorem lineFirst_any (A A2 : Option Addr) (n c n2 c2 : Nat) (key k : ByteArray) (ns : List Nat) (os : List ByteArray) (w : World) (hn : n = ns.length) (hn12 : n ≤ 12) (hns : ∀ m, m ∈ ns → 1 ≤ m ∧ m ≤ 12) (h1 : 1 ≤ k.size) (h12 : k.size ≤ 12) (ha : Asc k)
    (hs : SeqsAt w A k ns) (hn2 : n2 = os.length) (hnb2 : n2 ≤ 1000) (ho : ∀ o, o ∈ os → o.size ≤ 1000) (hx : Cells w A2 (os.map Value.string)) :
    Calls Tryz.prog 109 #[.agg #[.string key, .slice A2 n2 c2], .slice A n c] w (FoundPost (firstG (os.map fun o => o.data.toList) (ns.map (cutsG k.data.toList))) w) := by
  have hb : Below w.heap.size w (w.alloc (.cells #[.string key, .slice A2 n2 c2] 141)) := (Below.refl _ _).alloc (Nat.le_refl _) _
  have hs2 : SeqsAt (w.alloc (.cells #[.string key, .slice A2 n2 c2] 141)) A k ns := fun i h => by
    obtain ⟨b, off, Bn, Bk, e, c1, c2, c3⟩ := hs i h
    exact ⟨b, off, Bn, Bk, e, (hb.cell (World.block_lt_of_cell? w _ c1)).trans c1, (hb.block _ (Array.getElem?_eq_some_iff.1 c2).1).trans c2, (hb.cell (p := ⟨Bk, 0, none⟩) (World.block_lt_of_cell? w _ c3)).trans c3⟩
  have Q := Lib.hid (first_any A A2 n c n2 c2 key k ns os _ hn hn12 hns h1 h12 ha hs2 hn2 hnb2 ho (hx.below hb))
  unfold goodV at Q
  clear hn hns ha hs hs2 hn2 ho hx
  generalize (os.map fun o => o.data.toList) = oss at *
  generalize hE : firstG oss (ns.map (cutsG k.data.toList)) = E at *
  have HE := Lib.hid hE
  clear hE
  go_enter Tryz.func109, Tryz.ntmps109
  go_wp2_with fail
  refine Q.out.mono ?_
  rintro e w' ⟨s, b, rfl, q0, q1, q2, hb2⟩
  have hb3 := hb.trans (hb2.mono hb.size)
  cases b with
  | true =>
    have hq := q1 rfl
    have HQ := Lib.hid hq
    clear q1 q2 hq Q
    have hbig : ¬ (9223372036854775807 < s.size + (⟨#[46]⟩ : ByteArray).size) := by
      have : (⟨#[46]⟩ : ByteArray).size = 1 := rfl
      omega
    go_wp2_with fail
    go_ret2
    refine ⟨s ++ ⟨#[46]⟩, ?_, ?_, hb3⟩
    · rw [← HE.out]; unfold firstG; rw [HQ.out]; simp
    · rw [← HE.out]; unfold firstG; rw [HQ.out]; rfl
  | false =>
    obtain ⟨rfl, hq⟩ := q2 rfl
    have HQ := Lib.hid hq
    clear q1 q2 hq Q
    go_wp2_with fail
    go_ret2
    refine ⟨⟨#[]⟩, ?_, ?_, hb3⟩
    · rw [← HE.out]; unfold firstG; rw [HQ.out]
    · rw [← HE.out]; unfold firstG; rw [HQ.out]; rfl

theorem Cells.below2 {w : World} {A : Option Addr} {xs : List Value} (h : Cells w A xs) (b : Nat) (u v : Value) (hne : ∀ a, A = some a → a.block ≠ b) : Cells ((w.setCell ⟨b, 0, none⟩ u).setCell ⟨b, 1, none⟩ v) A xs := by
  intro i hi
  obtain ⟨g, off, e, hc⟩ := h i hi
  have hn := hne _ e
  refine ⟨g, off, e, ?_⟩
  rw [World.cell?_setCell_other _ _ _ _ (fun e => hn (congrArg Addr.block e).symm), World.cell?_setCell_other _ _ _ _ (fun e => hn (congrArg Addr.block e).symm)]
  exact hc
def othersB (ss : List ByteArray) (i : Nat) : List ByteArray := (ss.map keyS).filter fun s => decide (s ≠ keyS (ss.getD i ByteArray.empty))
def LinePost (ss : List ByteArray) (i : Nat) (w : World) (e : Ending) (w' : World) : Prop :=
  ∃ (B : Option Addr) (n c : Nat), e = .returned (.tuple #[.agg #[.string (keyS (ss.getD i ByteArray.empty)), .slice B n c], .int .i64 0]) ∧ n = (othersB ss i).length ∧ Cells w' B ((othersB ss i).map Value.string) ∧ Below w.heap.size w w'
def othersTo (ss : List ByteArray) (i j : Nat) : List ByteArray := ((ss.take j).map keyS).filter fun s => decide (s ≠ keyS (ss.getD i ByteArray.empty))
theorem othersTo_step (ss : List ByteArray) (i j : Nat) (h : j < ss.length) : othersTo ss i (j + 1) = othersTo ss i j ++ (if keyS ss[j] = keyS (ss.getD i ByteArray.empty) then [] else [keyS ss[j]]) := by
  unfold othersTo
  rw [List.take_succ_eq_append_getElem h, List.map_append, List.filter_append]
  congr 1
  by_cases e : keyS ss[j] = keyS (ss.getD i ByteArray.empty)
  · rw [if_pos e]; simp [e]
  · rw [if_neg e]; simp only [List.map_cons, List.map_nil, List.filter_cons, List.filter_nil, decide_eq_true e, if_true]
theorem othersTo_len (ss : List ByteArray) (i j : Nat) : (othersTo ss i j).length ≤ ss.length := by
  unfold othersTo
  refine Nat.le_trans (List.length_filter_le _ _) ?_
  rw [List.length_map, List.length_take]; omega

set_option maxRecDepth 100000 in
set_option maxHeartbeats 3200000 in
theorem beginLine_ok (A : Option Addr) (n c i : Nat) (ss : List ByteArray) (w : World) (hn : n = ss.length) (hb : n ≤ 6) (hv : AllOk ss) (hx : Cells w A (ss.map Value.string)) (hi : i < n) :
    Calls Tryz.prog 107 #[.slice A n c, .int .i64 i] w (LinePost ss i w) := by
  obtain ⟨si, hif, hz0, hz1, hz2⟩ := info_parts infoKey
  have Q := Lib.hid (fun W h => readList_ok A n c ss W hn hb hv h)
  have HN := Lib.hid hn
  have HX := Lib.hid hx
  clear hn hv hx
  have hbV : Below w.heap.size w (w.alloc (.cells #[.string ⟨#[]⟩, .slice none 0 0] 141)) := (Below.refl _ _).alloc (Nat.le_refl _) _
  have hr := heap_alloc_new w (.cells #[.string ⟨#[]⟩, .slice none 0 0] 141)
  have hVs : (w.alloc (.cells #[.string ⟨#[]⟩, .slice none 0 0] 141)).heap.size = w.heap.size + 1 := by simp
  go_enter Tryz.func107, Tryz.ntmps107
  go_wp2_with fail
  generalize w.alloc (.cells #[.string ⟨#[]⟩, .slice none 0 0] 141) = V at *
  refine (Q.out _ (HX.out.below hbV)).mono ?_
  rintro e w1 ⟨o, rfl, ho, hb1⟩
  obtain ⟨g, cap, rfl⟩ : ∃ g cap, o = .slice (some ⟨g, 0, none⟩) ss.length cap := by
    have h0 : ss.length = (ss.length - 1) + 1 := by rw [← HN.out]; omega
    rw [h0] at ho ⊢
    exact own_head ho
  have cs := cells_own ho
  have hr1 := (hb1.block _ (by omega)).trans hr
  have hb2 := hbV.trans (hb1.mono hbV.size)
  have his : i < ss.length := by rw [← HN.out]; exact hi
  obtain ⟨b0, o0, e0, s0, s1⟩ := cs.spell i his
  cases e0
  have egd : ss.getD i ByteArray.empty = ss[i] := by rw [List.getD_eq_getElem?_getD, List.getElem?_eq_getElem his]; rfl
  rw [← egd] at s0
  have hK : ∃ K, keyS (ss.getD i ByteArray.empty) = K := ⟨_, rfl⟩
  obtain ⟨K, hK⟩ := hK
  rw [hK, Nat.zero_add] at s0
  have HK := Lib.hid hK
  have i0 : (0 : Int) ≤ (i : Int) := by omega
  have i1 : ¬ ((i : Int) < 0) := by omega
  have i2 : ¬ ((ss.length : Int) ≤ (i : Int)) := by omega
  have i3 : (i : Int) < (ss.length : Int) := by omega
  have i4 : decide (ss.length ≤ i) = false := decide_eq_false (by omega)
  have i5 : decide ((i : Int) < 0) = false := decide_eq_false (by omega)
  have HCS := Lib.hid cs
  have hsl : ss.length ≤ 6 := by rw [← HN.out]; exact hb
  clear ho hbV hr hb1 Q cs s1 egd hK
  have hP0 := heap_alloc_new w1 (.cells #[.string K, .slice none 0 0] 141)
  have hbP : Below w1.heap.size w1 (w1.alloc (.cells #[.string K, .slice none 0 0] 141)) := (Below.refl _ _).alloc (Nat.le_refl _) _
  have hPs : (w1.alloc (.cells #[.string K, .slice none 0 0] 141)).heap.size = w1.heap.size + 1 := by simp
  go_wp2_with fail
  have hwP : w.heap.size < w1.heap.size := (Array.getElem?_eq_some_iff.1 hr1).1
  generalize w1.alloc (.cells #[.string K, .slice none 0 0] 141) = W2 at *
  generalize hPb : w1.heap.size = Pb at *
  have hgb : g < Pb := by
    rw [← hPb]; exact World.block_lt_of_cell? w1 _ s0
  have hcs2 := HCS.out.below (hPb ▸ hbP : Below w1.heap.size w1 W2)
  have HCS2 := Lib.hid hcs2
  have hrW := (hbP.block _ (by omega)).trans hr1
  have HRW := Lib.hid hrW
  have hbW : Below w.heap.size w W2 := hb2.trans (hbP.mono (by omega))
  have HBW := Lib.hid hbW
  clear hcs2 hrW hbW hb2 hr1 s0
  have hP1 : W2.heap[Pb]? = some (.cells #[.string K, .slice none 0 0] 141 (0, 0)) := hP0
  clear hP0
  go_loopw [38] (fun s38 wr => ∃ (j : Nat) (v : Value), j ≤ ss.length ∧ s38 = .int .i64 j ∧ wr.heap[Pb]? = some (.cells #[.string K, v] 141 (0, 0)) ∧ wr.ownsRow W2.heap.size 86 1 v (othersTo ss i j).length ((othersTo ss i j).map Value.string) ∧ Below Pb W2 wr) (fun s38 _ => ss.length - (intOf s38).toNat)
  case atStart => exact ⟨0, _, Nat.zero_le _, rfl, hP1, World.ownsRow_nil _ _ _ _, Below.refl _ _⟩
  case round =>
    obtain ⟨j, v, hj, rfl, hPr, hown, hb⟩ := hrel
    obtain ⟨O, cp, rfl⟩ := own_form hown
    by_cases hlt : j < ss.length
    · obtain ⟨b3, o3, e3, s3, s4⟩ := HCS2.out.spell j hlt
      cases e3
      rw [Nat.zero_add] at s3 s4
      have d3 := (hb.cell (p := ⟨g, j * 2, none⟩) (by exact hgb)).trans s3
      have d4 := (hb.cell (p := ⟨g, j * 2 + 1, none⟩) (by exact hgb)).trans s4
      have hst := othersTo_step ss i j hlt
      rw [HK.out] at hst
      have hln := othersTo_len ss i j
      generalize keyS ss[j] = X at *
      generalize alphaN ss[j].data.toList = a at *
      have HST := Lib.hid hst
      have j4 : (j : Int) < (ss.length : Int) := by omega
      have j5 : (0 : Int) ≤ (j : Int) := by omega
      have hPlt := (Array.getElem?_eq_some_iff.1 hPr).1
      have hPA := (Below.heap_alloc wr (.cells #[.string X, .int .i64 a] 88) Pb hPlt).trans hPr
      have hownA := hown.alloc (.cells #[.string X, .int .i64 a] 88)
      have hbA := hb.alloc (o := .cells #[.string X, .int .i64 a] 88) (by omega)
      obtain ⟨x0, x1, x2, x3⟩ := block2_cells (heap_alloc_new wr (.cells #[.string X, .int .i64 a] 88))
      have hszA : (wr.alloc (.cells #[.string X, .int .i64 a] 88)).heap.size = wr.heap.size + 1 := by simp
      have hsw := hb.size
      obtain ⟨p0, p1, p2, p3⟩ := block2_cells hPA
      clear hst s3 s4 hPr hown hb
      by_cases hXK : X = K
      · subst hXK
        have hne : (X.toList == X.toList) = true := by simp
        have hst := HST.out
        rw [if_pos rfl, List.append_nil] at hst
        have HST2 := Lib.hid hst
        clear hst HST
        go_wp2_with fail
        exact ⟨⟨j + 1, _, by omega, by go_num, hPA, by rw [HST2.out]; exact hownA, hbA⟩, by simp [intOf]; omega⟩
      · have hne : (X.toList == K.toList) = false := by
          rw [beq_eq_false_iff_ne, ne_eq]
          exact fun e => hXK (bytes_inj e)
        have hst := HST.out
        rw [if_neg hXK] at hst
        have HST2 := Lib.hid hst
        have hone : ∀ (j : Nat) (u : Value), [Value.string X][j]? = some u → ((wr.alloc (.cells #[.string X, .int .i64 a] 88)).alloc (.cells #[.string X] 86)).cell? ((⟨wr.heap.size + 1, 0, none⟩ : Addr).add j) = some u := by
          have := cell_one_new (wr.alloc (.cells #[.string X, .int .i64 a] 88)) (.string X) 86
          rwa [World.size_alloc] at this
        have hW2s : W2.heap.size ≤ wr.heap.size := hsw
        clear hst HST
        go_wp2_with (at_builtin; refine wpList_append_own _ rfl _ _ 139 rfl W2.heap.size 86 si (.string ByteArray.empty) 1 16 Tryz.underlying139 hif hz0 hz1 hz2 rfl (by decide) _ _ _ rfl (hownA.alloc _) ⟨wr.heap.size + 1, 0, none⟩ 1 1 [.string X] rfl rfl hone (by simp [Value.oneCell']) (by unfold maxLen; omega) (by omega) (by simp; omega) ?_; intro v' wn hownN hgN _; obtain ⟨g', cap', rfl⟩ := ownsRow_succ hownN; have hbn := ((Below.refl W2.heap.size (wr.alloc (.cells #[.string X, .int .i64 a] 88))).alloc (by rw [hszA]; omega) (.cells #[.string X] 86)).grown hgN (by simp; omega) (fun j hj => (hownA.lt j hj).1); have hPn := (hbn.block Pb (by omega)).trans hPA; have hpc := block2_cells hPn; obtain ⟨n0, n1, n2, n3⟩ := hpc)
        have hsame := heap_setCell_same wn Pb 1 _ _ (.slice (some ⟨g', 0, none⟩) ((othersTo ss i j).length + 1) cap') hPn
        have hown3 := ownsRow_setCell_below hownN (a := ⟨Pb, 1, none⟩) (by show Pb < W2.heap.size; omega) (.slice (some ⟨g', 0, none⟩) ((othersTo ss i j).length + 1) cap')
        have hb3 := (hbA.trans (hbn.mono (by omega))).setCell (p := ⟨Pb, 1, none⟩) (Nat.le_refl _) (.slice (some ⟨g', 0, none⟩) ((othersTo ss i j).length + 1) cap')
        go_roundw
        case rel => exact ⟨j + 1, _, by omega, by go_num, hsame, by rw [HST2.out, List.length_append, List.map_append]; exact hown3, hb3⟩
        case measure => simp [intOf]; omega
    · have hres := (hb.block _ hwP).trans HRW.out
      have hot : othersTo ss i j = othersB ss i := by unfold othersTo othersB; rw [List.take_of_length_le (by omega)]
      rw [hot] at hPr hown
      obtain ⟨p0, p1, p2, p3⟩ := block2_cells hPr
      obtain ⟨r0, r1, r2, r3⟩ := block2_cells hres
      have hjl : ¬ ((j : Int) < (ss.length : Int)) := by omega
      have hbe := ((HBW.out.trans (hb.mono (by omega))).setCell (p := ⟨w.heap.size, 0, none⟩) (Nat.le_refl _) (.string K)).setCell (p := ⟨w.heap.size, 1, none⟩) (Nat.le_refl _) (.slice O (othersB ss i).length cp)
      have hce := Cells.below2 (cells_own hown) (w.heap.size) (.string K) (.slice O (othersB ss i).length cp) (fun a h => by have := (hown.lt a.block (by rw [h]; rfl)).1; omega)
      have z := block2_cells (block2 hres (.string K) (.slice O (othersB ss i).length cp))
      obtain ⟨z0, z1, _, _⟩ := z
      have Z0 := Lib.hid z0
      have Z1 := Lib.hid z1
      have HBE := Lib.hid hbe
      have HCE := Lib.hid hce
      clear z0 z1 hown hbe hce hb hot
      go_wp2_with fail
      have z0 := Z0.out
      have z1 := Z1.out
      exact bodyPost_ret (v := .tuple #[.agg #[.string K, .slice O (othersB ss i).length cp], .int .i64 0]) (by simp [results, Tryz.results107, go_sem, z0, z1]) rfl ⟨O, _, cp, by rw [HK.out], rfl, HCE.out, HBE.out⟩
end Go.Proofs.YtapagncaadjiaaaGreatDoor
