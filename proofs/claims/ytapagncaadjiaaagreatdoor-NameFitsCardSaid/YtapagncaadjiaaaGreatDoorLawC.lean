/- Lists of strings in a law's hands; abbreviations that fit: the walk of the fifth statement. -/
import Derived.Test.YtapagncaadjiaaaGreatDoorLawC0
import Derived.Test.YtapagncaadjiaaaGreatDoorPzD
namespace Go.Proofs.YtapagncaadjiaaaGreatDoor
open Go.RowKit

set_option maxRecDepth 100000 in
set_option maxHeartbeats 3200000 in
theorem NameFits_any (A : Option Addr) (n c : Nat) (ss : List ByteArray) (at_ width : Int) (B : Option Addr) (m d : Nat) (w : World) (hL : LaidErr w) (hn : n = ss.length) (nb : n ≤ 1000000000000000000) (h0 : A = none → c = 0)
    (hx : Cells w A (ss.map Value.string)) (hm : m ≤ 1000000000000000000) (hy : NumsIn w B m) :
    Calls Tryz.prog 7 #[.slice A n c, .int .i64 at_, .int .i64 width, .slice B m d] w (TruePost w) := by
  obtain ⟨si, hi, hz0, hz1, hz2⟩ := info_parts infoStr
  have q1 := long_any none A 0 0 n c [] ss w rfl hn (by decide) nb (fun r h => by cases h) (fun i h => by cases h) hx
  have Q1 := Lib.hid q1
  have HLE := Lib.hid hL
  clear hL
  have HY := Lib.hid hy
  cases e1 : longB [] ss with
  | true =>
    clear q1 hx hy hn
    go_enter Tryz.func7, Tryz.ntmps7
    go_wp2_with fail
    refine Q1.out.mono ?_
    rintro e w1 ⟨rfl, hd⟩
    rw [e1]
    have b2 := Drew.below hd w.heap.size
    clear e1 hd
    go_wp2_with fail
    refine (spelling_at _ b2).mono ?_
    rintro e w2 ⟨rfl, hb⟩
    go_wp2
    go_ret
    exact ⟨rfl, hb⟩
  | false =>
    obtain ⟨n20, s20⟩ := long_list e1
    have sl : StrList w (.slice A n c) ss := ⟨A, n, c, rfl, hn, by omega, h0, hx⟩
    have SL := Lib.hid sl
    clear q1 hx hy hn sl s20 h0
    go_enter Tryz.func7, Tryz.ntmps7
    go_wp2_with fail
    refine Q1.out.mono ?_
    rintro e w1 ⟨rfl, hd⟩
    rw [e1]
    have b2 := Drew.below hd w.heap.size
    clear e1 hd Q1
    go_wp2_with fail
    refine (NewDice_any B m d _ hm (HY.out.below b2)).mono ?_
    rintro e w2 ⟨rfl, hd2, hb2⟩
    have b3 := b2.trans (hb2.mono b2.size)
    have hD : w.heap.size ≤ w1.heap.size := b2.size
    have hD2 := hd2.lt
    generalize w1.heap.size = D at *
    clear b2 hb2
    go_wp2_with fail
    refine (NamesOf_any D _ 5 6 _ hd2 (by decide) (by decide) (by decide) (by decide)).mono ?_
    rintro e w3 ⟨o, sa, rfl, hl3, ho3, hlike3, hd3, hg3⟩
    have b4 := b3.grown hg3 b3.size fun k hk => by cases hk; exact hD
    obtain ⟨O, capo, rfl⟩ := own_form ho3
    go_wp2_with fail
    refine (NameOf_any D _ 6 _ hd3 (by decide) (by decide)).mono ?_
    rintro e w4 ⟨s4, rfl, hs4, hs4', hl4, hd4, hg4⟩
    have b5 := b4.grown hg4 b4.size fun k hk => by cases hk; exact hD
    have ho4 := own_kept ho3 hg4 hD2
    have hg24 := grownBy_trans hg3 hg4
    have hws : w2.heap.size ≤ w4.heap.size := hg24.size
    clear hl4 hd3 hg4 hg3 b4 ho3 hlike3
    go_wp2_with (at_builtin; refine wpList_append_own _ rfl _ _ 28 rfl w2.heap.size 9 si (.string ByteArray.empty) 1 16 Tryz.underlying28 hi hz0 hz1 hz2 rfl (by decide) _ _ _ rfl (ho4.alloc _) ⟨w4.heap.size, 0, none⟩ 1 1 [.string s4] rfl rfl (cell_one_new _ _ _) (by simp [Value.oneCell']) (by unfold maxLen; omega) (by omega) (by simp; omega) ?_; intro v' w5 ho5 hg5 _; obtain ⟨O5, cap5, rfl⟩ := own_form ho5)
    obtain ⟨hd5, hg25⟩ := own_append2 (w := w2) (wl := w4) (ho4.alloc _) hD2 hg24 hd4 ((Below.refl _ _).alloc (Nat.le_refl _) _) hg5
    have b6 := b3.grown hg25 b3.size fun k hk => by cases hk; exact hD
    have hws5 : w2.heap.size ≤ w5.heap.size := hg25.size
    have e6 : (sa.map Value.string ++ [Value.string s4]) = (sa ++ [s4]).map Value.string := by simp
    rw [e6] at ho5
    have l6 : sa.length + 1 = (sa ++ [s4]).length := by simp
    have n6 : sa.length + 1 ≤ 1000 := by omega
    have hsl : (sa.length : Int) ≤ 1000 := by omega
    have rl := own_lit w5 w2.heap.size #[Value.slice A n c, Value.slice O5 (sa.length + 1) cap5, Value.slice O5 (sa.length + 1) cap5, Value.slice O5 (sa.length + 1) cap5] 28 4 hws5 rfl (by decide)
    have b7 := b6.alloc (o := .cells #[Value.slice A n c, Value.slice O5 (sa.length + 1) cap5, Value.slice O5 (sa.length + 1) cap5, Value.slice O5 (sa.length + 1) cap5] 28) b6.size
    have ho6 := ho5.alloc (.cells #[Value.slice A n c, Value.slice O5 (sa.length + 1) cap5, Value.slice O5 (sa.length + 1) cap5, Value.slice O5 (sa.length + 1) cap5] 28)
    have hd6 := hd5.alloc (.cells #[Value.slice A n c, Value.slice O5 (sa.length + 1) cap5, Value.slice O5 (sa.length + 1) cap5, Value.slice O5 (sa.length + 1) cap5] 28)
    have hws6 : w2.heap.size ≤ (w5.alloc (.cells #[Value.slice A n c, Value.slice O5 (sa.length + 1) cap5, Value.slice O5 (sa.length + 1) cap5, Value.slice O5 (sa.length + 1) cap5] 28)).heap.size := by simp; omega
    have L6 := Lib.hid l6
    generalize sa ++ [s4] = sb at *
    generalize hBL : w5.heap.size = BL at *
    generalize w5.alloc (.cells #[Value.slice A n c, Value.slice O5 (sa.length + 1) cap5, Value.slice O5 (sa.length + 1) cap5, Value.slice O5 (sa.length + 1) cap5] 28) = w6 at *
    clear hd5 hg25 ho4 hg5 hg24 b5 b6 hd4 hws e6 ho5 hBL l6 hs4 hs4' hl3 hd2
    refine (To_any D _ (sa.length : Nat) _ hd6 (by omega)).mono ?_
    rintro e w7 ⟨x1, rfl, _, _, _, hd7, hg7⟩
    have ho7 := own_kept ho6 hg7 hD2
    have rl7 := own_kept rl hg7 hD2
    have b8 := b7.grown hg7 b7.size fun k hk => by cases hk; exact hD
    have hws7 := Nat.le_trans hws6 hg7.size
    clear ho6 rl b7 hd6 hg7 hws6
    go_wp2_with fail
    refine (To_any D _ (sa.length : Nat) _ hd7 (by omega)).mono ?_
    rintro e w8 ⟨x2, rfl, _, _, _, hd8, hg8⟩
    have ho8 := own_kept ho7 hg8 hD2
    have rl8 := own_kept rl7 hg8 hD2
    have b9 := b8.grown hg8 b8.size fun k hk => by cases hk; exact hD
    have hws8 := Nat.le_trans hws7 hg8.size
    clear ho7 rl7 b8 hd7 hg8 hws7
    have ri : (w8.alloc (.cells #[.int .i64 at_, .int .i64 x1, .int .i64 x2, .int .i64 at_] 3)).ownsRow w2.heap.size 3 1 (.slice (some ⟨w8.heap.size, 0, none⟩) 4 4) 4 (([at_, x1, x2, at_] : List Int).map (Value.int .i64)) :=
      own_lit w8 w2.heap.size #[.int .i64 at_, .int .i64 x1, .int .i64 x2, .int .i64 at_] 3 4 hws8 rfl (by decide)
    have b10 := b9.alloc (o := .cells #[.int .i64 at_, .int .i64 x1, .int .i64 x2, .int .i64 at_] 3) b9.size
    have ho9 := ho8.alloc (.cells #[.int .i64 at_, .int .i64 x1, .int .i64 x2, .int .i64 at_] 3)
    have rl9 := rl8.alloc (.cells #[.int .i64 at_, .int .i64 x1, .int .i64 x2, .int .i64 at_] 3)
    have hd9 := hd8.alloc (.cells #[.int .i64 at_, .int .i64 x1, .int .i64 x2, .int .i64 at_] 3)
    have hws9 : w2.heap.size ≤ (w8.alloc (.cells #[.int .i64 at_, .int .i64 x1, .int .i64 x2, .int .i64 at_] 3)).heap.size := by simp; omega
    have ln1 : ([at_, x1, x2, at_] : List Int).length = 4 := rfl
    have LN1 := Lib.hid ln1
    go_wp2_with fail
    generalize ([at_, x1, x2, at_] : List Int) = is_ at *
    generalize hBI : w8.heap.size = BI at *
    generalize w8.alloc (.cells #[.int .i64 at_, .int .i64 x1, .int .i64 x2, .int .i64 at_] 3) = w9 at *
    clear ho8 rl8 b9 hd8 hws8 hBI ln1
    refine (From_any D _ 1 7 _ hd9 (by decide) (by decide) (by decide) (by decide)).mono ?_
    rintro e wa ⟨y1, rfl, _, _, _, hda, hga⟩
    have hoa := own_kept ho9 hga hD2
    have rla := own_kept rl9 hga hD2
    have ria := own_kept ri hga hD2
    have ba := b10.grown hga b10.size fun k hk => by cases hk; exact hD
    have hwsa := Nat.le_trans hws9 hga.size
    clear ho9 rl9 ri b10 hd9 hga hws9
    go_wp2_with fail
    refine (From_any D _ 1 7 _ hda (by decide) (by decide) (by decide) (by decide)).mono ?_
    rintro e wb ⟨y2, rfl, _, _, _, hdb, hgb⟩
    have hob := own_kept hoa hgb hD2
    have rlb := own_kept rla hgb hD2
    have rib := own_kept ria hgb hD2
    have bb := ba.grown hgb ba.size fun k hk => by cases hk; exact hD
    have hwsb := Nat.le_trans hwsa hgb.size
    clear hoa rla ria ba hda hgb hwsa hdb
    have rw_ : (wb.alloc (.cells #[.int .i64 width, .int .i64 y1, .int .i64 width, .int .i64 y2] 3)).ownsRow w2.heap.size 3 1 (.slice (some ⟨wb.heap.size, 0, none⟩) 4 4) 4 (([width, y1, width, y2] : List Int).map (Value.int .i64)) :=
      own_lit wb w2.heap.size #[.int .i64 width, .int .i64 y1, .int .i64 width, .int .i64 y2] 3 4 hwsb rfl (by decide)
    have bc := bb.alloc (o := .cells #[.int .i64 width, .int .i64 y1, .int .i64 width, .int .i64 y2] 3) bb.size
    have hoc := hob.alloc (.cells #[.int .i64 width, .int .i64 y1, .int .i64 width, .int .i64 y2] 3)
    have rlc := rlb.alloc (.cells #[.int .i64 width, .int .i64 y1, .int .i64 width, .int .i64 y2] 3)
    have ric := rib.alloc (.cells #[.int .i64 width, .int .i64 y1, .int .i64 width, .int .i64 y2] 3)
    have CI := Lib.hid (cells_own ric)
    have CW := Lib.hid (cells_own rw_)
    have ln2 : ([width, y1, width, y2] : List Int).length = 4 := rfl
    have LN2 := Lib.hid ln2
    have sls : StrLists (wb.alloc (.cells #[.int .i64 width, .int .i64 y1, .int .i64 width, .int .i64 y2] 3)) (some ⟨BL, 0, none⟩) [.slice A n c, .slice O5 (sa.length + 1) cap5, .slice O5 (sa.length + 1) cap5, .slice O5 (sa.length + 1) cap5] := by
      have so := StrList.own hoc L6.out n6
      refine ⟨cells_own rlc, fun i hi => ?_⟩
      match i, hi with
      | 0, _ => exact ⟨ss, SL.out.below bc⟩
      | 1, _ => exact ⟨sb, so⟩
      | 2, _ => exact ⟨sb, so⟩
      | 3, _ => exact ⟨sb, so⟩
    have ln3 : ([.slice A n c, .slice O5 (sa.length + 1) cap5, .slice O5 (sa.length + 1) cap5, .slice O5 (sa.length + 1) cap5] : List Value).length = 4 := rfl
    have LN3 := Lib.hid ln3
    have SLS := Lib.hid sls
    clear rw_ ric rlc hoc bb hob rlb rib hwsb sls ln3 ln2
    go_wp2_with fail
    generalize hBW : wb.heap.size = BW at *
    generalize wb.alloc (.cells #[.int .i64 width, .int .i64 y1, .int .i64 width, .int .i64 y2] 3) = wc0 at *
    generalize ([width, y1, width, y2] : List Int) = ws_ at *
    generalize ([.slice A n c, .slice O5 (sa.length + 1) cap5, .slice O5 (sa.length + 1) cap5, .slice O5 (sa.length + 1) cap5] : List Value) = vs at *
    clear hBW SL
    go_loopw [14, 15, 16, 17, 18, 19, 20, 21, 22, 23] (fun i _ _ _ _ _ _ _ _ _ wr => ∃ k : Nat, k ≤ 4 ∧ i = .int .i64 k ∧ Below w.heap.size w wr ∧ StrLists wr (some ⟨BL, 0, none⟩) vs ∧ Cells wr (some ⟨BI, 0, none⟩) (is_.map (Value.int .i64)) ∧ Cells wr (some ⟨BW, 0, none⟩) (ws_.map (Value.int .i64))) (fun i _ _ _ _ _ _ _ _ _ _ => 4 - (intOf i).toNat)
    case atStart => exact ⟨0, Nat.zero_le _, rfl, bc, SLS.out, CI.out, CW.out⟩
    case round =>
      obtain ⟨k, hk, rfl, t0, hs, hi_, hw⟩ := hrel
      have S0 := Lib.hid hs
      have I0 := Lib.hid hi_
      have Z0 := Lib.hid hw
      clear hs hi_ hw bc SLS CI CW
      by_cases hlt : k < 4
      · obtain ⟨bl, ol, hv, l0⟩ := S0.out.1.any k (by rw [LN3.out]; exact hlt)
        injection hv with hv
        injection hv with hv1 hv2
        subst hv1 hv2
        obtain ⟨bl, ol, hv, i0⟩ := I0.out.int k (by rw [LN1.out]; exact hlt)
        injection hv with hv
        injection hv with hv1 hv2
        subst hv1 hv2
        obtain ⟨bl, ol, hv, z0⟩ := Z0.out.int k (by rw [LN2.out]; exact hlt)
        injection hv with hv
        injection hv with hv1 hv2
        subst hv1 hv2
        rw [Nat.zero_add] at l0 i0 z0
        obtain ⟨sk, hsk⟩ := S0.out.2 k (by rw [LN3.out]; exact hlt)
        generalize hX1 : vs[k]'(by rw [LN3.out]; exact hlt) = V at *
        generalize hX2 : is_[k]'(by rw [LN1.out]; exact hlt) = I at *
        generalize hX3 : ws_[k]'(by rw [LN2.out]; exact hlt) = Wd at *
        clear hX1 hX2 hX3
        obtain ⟨A', n', c', rfl, hn', hb', h0', hc'⟩ := hsk
        have j5 : (0 : Int) ≤ (k : Int) := by omega
        have j6 : (k : Int) < 4 := by omega
        have q1 : ∀ (P : Option Addr) (cc : Nat) W, LaidErr W → Cells W P (sk.map Value.string) → Calls Tryz.prog 54 #[.slice P n' cc, .int .i64 I] W fun e w' => e = .returned (.tuple #[.string (shortestP sk I).1, .int .i64 (shortestP sk I).2]) ∧ Below W.heap.size W w' := fun P cc W hl h => pShortest_any P n' cc sk I W hl hn' h
        have q2 : ∀ (P : Option Addr) (cc : Nat) W, Cells W P (sk.map Value.string) → Calls Tryz.prog 55 #[.slice P n' cc, .int .i64 I] W fun e w' => e = .returned (.tuple #[.string (shortestP sk I).1, .int .i64 (shortestP sk I).2]) ∧ Below W.heap.size W w' := fun P cc W h => Shortest_any P n' cc sk I W hn' h
        have q3 : ∀ (P : Option Addr) (cc : Nat) W, LaidErr W → Cells W P (sk.map Value.string) → Calls Tryz.prog 56 #[.slice P n' cc, .int .i64 I, .int .i64 Wd] W fun e w' => e = .returned (.tuple #[.string (fitP sk I Wd).1, .int .i64 (fitP sk I Wd).2]) ∧ Below W.heap.size W w' := fun P cc W hl h => pFit_any P n' cc sk I Wd W hl hn' h
        have q4 : ∀ (P : Option Addr) (cc : Nat) W, Cells W P (sk.map Value.string) → Calls Tryz.prog 57 #[.slice P n' cc, .int .i64 I, .int .i64 Wd] W fun e w' => e = .returned (.tuple #[.string (fitP sk I Wd).1, .int .i64 (fitP sk I Wd).2]) ∧ Below W.heap.size W w' := fun P cc W h => Fit_any P n' cc sk I Wd W hn' h
        have q5 : ∀ (P : Option Addr) (cc : Nat) W, Cells W P (sk.map Value.string) → Cells W A' (sk.map Value.string) → Calls Tryz.prog 36 #[.slice P n' cc, .slice A' n' c'] W (EqPost sk sk W) := fun P cc W h h' => EqStrings_any P A' n' n' cc c' sk sk W hn' hn' (by omega) h h'
        have q6 : ∀ W, Cells W A' (sk.map Value.string) → Calls Tryz.prog 27 #[.slice A' n' c'] W (DupPost sk W) := fun W h => DupStrings_any A' n' c' sk W hn' (by omega) h0' h
        generalize (shortestP sk I).1 = R1 at *
        generalize (shortestP sk I).2 = R2 at *
        generalize (fitP sk I Wd).1 = R3 at *
        generalize (fitP sk I Wd).2 = R4 at *
        have Q1 := Lib.hid q1
        have Q2 := Lib.hid q2
        have Q3 := Lib.hid q3
        have Q4 := Lib.hid q4
        have Q5 := Lib.hid q5
        have Q6 := Lib.hid q6
        have M0 := Lib.hid hc'
        have HN := Lib.hid hn'
        clear q1 q2 q3 q4 q5 q6 h0' hc' hn'
        go_wp2_with fail
        refine (Q6.out _ M0.out).mono ?_
        rintro e v1 ⟨oo, rfl, hoo, h1⟩
        obtain ⟨A2, c2, rfl⟩ := own_form hoo
        rw [← HN.out] at hoo ⊢
        have N0 := Lib.hid (cells_own hoo)
        clear hoo
        have l1 := (h1.cell (World.block_lt_of_cell? _ _ l0)).trans l0
        have i1 := (h1.cell (World.block_lt_of_cell? _ _ i0)).trans i0
        have z1 := (h1.cell (World.block_lt_of_cell? _ _ z0)).trans z0
        have t1 := t0.trans (h1.mono t0.size)
        have N1 := N0
        have M1 := Lib.hid (M0.out.below h1)
        have S1 := Lib.hid (S0.out.below h1)
        have I1 := Lib.hid (I0.out.below h1)
        have Z1 := Lib.hid (Z0.out.below h1)
        clear l0 i0 z0 t0 N0 M0 S0 I0 Z0 h1
        go_wp2_with fail
        refine (Q1.out _ _ _ (HLE.out.below t1) N1.out).mono ?_
        rintro e v2 ⟨rfl, h2⟩
        have l2 := (h2.cell (World.block_lt_of_cell? _ _ l1)).trans l1
        have i2 := (h2.cell (World.block_lt_of_cell? _ _ i1)).trans i1
        have z2 := (h2.cell (World.block_lt_of_cell? _ _ z1)).trans z1
        have t2 := t1.trans (h2.mono t1.size)
        have N2 := Lib.hid (N1.out.below h2)
        have M2 := Lib.hid (M1.out.below h2)
        have S2 := Lib.hid (S1.out.below h2)
        have I2 := Lib.hid (I1.out.below h2)
        have Z2 := Lib.hid (Z1.out.below h2)
        clear l1 i1 z1 t1 N1 M1 S1 I1 Z1 h2
        go_wp2_with fail
        obtain ⟨T, g, hg0, hgb, hT, hgl0, hgl1⟩ : ∃ (T : Type) (g : T → World), (∃ x, v2.drew = g x) ∧ (∀ x, Below v2.heap.size v2 (g x)) ∧
            (∀ x, Calls Tryz.prog 55 #[.slice A' n' c', .int .i64 I] (g x) fun e w' => e = .returned (.tuple #[.string R1, .int .i64 R2]) ∧ ∃ y, w' = g y) ∧ (∀ x, (g x).cell? ⟨BL, k, none⟩ = some (Value.slice A' n' c')) ∧ (∀ x, (g x).cell? ⟨BI, k, none⟩ = some (.int .i64 I)) :=
          ⟨Since v2, Subtype.val, Since.here v2, fun x => x.property, fun x => x.calls (Q2.out _ _ _ (M2.out.below x.property)), fun x => x.cell l2, fun x => x.cell i2⟩
        have hTne : Nonempty T := let ⟨x, _⟩ := hg0; ⟨x⟩
        have HT1 := Lib.hid hT
        clear hT
        refine wp_region_class g hg0 (by kernel_rfl) (by kernel_rfl) ?_
        repeat (go_big_quiet_step (fail))
        go_big_quiet_step (exact HT1.out _)
        repeat (go_big_quiet_step (fail))
        refine wpQuiet_nil ?_
        rintro _ ⟨xq, rfl⟩
        have hbq := hgb xq
        have l3 := (hbq.cell (World.block_lt_of_cell? _ _ l2)).trans l2
        have i3 := (hbq.cell (World.block_lt_of_cell? _ _ i2)).trans i2
        have z3 := (hbq.cell (World.block_lt_of_cell? _ _ z2)).trans z2
        have t3 := t2.trans (hbq.mono t2.size)
        have N3 := Lib.hid (N2.out.below hbq)
        have M3 := Lib.hid (M2.out.below hbq)
        have S3 := Lib.hid (S2.out.below hbq)
        have I3 := Lib.hid (I2.out.below hbq)
        have Z3 := Lib.hid (Z2.out.below hbq)
        clear l2 i2 z2 t2 N2 M2 S2 I2 Z2 hbq
        clear hgb hg0 hgl0 hgl1 HT1
        generalize g xq = v3 at *
        clear hTne xq g T
        go_wp2_with fail
        obtain ⟨T, g, hg0, hgb, hT, hgl0, hgl1⟩ : ∃ (T : Type) (g : T → World), (∃ x, v3.drew = g x) ∧ (∀ x, Below v3.heap.size v3 (g x)) ∧
            (∀ x, Calls Tryz.prog 56 #[.slice A2 n' c2, .int .i64 I, .int .i64 Wd] (g x) fun e w' => e = .returned (.tuple #[.string R3, .int .i64 R4]) ∧ ∃ y, w' = g y) ∧ (∀ x, (g x).cell? ⟨BI, k, none⟩ = some (.int .i64 I)) ∧ (∀ x, (g x).cell? ⟨BW, k, none⟩ = some (.int .i64 Wd)) :=
          ⟨Since v3, Subtype.val, Since.here v3, fun x => x.property, fun x => x.calls (Q3.out _ _ _ (HLE.out.below (t3.trans (x.property.mono t3.size))) (N3.out.below x.property)), fun x => x.cell i3, fun x => x.cell z3⟩
        have hTne : Nonempty T := let ⟨x, _⟩ := hg0; ⟨x⟩
        have HT1 := Lib.hid hT
        clear hT
        refine wp_region_class g hg0 (by kernel_rfl) (by kernel_rfl) ?_
        repeat (go_big_quiet_step (fail))
        go_big_quiet_step (exact HT1.out _)
        repeat (go_big_quiet_step (fail))
        refine wpQuiet_nil ?_
        rintro _ ⟨xq, rfl⟩
        have hbq := hgb xq
        have l4 := (hbq.cell (World.block_lt_of_cell? _ _ l3)).trans l3
        have i4 := (hbq.cell (World.block_lt_of_cell? _ _ i3)).trans i3
        have z4 := (hbq.cell (World.block_lt_of_cell? _ _ z3)).trans z3
        have t4 := t3.trans (hbq.mono t3.size)
        have N4 := Lib.hid (N3.out.below hbq)
        have M4 := Lib.hid (M3.out.below hbq)
        have S4 := Lib.hid (S3.out.below hbq)
        have I4 := Lib.hid (I3.out.below hbq)
        have Z4 := Lib.hid (Z3.out.below hbq)
        clear l3 i3 z3 t3 N3 M3 S3 I3 Z3 hbq
        clear hgb hg0 hgl0 hgl1 HT1
        generalize g xq = v4 at *
        clear hTne xq g T
        go_wp2_with fail
        obtain ⟨T, g, hg0, hgb, hT, hgl0, hgl1, hgl2⟩ : ∃ (T : Type) (g : T → World), (∃ x, v4.drew = g x) ∧ (∀ x, Below v4.heap.size v4 (g x)) ∧
            (∀ x, Calls Tryz.prog 57 #[.slice A' n' c', .int .i64 I, .int .i64 Wd] (g x) fun e w' => e = .returned (.tuple #[.string R3, .int .i64 R4]) ∧ ∃ y, w' = g y) ∧ (∀ x, (g x).cell? ⟨BL, k, none⟩ = some (Value.slice A' n' c')) ∧ (∀ x, (g x).cell? ⟨BI, k, none⟩ = some (.int .i64 I)) ∧ (∀ x, (g x).cell? ⟨BW, k, none⟩ = some (.int .i64 Wd)) :=
          ⟨Since v4, Subtype.val, Since.here v4, fun x => x.property, fun x => x.calls (Q4.out _ _ _ (M4.out.below x.property)), fun x => x.cell l4, fun x => x.cell i4, fun x => x.cell z4⟩
        have hTne : Nonempty T := let ⟨x, _⟩ := hg0; ⟨x⟩
        have HT1 := Lib.hid hT
        clear hT
        refine wp_region_class g hg0 (by kernel_rfl) (by kernel_rfl) ?_
        repeat (go_big_quiet_step (fail))
        go_big_quiet_step (exact HT1.out _)
        repeat (go_big_quiet_step (fail))
        refine wpQuiet_nil ?_
        rintro _ ⟨xq, rfl⟩
        have hbq := hgb xq
        have l5 := (hbq.cell (World.block_lt_of_cell? _ _ l4)).trans l4
        have i5 := (hbq.cell (World.block_lt_of_cell? _ _ i4)).trans i4
        have z5 := (hbq.cell (World.block_lt_of_cell? _ _ z4)).trans z4
        have t5 := t4.trans (hbq.mono t4.size)
        have N5 := Lib.hid (N4.out.below hbq)
        have M5 := Lib.hid (M4.out.below hbq)
        have S5 := Lib.hid (S4.out.below hbq)
        have I5 := Lib.hid (I4.out.below hbq)
        have Z5 := Lib.hid (Z4.out.below hbq)
        clear l4 i4 z4 t4 N4 M4 S4 I4 Z4 hbq
        clear hgb hg0 hgl0 hgl1 hgl2 HT1
        generalize g xq = v5 at *
        clear hTne xq g T
        go_wp2_with fail
        refine (Q5.out _ _ _ N5.out M5.out).mono ?_
        rintro e v6 ⟨rfl, n6', rfl⟩
        rw [show decide (sk = sk) = true from by simp]
        have h6 := Drew.below (w' := v5.drewN n6') ⟨n6', rfl⟩ v5.heap.size
        have t6 := t5.trans (h6.mono t5.size)
        have S6 := Lib.hid (S5.out.below h6)
        have I6 := Lib.hid (I5.out.below h6)
        have Z6 := Lib.hid (Z5.out.below h6)
        go_wp2
        go_roundw
        case rel => exact ⟨k + 1, by omega, by go_num, t6, S6.out, I6.out, Z6.out⟩
        case measure => simp [intOf]; omega
      · go_wp2_with fail
        refine (spelling_at _ t0).mono ?_
        rintro e wz ⟨rfl, hbz⟩
        go_wp2
        go_ret
        exact ⟨rfl, hbz⟩
end Go.Proofs.YtapagncaadjiaaaGreatDoor
