/- The order of names, places, names at a wrong place: the walk of the second statement. -/
import Derived.Test.YtljlkhaolfihjaaGreatDoorLawS
import Derived.Test.YtljlkhaolfihjaaGreatDoorPgTa
import Derived.Test.YtljlkhaolfihjaaGreatDoorRefZ
import Derived.Test.YtljlkhaolfihjaaGreatDoorSpecS3
import Derived.Test.YtljlkhaolfihjaaGreatDoorRefS
namespace Go.Proofs.YtljlkhaolfihjaaGreatDoor
open Go.RowKit Go.Shelf

theorem sort_len (ss : List ByteArray) : (sortL ss).length ≤ ss.length := by
  unfold sortL
  split
  · rw [sortTo_len]; exact Nat.le_refl _
  · simp
theorem wrong_len (ss : List ByteArray) : (wrongL ss).length ≤ 6 := by
  unfold wrongL
  split
  · rename_i h
    obtain ⟨l6, _⟩ := list_facts h
    unfold wrongX
    cases hf : (allI ss.length (List.range (ss.length + 1))).find? (fineI ss) with
    | none => simp
    | some x =>
      have hm := List.mem_of_find?_eq_some hf
      unfold allI at hm
      obtain ⟨L, hL, hx⟩ := List.mem_flatten.1 hm
      obtain ⟨m, hm2, rfl⟩ := List.mem_map.1 hL
      have h1 := subsL_row m 0 ss.length x hx
      have h2 := List.mem_range.1 hm2
      show x.length ≤ 6
      omega
  · simp

set_option maxRecDepth 100000 in
set_option maxHeartbeats 12800000 in
theorem NameOrders_any (A : Option Addr) (n c : Nat) (ss : List ByteArray) (a b : ByteArray) (B : Option Addr) (m d : Nat) (w : World) (hL : LaidErr w) (hn : n = ss.length) (nb : n ≤ 1000000000000000000) (h0 : A = none → c = 0)
    (hx : Cells w A (ss.map Value.string)) (hm : m ≤ 1000000000000000000) (hy : NumsIn w B m) :
    Calls Tryz.prog 3 #[.slice A n c, .string a, .string b, .slice B m d] w (TruePost w) := by
  obtain ⟨si, hi, hz0, hz1, hz2⟩ := info_parts infoStr
  have q1 := long_any none A 0 0 n c [] ss w rfl hn (by decide) nb (fun r h => by cases h) (fun i h => by cases h) hx
  have Q1 := Lib.hid q1
  have HLE := Lib.hid hL
  clear hL
  have HY := Lib.hid hy
  cases e1 : longB [] ss with
  | true =>
    clear q1 hx hy hn
    go_enter Tryz.func3, Tryz.ntmps3
    go_wp2_with fail
    refine Q1.out.mono ?_
    rintro e w1 ⟨rfl, hd⟩
    rw [e1]
    have b2 := Drew.below hd w.heap.size
    clear e1 hd
    go_wp2_with fail
    refine (spelling_at _ b2).mono ?_
    rintro e w2 ⟨rfl, hb⟩
    go_wp2
    go_ret
    exact ⟨rfl, hb⟩
  | false =>
    obtain ⟨n20, s20⟩ := long_list e1
    have sl : StrList w (.slice A n c) ss := ⟨A, n, c, rfl, hn, by omega, h0, hx⟩
    have SL := Lib.hid sl
    have q2 : ∀ W : World, Calls Tryz.prog 7 #[.slice none 0 0, .slice (some ⟨W.heap.size, 0, none⟩) 2 2] (W.alloc (.cells #[.string a, .string b] 9)) (LongPost [] [a, b] (W.alloc (.cells #[.string a, .string b] 9))) := fun W =>
      long_any none _ 0 0 2 2 [] [a, b] _ rfl rfl (by decide) (by decide) (fun r h => by cases h) (fun i h => by cases h) (cells_lit W #[.string a, .string b] 9 2 rfl (by unfold maxLen; omega))
    have Q2 := Lib.hid q2
    clear q1 hx hy hn sl s20 h0 q2
    cases e2 : longB [] [a, b] with
    | true =>
      go_enter Tryz.func3, Tryz.ntmps3
      go_wp2_with fail
      refine Q1.out.mono ?_
      rintro e w1 ⟨rfl, hd⟩
      rw [e1]
      have b2 := Drew.below hd w.heap.size
      have b2' := b2.alloc (o := .cells #[.string a, .string b] 9) b2.size
      clear e1 hd
      go_wp2_with fail
      refine (Q2.out _).mono ?_
      rintro e w2 ⟨rfl, hd⟩
      rw [e2]
      have b3 := b2'.trans (Drew.below hd w.heap.size)
      clear e2 hd
      go_wp2_with fail
      refine (spelling_at _ b3).mono ?_
      rintro e w3 ⟨rfl, hb⟩
      go_wp2
      go_ret
      exact ⟨rfl, hb⟩
    | false =>
      go_enter Tryz.func3, Tryz.ntmps3
      go_wp2_with fail
      refine Q1.out.mono ?_
      rintro e w0 ⟨rfl, hd⟩
      rw [e1]
      have b2 := Drew.below hd w.heap.size
      have b2' := b2.alloc (o := .cells #[.string a, .string b] 9) b2.size
      clear e1 hd Q1
      go_wp2_with fail
      refine (Q2.out _).mono ?_
      rintro e w1 ⟨rfl, hd⟩
      rw [e2]
      have b2 := b2'.trans (Drew.below hd w.heap.size)
      clear e2 hd Q2 b2'
      go_wp2_with fail
      refine (NewDice_any B m d _ hm (HY.out.below b2)).mono ?_
      rintro e w2 ⟨rfl, hd2, hb2⟩
      have b3 := b2.trans (hb2.mono b2.size)
      have hD : w.heap.size ≤ w1.heap.size := b2.size
      have hD2 := hd2.lt
      generalize w1.heap.size = D at *
      clear b2 hb2
      go_wp2_with fail
      refine (NamesOf_any D _ 6 4 _ hd2 (by decide) (by decide) (by decide) (by decide)).mono ?_
      rintro e w4 ⟨o, sa, rfl, hl4, ho4, hlike4, hd4, hg4⟩
      have b5 := b3.grown hg4 b3.size fun k hk => by cases hk; exact hD
      have hws4 : w2.heap.size ≤ w4.heap.size := hg4.size
      obtain ⟨O, capo, rfl⟩ := own_form ho4
      have CO := Lib.hid (cells_own ho4)
      have hl6 : sa.length ≤ 6 := by omega
      have HM : Hid (∀ i (h : i < sa.length), Made6 sa[i]) := Lib.hid fun i h => by
        have hk := hlike4 _ (List.getElem_mem h)
        exact ⟨hk.1, by have := hk.2.1; omega, hk.2.2⟩
      obtain ⟨N, hNl, hNe, hNd, hNb, hNp⟩ := sorted_of hl6 HM.out
      have qs := Sort_any O sa.length capo sa w4 rfl CO.out
      unfold IntsPost at qs
      rw [list_ok hl6 (made_all HM.out), ← sortP_eq, hNe, List.length_map, hNl] at qs
      have QS := Lib.hid qs
      have HNL := Lib.hid hNl
      have HNB := Lib.hid hNb
      have hwd : w2.heap.size > D := hD2
      clear hlike4 hl4 qs hNl hNe hNd hNb hNp hd2 hg4 b3
      go_wp2_with fail
      refine QS.out.mono ?_
      rintro e w5 ⟨o5, rfl, ho5, hb5⟩
      obtain ⟨AS, cS, rfl⟩ := own_form ho5
      have CS := Lib.hid (cells_own ho5)
      have C5 := Lib.hid (CO.out.below hb5)
      have b6 := b5.trans (hb5.mono b5.size)
      have ho6 := own_below ho4 hb5
      have hd6 := hd4.below hb5 (Nat.le_refl _)
      have hws5 := Nat.le_trans hws4 hb5.size
      clear ho5 hb5 QS b5 CO ho4 hd4 hws4
      go_wp2_with fail
      go_loopw [13, 14] (fun sv kv wr => ∃ k : Nat, k ≤ sa.length ∧ kv = .int .i64 k ∧ wr.ownsRow w5.heap.size 9 1 sv k ((named sa (N.take k)).map Value.string) ∧ Below w5.heap.size w5 wr) (fun _ kv _ => sa.length - (intOf kv).toNat)
      case atStart => exact ⟨0, Nat.zero_le _, rfl, World.ownsRow_nil _ _ _ _, Below.refl _ _⟩
      case round =>
        obtain ⟨k, hk, rfl, hown, t0⟩ := hrel
        obtain ⟨SA, scap, rfl⟩ := own_form hown
        by_cases hkl : k < sa.length
        · have hkN : k < N.length := by rw [HNL.out]; exact hkl
          have hp := HNB.out k hkN
          have hst := named_step sa N k hkN hp
          obtain ⟨g, off, rfl, c1⟩ := (CS.out.below t0).int k (by rw [List.length_map]; exact hkN)
          rw [List.getElem_map] at c1
          obtain ⟨g2, off2, rfl, c2⟩ := (C5.out.below t0).str N[k] hp
          generalize N[k] = p at *
          generalize sa[p] = X at *
          have HST := Lib.hid hst
          have p0 : (0 : Int) ≤ (p : Int) := by omega
          have p1 : (p : Int) < (sa.length : Int) := by omega
          have k0 : (0 : Int) ≤ (k : Int) := by omega
          have k1 : (k : Int) < (sa.length : Int) := by omega
          have hs1 := t0.size
          clear hst hp
          go_wp2_with (at_builtin; refine wpList_append_own _ rfl _ _ 22 rfl w5.heap.size 9 si (.string ByteArray.empty) 1 16 Tryz.underlying22 hi hz0 hz1 hz2 rfl (by decide) _ _ _ rfl (hown.alloc _) ⟨wr.heap.size, 0, none⟩ 1 1 [.string X] rfl rfl (cell_one_new _ _ _) (by simp [Value.oneCell']) (by unfold maxLen; omega) (by omega) (by simp; omega) ?_; intro v' wN hownN hgN _)
          have hbN := (t0.alloc hs1 (.cells #[.string X] 9)).grown hgN (by simp; omega) (fun j hj => (hown.lt j hj).1)
          go_wp2_with fail
          go_roundw
          case rel => exact ⟨k + 1, by omega, by go_num, by rw [HST.out, List.map_append]; exact hownN, hbN⟩
          case measure => simp [intOf]; omega
        · have hkn : k = sa.length := by omega
          subst hkn
          have htk : N.take sa.length = N := List.take_of_length_le (by rw [HNL.out]; exact Nat.le_refl _)
          rw [htk] at hown
          have hTl : (named sa N).length = sa.length := by rw [named_len, HNL.out]
          generalize named sa N = T at *
          have b7 := b6.trans (t0.mono b6.size)
          have ho7 := own_below ho6 t0
          have hoT := hown.mono hws5
          have hd7 := hd6.below t0 (Nat.le_refl _)
          have hws7 := Nat.le_trans hws5 t0.size
          have HTL := Lib.hid hTl
          have hnl : ¬ ((sa.length : Int) < (sa.length : Int)) := by omega
          generalize hWW : wr = w7 at *
          clear hWW hown CS C5 HNB HM t0 htk hTl hd6 ho6 b6 hws5
          have rl := own_lit w7 w2.heap.size #[Value.slice A n c, Value.slice O sa.length capo, Value.slice SA sa.length scap, Value.slice SA sa.length scap] 22 4 hws7 rfl (by decide)
          have b8 := b7.alloc (o := .cells #[Value.slice A n c, Value.slice O sa.length capo, Value.slice SA sa.length scap, Value.slice SA sa.length scap] 22) b7.size
          have ho8 := ho7.alloc (.cells #[Value.slice A n c, Value.slice O sa.length capo, Value.slice SA sa.length scap, Value.slice SA sa.length scap] 22)
          have hoT8 := hoT.alloc (.cells #[Value.slice A n c, Value.slice O sa.length capo, Value.slice SA sa.length scap, Value.slice SA sa.length scap] 22)
          have hd8 := hd7.alloc (.cells #[Value.slice A n c, Value.slice O sa.length capo, Value.slice SA sa.length scap, Value.slice SA sa.length scap] 22)
          have hws8 : w2.heap.size ≤ (w7.alloc (.cells #[Value.slice A n c, Value.slice O sa.length capo, Value.slice SA sa.length scap, Value.slice SA sa.length scap] 22)).heap.size := by simp; omega
          clear b7 ho7 hoT hd7
          go_wp2_with fail
          generalize hBL : w7.heap.size = BL at *
          generalize w7.alloc (.cells #[Value.slice A n c, Value.slice O sa.length capo, Value.slice SA sa.length scap, Value.slice SA sa.length scap] 22) = w8 at *
          refine (NameOf_any D _ 4 _ hd8 (by decide) (by decide)).mono ?_
          rintro e w9 ⟨x1, rfl, _, _, _, hd9, hg9⟩
          have ho9 := own_kept ho8 hg9 hD2
          have hoT9 := own_kept hoT8 hg9 hD2
          have rl9 := own_kept rl hg9 hD2
          have b9 := b8.grown hg9 b8.size fun k hk => by cases hk; exact hD
          have hws9 := Nat.le_trans hws8 hg9.size
          clear ho8 hoT8 rl b8 hd8 hg9 hws8
          go_wp2_with fail
          refine (NameOf_any D _ 4 _ hd9 (by decide) (by decide)).mono ?_
          rintro e w10 ⟨x2, rfl, _, _, _, hd10, hg10⟩
          have ho10 := own_kept ho9 hg10 hD2
          have hoT10 := own_kept hoT9 hg10 hD2
          have rl10 := own_kept rl9 hg10 hD2
          have b10 := b9.grown hg10 b9.size fun k hk => by cases hk; exact hD
          have hws10 := Nat.le_trans hws9 hg10.size
          clear ho9 hoT9 rl9 b9 hd9 hg10 hws9
          go_wp2_with fail
          have ra := own_lit w10 w2.heap.size #[.string a, .string x1, .string x2, .string a] 9 4 hws10 rfl (by decide)
          have b11 := b10.alloc (o := .cells #[.string a, .string x1, .string x2, .string a] 9) b10.size
          have ho11 := ho10.alloc (.cells #[.string a, .string x1, .string x2, .string a] 9)
          have hoT11 := hoT10.alloc (.cells #[.string a, .string x1, .string x2, .string a] 9)
          have rl11 := rl10.alloc (.cells #[.string a, .string x1, .string x2, .string a] 9)
          have hd11 := hd10.alloc (.cells #[.string a, .string x1, .string x2, .string a] 9)
          have hws11 : w2.heap.size ≤ (w10.alloc (.cells #[.string a, .string x1, .string x2, .string a] 9)).heap.size := by simp; omega
          clear ho10 hoT10 rl10 b10 hd10
          generalize hBA : w10.heap.size = BA at *
          generalize w10.alloc (.cells #[.string a, .string x1, .string x2, .string a] 9) = w11 at *
          refine (NameOf_any D _ 4 _ hd11 (by decide) (by decide)).mono ?_
          rintro e w12 ⟨x3, rfl, _, _, _, hd12, hg12⟩
          have ho12 := own_kept ho11 hg12 hD2
          have hoT12 := own_kept hoT11 hg12 hD2
          have rl12 := own_kept rl11 hg12 hD2
          have ra12 := own_kept ra hg12 hD2
          have b12 := b11.grown hg12 b11.size fun k hk => by cases hk; exact hD
          have hws12 := Nat.le_trans hws11 hg12.size
          clear ra ho11 hoT11 rl11 b11 hd11 hg12 hws11
          go_wp2_with fail
          refine (NameOf_any D _ 2 _ hd12 (by decide) (by decide)).mono ?_
          rintro e w13 ⟨x4, rfl, _, _, _, hd13, hg13⟩
          have ho13 := own_kept ho12 hg13 hD2
          have hoT13 := own_kept hoT12 hg13 hD2
          have rl13 := own_kept rl12 hg13 hD2
          have ra13 := own_kept ra12 hg13 hD2
          have b13 := b12.grown hg13 b12.size fun k hk => by cases hk; exact hD
          have hws13 := Nat.le_trans hws12 hg13.size
          clear ra12 ho12 hoT12 rl12 b12 hd12 hg13 hws12
          go_wp2_with fail
          have rb := own_lit w13 w2.heap.size #[.string b, .string x3, .string b, .string x4] 9 4 hws13 rfl (by decide)
          have b14 := b13.alloc (o := .cells #[.string b, .string x3, .string b, .string x4] 9) b13.size
          have ho14 := ho13.alloc (.cells #[.string b, .string x3, .string b, .string x4] 9)
          have hoT14 := hoT13.alloc (.cells #[.string b, .string x3, .string b, .string x4] 9)
          have rl14 := rl13.alloc (.cells #[.string b, .string x3, .string b, .string x4] 9)
          have ra14 := ra13.alloc (.cells #[.string b, .string x3, .string b, .string x4] 9)
          clear ho13 hoT13 rl13 ra13 b13 hd13
          generalize hBB : w13.heap.size = BB at *
          generalize w13.alloc (.cells #[.string b, .string x3, .string b, .string x4] 9) = w14 at *
          have e1 : ([a, x1, x2, a] : List ByteArray).length = 4 := rfl
          have e2 : ([b, x3, b, x4] : List ByteArray).length = 4 := rfl
          have CA : Hid (Cells w14 (some ⟨BA, 0, none⟩) (([a, x1, x2, a] : List ByteArray).map Value.string)) := Lib.hid (cells_own ra14)
          have CB : Hid (Cells w14 (some ⟨BB, 0, none⟩) (([b, x3, b, x4] : List ByteArray).map Value.string)) := Lib.hid (cells_own rb)
          have sls : StrLists w14 (some ⟨BL, 0, none⟩) [Value.slice A n c, Value.slice O sa.length capo, Value.slice SA sa.length scap, Value.slice SA sa.length scap] := by
            refine ⟨cells_own rl14, fun i hi => ?_⟩
            have so := StrList.own ho14 rfl (by omega)
            have st := StrList.own hoT14 HTL.out.symm (by omega)
            match i, hi with
            | 0, _ => exact ⟨ss, SL.out.below b14⟩
            | 1, _ => exact ⟨sa, so⟩
            | 2, _ => exact ⟨T, st⟩
            | 3, _ => exact ⟨T, st⟩
          have e3 : ([Value.slice A n c, Value.slice O sa.length capo, Value.slice SA sa.length scap, Value.slice SA sa.length scap] : List Value).length = 4 := rfl
          have SLS := Lib.hid sls
          have LN1 := Lib.hid e1
          have LN2 := Lib.hid e2
          have LN3 := Lib.hid e3
          clear ra14 rb rl14 ho14 hoT14 sls e1 e2 e3 hBA hBB hws13
          generalize ([a, x1, x2, a] : List ByteArray) = as_ at *
          generalize ([b, x3, b, x4] : List ByteArray) = bs_ at *
          generalize ([Value.slice A n c, Value.slice O sa.length capo, Value.slice SA sa.length scap, Value.slice SA sa.length scap] : List Value) = vs at *
          go_wp2_with fail
          go_loopw [18, 19, 20, 21, 22, 23, 24, 25, 26, 27] (fun i _ _ _ _ _ _ _ _ _ wr => ∃ k : Nat, k ≤ 4 ∧ i = .int .i64 k ∧ Below w.heap.size w wr ∧ StrLists wr (some ⟨BL, 0, none⟩) vs ∧ Cells wr (some ⟨BA, 0, none⟩) (as_.map Value.string) ∧ Cells wr (some ⟨BB, 0, none⟩) (bs_.map Value.string)) (fun i _ _ _ _ _ _ _ _ _ _ => 4 - (intOf i).toNat)
          case atStart => exact ⟨0, Nat.zero_le _, rfl, b14, SLS.out, CA.out, CB.out⟩
          case round =>
            obtain ⟨k, hk, rfl, t0, hs, ha_, hb_⟩ := hrel
            have S0 := Lib.hid hs
            have I0 := Lib.hid ha_
            have Z0 := Lib.hid hb_
            clear hs ha_ hb_ b14 SLS CA CB
            by_cases hlt : k < 4
            · obtain ⟨bl, ol, hv, l0⟩ := S0.out.1.any k (by rw [LN3.out]; exact hlt)
              injection hv with hv
              injection hv with hv1 hv2
              subst hv1 hv2
              obtain ⟨bl, ol, hv, i0⟩ := I0.out.str k (by rw [LN1.out]; exact hlt)
              injection hv with hv
              injection hv with hv1 hv2
              subst hv1 hv2
              obtain ⟨bl, ol, hv, z0⟩ := Z0.out.str k (by rw [LN2.out]; exact hlt)
              injection hv with hv
              injection hv with hv1 hv2
              subst hv1 hv2
              rw [Nat.zero_add] at l0 i0 z0
              obtain ⟨sk, hsk⟩ := S0.out.2 k (by rw [LN3.out]; exact hlt)
              generalize hX1 : vs[k]'(by rw [LN3.out]; exact hlt) = V at *
              generalize hX2 : as_[k]'(by rw [LN1.out]; exact hlt) = X at *
              generalize hX3 : bs_[k]'(by rw [LN2.out]; exact hlt) = Y at *
              clear hX1 hX2 hX3
              obtain ⟨A', n', c', rfl, hn', hb', h0', hc'⟩ := hsk
              have j5 : (0 : Int) ≤ (k : Int) := by omega
              have j6 : (k : Int) < 4 := by omega
              have QD := Lib.hid (DupStrings_any A' n' c' sk wr hn' (by omega) h0' hc')
              have M0 := Lib.hid hc'
              have HN := Lib.hid hn'
              clear h0' hc' hn'
              go_wp2_with fail
              refine QD.out.mono ?_
              rintro e v1 ⟨oo, rfl, hoo, h1⟩
              obtain ⟨A2, c2, rfl⟩ := own_form hoo
              rw [← HN.out] at hoo ⊢
              have N0 := cells_own hoo
              obtain ⟨Pk, hPk⟩ : ∃ Pk : World → Prop, ∀ v, Pk v ↔ (Below w.heap.size w v ∧ v.cell? ⟨BL, k, none⟩ = some (.slice A' n' c') ∧ v.cell? ⟨BA, k, none⟩ = some (.string X) ∧ v.cell? ⟨BB, k, none⟩ = some (.string Y) ∧
                  Cells v A2 (sk.map Value.string) ∧ Cells v A' (sk.map Value.string) ∧ StrLists v (some ⟨BL, 0, none⟩) vs ∧ Cells v (some ⟨BA, 0, none⟩) (as_.map Value.string) ∧ Cells v (some ⟨BB, 0, none⟩) (bs_.map Value.string)) := ⟨_, fun _ => Iff.rfl⟩
              have KP : Hid (∀ v v', Pk v → Below v.heap.size v v' → Pk v') := Lib.hid fun v v' h hb => by
                obtain ⟨g1, g2, g3, g4, g5, g6, g7, g8, g9⟩ := (hPk v).1 h
                exact (hPk v').2 ⟨g1.trans (hb.mono g1.size), (hb.cell (World.block_lt_of_cell? _ _ g2)).trans g2, (hb.cell (World.block_lt_of_cell? _ _ g3)).trans g3, (hb.cell (World.block_lt_of_cell? _ _ g4)).trans g4, g5.below hb, g6.below hb, g7.below hb, g8.below hb, g9.below hb⟩
              have Pv1 : Hid (Pk v1) := Lib.hid ((hPk v1).2 ⟨t0.trans (h1.mono t0.size), (h1.cell (World.block_lt_of_cell? _ _ l0)).trans l0, (h1.cell (World.block_lt_of_cell? _ _ i0)).trans i0, (h1.cell (World.block_lt_of_cell? _ _ z0)).trans z0, N0, M0.out.below h1, S0.out.below h1, I0.out.below h1, Z0.out.below h1⟩)
              have KC : Hid (∀ v, Pk v → v.cell? ⟨BL, k, none⟩ = some (.slice A' n' c') ∧ v.cell? ⟨BA, k, none⟩ = some (.string X) ∧ v.cell? ⟨BB, k, none⟩ = some (.string Y)) := Lib.hid fun v h => by
                obtain ⟨g1, g2, g3, g4, _⟩ := (hPk v).1 h
                exact ⟨g2, g3, g4⟩
              have KE : Hid (∀ v, Pk v → Below w.heap.size w v ∧ StrLists v (some ⟨BL, 0, none⟩) vs ∧ Cells v (some ⟨BA, 0, none⟩) (as_.map Value.string) ∧ Cells v (some ⟨BB, 0, none⟩) (bs_.map Value.string)) := Lib.hid fun v h => by
                obtain ⟨g1, g2, g3, g4, g5, g6, g7, g8, g9⟩ := (hPk v).1 h
                exact ⟨g1, g7, g8, g9⟩
              have QC1 := Lib.hid (fun v (h : Pk v) => pCompare_any X Y v (HLE.out.below ((hPk v).1 h).1))
              have QC2 := Lib.hid (fun v (_ : Pk v) => Compare_any X Y v)
              have QS1 := Lib.hid (fun v (h : Pk v) => pSort_any A2 n' c2 sk v (HLE.out.below ((hPk v).1 h).1) HN.out ((hPk v).1 h).2.2.2.2.1)
              have QS2 := Lib.hid (fun v (h : Pk v) => Sort_any A' n' c' sk v HN.out ((hPk v).1 h).2.2.2.2.2.1)
              have QP1 := Lib.hid (fun v (h : Pk v) => pPlace_any A2 n' c2 sk X v (HLE.out.below ((hPk v).1 h).1) HN.out ((hPk v).1 h).2.2.2.2.1)
              have QP2 := Lib.hid (fun v (h : Pk v) => Place_any A' n' c' sk X v HN.out ((hPk v).1 h).2.2.2.2.2.1)
              have QW1 := Lib.hid (fun v (h : Pk v) => pWrong_any A2 n' c2 sk v (HLE.out.below ((hPk v).1 h).1) HN.out ((hPk v).1 h).2.2.2.2.1)
              have QW2 := Lib.hid (fun v (h : Pk v) => rWrong_any A' n' c' sk v HN.out ((hPk v).1 h).2.2.2.2.2.1)
              have hw6 : (wrongL sk).length ≤ 6 := wrong_len sk
              have hs6 : (sortL sk).length ≤ 1000 := by have h1 := sort_len sk; have h2 := HN.out; omega
              have QE1 := Lib.hid (fun P c3 P' c4 v (h1 : Cells v P ((sortL sk).map (Value.int .i64))) (h2 : Cells v P' ((sortL sk).map (Value.int .i64))) => EqInts_any P P' (sortL sk).length (sortL sk).length c3 c4 (sortL sk) (sortL sk) v rfl rfl (by omega) h1 h2)
              have QE2 := Lib.hid (fun P c3 P' c4 v (h1 : Cells v P ((wrongL sk).map (Value.int .i64))) (h2 : Cells v P' ((wrongL sk).map (Value.int .i64))) => EqInts_any P P' (wrongL sk).length (wrongL sk).length c3 c4 (wrongL sk) (wrongL sk) v rfl rfl (by omega) h1 h2)
              have QE3 := Lib.hid (fun v (h : Pk v) => EqStrings_any A2 A' n' n' c2 c' sk sk v HN.out HN.out (by omega) ((hPk v).1 h).2.2.2.2.1 ((hPk v).1 h).2.2.2.2.2.1)
              unfold ComparePost at QC1 QC2
              unfold SortAns at QS1
              simp only [sortP_eq] at QS1
              unfold IntsPost at QS2
              unfold PlaceAns at QP1
              unfold PlacePost at QP2
              unfold WrongAns at QW1
              unfold RWrongAns at QW2
              unfold EqPost at QE1 QE2 QE3
              simp only [decide_true] at QE1 QE2 QE3
              clear hoo N0 M0 S0 I0 Z0 QD hPk h1 t0
              generalize compareB X.data.toList Y.data.toList = R1 at *
              generalize pairErr X.data.toList Y.data.toList = R2 at *
              generalize sortL sk = L1 at *
              generalize wrongL sk = L2 at *
              generalize listErr sk = R3 at *
              generalize placeB sk X = R4 at *
              generalize placeErr sk X = R5 at *
              clear l0 i0 z0
              obtain ⟨lv1, iv1, zv1⟩ := KC.out _ Pv1.out
              go_wp2_with fail
              obtain ⟨T_, g, hg0, hgb, hT, hgl0, hgl1⟩ : ∃ (T_ : Type) (g : T_ → World), (∃ x, v1.drew = g x) ∧ (∀ x, Below v1.heap.size v1 (g x)) ∧
                  (∀ x, Calls Tryz.prog 14 #[.string X, .string Y] (g x) fun e w' => e = .returned (.tuple #[.int .i64 R1, .int .i64 R2]) ∧ ∃ y, w' = g y) ∧ (∀ x, (g x).cell? ⟨BA, k, none⟩ = some (.string X)) ∧ (∀ x, (g x).cell? ⟨BB, k, none⟩ = some (.string Y)) :=
                ⟨Since v1, Subtype.val, Since.here v1, fun x => x.property, fun x => x.calls (QC1.out _ (KP.out _ _ Pv1.out x.property)), fun x => x.cell iv1, fun x => x.cell zv1⟩
              have hTne : Nonempty T_ := let ⟨x, _⟩ := hg0; ⟨x⟩
              have HT1 := Lib.hid hT
              clear hT
              refine wp_region_class g hg0 (by kernel_rfl) (by kernel_rfl) ?_
              repeat (go_big_quiet_step (fail))
              go_big_quiet_step (exact HT1.out _)
              repeat (go_big_quiet_step (fail))
              refine wpQuiet_nil ?_
              rintro _ ⟨xq, rfl⟩
              have Pv2 := Lib.hid (KP.out _ _ Pv1.out (hgb xq))
              clear hgb hg0 hgl0 hgl1 HT1 Pv1 lv1 iv1 zv1
              generalize g xq = v2 at *
              clear hTne xq g T_
              obtain ⟨lv2, iv2, zv2⟩ := KC.out _ Pv2.out
              go_wp2_with fail
              obtain ⟨T_, g, hg0, hgb, hT, hgl0, hgl1⟩ : ∃ (T_ : Type) (g : T_ → World), (∃ x, v2.drew = g x) ∧ (∀ x, Below v2.heap.size v2 (g x)) ∧
                  (∀ x, Calls Tryz.prog 15 #[.string X, .string Y] (g x) fun e w' => e = .returned (.tuple #[.int .i64 R1, .int .i64 R2]) ∧ ∃ y, w' = g y) ∧ (∀ x, (g x).cell? ⟨BA, k, none⟩ = some (.string X)) ∧ (∀ x, (g x).cell? ⟨BB, k, none⟩ = some (.string Y)) :=
                ⟨Since v2, Subtype.val, Since.here v2, fun x => x.property, fun x => x.calls (QC2.out _ (KP.out _ _ Pv2.out x.property)), fun x => x.cell iv2, fun x => x.cell zv2⟩
              have hTne : Nonempty T_ := let ⟨x, _⟩ := hg0; ⟨x⟩
              have HT1 := Lib.hid hT
              clear hT
              refine wp_region_class g hg0 (by kernel_rfl) (by kernel_rfl) ?_
              repeat (go_big_quiet_step (fail))
              go_big_quiet_step (exact HT1.out _)
              repeat (go_big_quiet_step (fail))
              refine wpQuiet_nil ?_
              rintro _ ⟨xq, rfl⟩
              have Pv3 := Lib.hid (KP.out _ _ Pv2.out (hgb xq))
              clear hgb hg0 hgl0 hgl1 HT1 Pv2 lv2 iv2 zv2
              generalize g xq = v3 at *
              clear hTne xq g T_
              obtain ⟨lv3, iv3, zv3⟩ := KC.out _ Pv3.out
              go_wp2_with fail
              refine (QS1.out _ Pv3.out).mono ?_
              rintro e v4 ⟨P4, c4, rfl, hc4, hbv4, _⟩
              have Pv4 := Lib.hid (KP.out _ _ Pv3.out hbv4)
              obtain ⟨lv4, iv4, zv4⟩ := KC.out _ Pv4.out
              clear Pv3 lv3 iv3 zv3
              have C4 := Lib.hid hc4
              clear hc4 hbv4
              go_wp2_with fail
              refine (QS2.out _ Pv4.out).mono ?_
              rintro e v5 ⟨o5, rfl, ho5, hbv5⟩
              have Pv5 := Lib.hid (KP.out _ _ Pv4.out hbv5)
              obtain ⟨lv5, iv5, zv5⟩ := KC.out _ Pv5.out
              clear Pv4 lv4 iv4 zv4
              obtain ⟨P5, c5, rfl⟩ := own_form ho5
              have C5 := Lib.hid (cells_own ho5)
              have D4 := Lib.hid (C4.out.below hbv5)
              clear ho5 hbv5 C4
              go_wp2_with fail
              refine (QE1.out _ _ _ _ _ D4.out C5.out).mono ?_
              rintro e v6 ⟨rfl, kd, rfl⟩
              have Pv6 : Hid (Pk (v5.drewN kd)) := Lib.hid (KP.out _ _ Pv5.out (Drew.below ⟨kd, rfl⟩ _))
              clear Pv5 lv5 iv5 zv5 C5 D4 QE1 QS1 QS2 QC1 QC2
              generalize v5.drewN kd = v6 at *
              obtain ⟨lv6, iv6, zv6⟩ := KC.out _ Pv6.out
              go_wp2_with fail
              refine (QP1.out _ Pv6.out).mono ?_
              rintro e v7 ⟨rfl, hbv7⟩
              have Pv7 := Lib.hid (KP.out _ _ Pv6.out hbv7)
              obtain ⟨lv7, iv7, zv7⟩ := KC.out _ Pv7.out
              clear Pv6 lv6 iv6 zv6
              clear hbv7
              go_wp2_with fail
              obtain ⟨T_, g, hg0, hgb, hT, hgl0, hgl1⟩ : ∃ (T_ : Type) (g : T_ → World), (∃ x, v7.drew = g x) ∧ (∀ x, Below v7.heap.size v7 (g x)) ∧
                  (∀ x, Calls Tryz.prog 19 #[.slice A' n' c', .string X] (g x) fun e w' => e = .returned (.tuple #[.int .i64 R4, .int .i64 R5]) ∧ ∃ y, w' = g y) ∧ (∀ x, (g x).cell? ⟨BL, k, none⟩ = some (Value.slice A' n' c')) ∧ (∀ x, (g x).cell? ⟨BA, k, none⟩ = some (.string X)) :=
                ⟨Since v7, Subtype.val, Since.here v7, fun x => x.property, fun x => x.calls (QP2.out _ (KP.out _ _ Pv7.out x.property)), fun x => x.cell lv7, fun x => x.cell iv7⟩
              have hTne : Nonempty T_ := let ⟨x, _⟩ := hg0; ⟨x⟩
              have HT1 := Lib.hid hT
              clear hT
              refine wp_region_class g hg0 (by kernel_rfl) (by kernel_rfl) ?_
              repeat (go_big_quiet_step (fail))
              go_big_quiet_step (exact HT1.out _)
              repeat (go_big_quiet_step (fail))
              refine wpQuiet_nil ?_
              rintro _ ⟨xq, rfl⟩
              have Pv8 := Lib.hid (KP.out _ _ Pv7.out (hgb xq))
              clear hgb hg0 hgl0 hgl1 HT1 Pv7 lv7 iv7 zv7
              generalize g xq = v8 at *
              clear hTne xq g T_
              obtain ⟨lv8, iv8, zv8⟩ := KC.out _ Pv8.out
              go_wp2_with fail
              refine (QW1.out _ Pv8.out).mono ?_
              rintro e v9 ⟨o9, rfl, ho9, _, hbv9⟩
              have Pv9 := Lib.hid (KP.out _ _ Pv8.out hbv9)
              obtain ⟨lv9, iv9, zv9⟩ := KC.out _ Pv9.out
              clear Pv8 lv8 iv8 zv8
              obtain ⟨P9, c9, rfl⟩ := own_form ho9
              have C9 := Lib.hid (cells_own ho9)
              clear ho9 hbv9
              go_wp2_with fail
              refine (QW2.out _ Pv9.out).mono ?_
              rintro e va ⟨Pa, ca, rfl, hca, hbva⟩
              have Pva := Lib.hid (KP.out _ _ Pv9.out hbva)
              obtain ⟨lva, iva, zva⟩ := KC.out _ Pva.out
              clear Pv9 lv9 iv9 zv9
              have Ca := Lib.hid hca
              have Da := Lib.hid (C9.out.below hbva)
              clear hca hbva C9
              go_wp2_with fail
              refine (QE2.out _ _ _ _ _ Da.out Ca.out).mono ?_
              rintro e vb ⟨rfl, kd, rfl⟩
              have Pvb : Hid (Pk (va.drewN kd)) := Lib.hid (KP.out _ _ Pva.out (Drew.below ⟨kd, rfl⟩ _))
              clear Pva lva iva zva Ca Da QE2
              generalize va.drewN kd = vb at *
              obtain ⟨lvb, ivb, zvb⟩ := KC.out _ Pvb.out
              go_wp2_with fail
              refine (QE3.out _ Pvb.out).mono ?_
              rintro e vc ⟨rfl, kd, rfl⟩
              have Pvc : Hid (Pk (vb.drewN kd)) := Lib.hid (KP.out _ _ Pvb.out (Drew.below ⟨kd, rfl⟩ _))
              generalize vb.drewN kd = vc at *
              obtain ⟨t9, s9, a9, b9⟩ := KE.out _ Pvc.out
              clear Pvb lvb ivb zvb Pvc
              go_wp2_with fail
              go_roundw
              case rel => exact ⟨k + 1, by omega, by go_num, t9, s9, a9, b9⟩
              case measure => simp [intOf]; omega
            · clear S0 I0 Z0
              have hx : ¬ ((k : Int) < 4) := by omega
              go_wp2_with fail
              refine (spelling_at _ t0).mono ?_
              rintro e wz ⟨rfl, hbz⟩
              go_wp2_with fail
              go_ret
              exact ⟨rfl, hbz⟩
end Go.Proofs.YtljlkhaolfihjaaGreatDoor
