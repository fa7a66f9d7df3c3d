/- Near has just the names that are not Out, in the order of their uses, of as many uses by their index: the walk. -/
import Derived.Test.YtlhiekeolmgilaaGreatDoorLawG0
import Derived.Test.YtlhiekeolmgilaaGreatDoorLawI0
import Derived.Test.YtlhiekeolmgilaaGreatDoorPgNr
import Derived.Test.YtlhiekeolmgilaaGreatDoorSpecM
namespace Go.Proofs.YtlhiekeolmgilaaGreatDoor
open Go.RowKit

set_option maxRecDepth 100000 in
set_option maxHeartbeats 6400000 in
theorem NameNear_any (A : Option Addr) (n c : Nat) (w : World) (hn : n ≤ 1000000000000000000) (hx : NumsIn w A n) :
    Calls Tryz.prog 8 #[.slice A n c] w (TruePost w) := by
  have HX := Lib.hid hx
  clear hx
  go_enter Tryz.func8, Tryz.ntmps8
  go_wp2_with fail
  refine (NewDice_any A n c _ hn HX.out).mono ?_
  rintro e w2 ⟨rfl, hd2, b3⟩
  generalize hDD : w.heap.size = D at hd2
  have hD : w.heap.size ≤ D := Nat.le_of_eq hDD
  have hD2 := hd2.lt
  clear hDD
  go_wp2_with fail
  refine (RulesOf_any D _ 3 _ hd2 (by decide) (by decide)).mono ?_
  rintro e w3 ⟨ro, rs, rfl, hr3, hor3, hrm, hd3, hg3⟩
  obtain ⟨AR, cr, rfl⟩ := own_form hor3
  have b4 := b3.grown hg3 b3.size fun k hk => by cases hk; exact hD
  have hD3 := hd3.lt
  have hr4 : rs.length ≤ 4 := by omega
  have HRK := Lib.hid (made_rules hr4 hrm)
  clear hd2 hg3 b3 hrm hr3
  go_wp2_with fail
  refine (NamesOf_any D _ 5 3 _ hd3 (by decide) (by decide) (by decide) (by decide)).mono ?_
  rintro e w4 ⟨o, sa, rfl, hl4, ho4, hlike4, hd4, hg4⟩
  have b5 := b4.grown hg4 b4.size fun k hk => by cases hk; exact hD
  have hor4 := own_kept hor3 hg4 hD2
  obtain ⟨O, capo, rfl⟩ := own_form ho4
  have HL4 := Lib.hid hlike4
  clear hor3 hlike4 hd3
  go_wp2_with fail
  refine (NameOf_any D _ 3 _ hd4 (by decide) (by decide)).mono ?_
  rintro e w5 ⟨s4, rfl, hs5, hs5', hl5, hd5, hg5⟩
  have b6 := b5.grown hg5 b5.size fun k hk => by cases hk; exact hD
  have ho5 := own_kept ho4 hg5 hD3
  have hor5 := own_kept hor4 hg5 hD2
  have HS5 : Hid (Made6 s4) := Lib.hid ⟨hs5, by omega, hl5⟩
  have HM : Hid (∀ i (h : i < sa.length), Made6 sa[i]) := Lib.hid fun i h => by
    have hk := HL4.out _ (List.getElem_mem h)
    exact ⟨hk.1, by have := hk.2.1; omega, hk.2.2⟩
  have hsa : sa.length ≤ 5 := by omega
  clear hl5 hs5 hs5' hd4 hg5 hg4 b5 ho4 b4 hor4 hl4 HL4
  go_upto_region 3 with fail
  go_cut [28] from 22 to 27 (fun s wx => ∃ x : Bool, s = .bool x ∧ (x = true → 0 < sa.length) ∧ Hid (Cells wx AR (ruleCells rs)) ∧ Hid (Cells wx O (sa.map Value.string)) ∧ Below w.heap.size w wx)
  case first =>
    by_cases h0 : sa.length = 0
    · have z : ¬ ((0 : Int) < (sa.length : Int)) := by omega
      have CR := Lib.hid (cells_own hor5)
      have CO := Lib.hid (cells_own ho5)
      clear hor5 ho5 h0
      go_wp2_with fail
      go_meet
      exact ⟨false, rfl, (fun h => by cases h), CR, CO, b6⟩
    · have z : (0 : Int) < (sa.length : Int) := by omega
      have HL0 : Hid (0 < sa.length) := Lib.hid (by omega)
      clear h0
      go_wp2_with fail
      refine (Once_any D _ 2 _ hd5 (by decide) (by decide)).mono ?_
      rintro e w6 ⟨x, rfl, hd6, hg6⟩
      have hor6 := own_kept hor5 hg6 hD2
      have ho6 := own_kept ho5 hg6 hD3
      have b7 := b6.grown hg6 b6.size fun k hk => by cases hk; exact hD
      have CR := Lib.hid (cells_own hor6)
      have CO := Lib.hid (cells_own ho6)
      clear hor5 ho5 hor6 ho6 hg6 hd6
      go_wp2_with fail
      go_meet
      exact ⟨x, rfl, fun _ => HL0.out, CR, CO, b7⟩
  case rest =>
   obtain ⟨x, rfl, hx0, CR, CO, bx⟩ := hcut
   clear hor5 ho5 hd5 b6
   go_upto_if 28 with fail
   go_cut [6] from 29 to 31 (fun s wx => ∃ X, Made6 X ∧ s = .string X ∧ Hid (Cells wx AR (ruleCells rs)) ∧ Hid (Cells wx O (sa.map Value.string)) ∧ Below w.heap.size w wx)
   case first =>
    cases x with
    | false =>
      go_wp2_with fail
      go_meet
      exact ⟨s4, HS5.out, rfl, CR, CO, bx⟩
    | true =>
      have hl0 := hx0 rfl
      have M0 := Lib.hid (HM.out 0 hl0)
      obtain ⟨q1, q2, hq, c1⟩ := CO.out.str 0 hl0
      subst hq
      rw [Nat.add_zero] at c1
      have z : (0 : Int) < (sa.length : Int) := by omega
      clear hx0
      generalize sa[0] = Y at *
      go_wp2_with fail
      go_meet
      exact ⟨Y, M0.out, rfl, CR, CO, bx⟩
   case rest =>
    clear hx0 CR CO bx
    obtain ⟨X, hX, rfl, CR, CO, bx⟩ := hcut
    generalize hWX : wc = wx at *
    clear hWX
    have HXM := Lib.hid hX
    have hcx := made_check hX
    obtain ⟨uu, huu⟩ : ∃ uu, (sa.map fun x => usesG rs (keyS X) (keyS x)) = uu := ⟨_, rfl⟩
    have hul : uu.length = sa.length := by rw [← huu, List.length_map]
    have hAll : AllOk sa := made_all HM.out
    have hu2 : ∀ u, u ∈ uu → ∀ k, u = some k → k ≤ 2 := by
      rw [← huu]
      intro u hu k hk
      obtain ⟨x, _, rfl⟩ := List.mem_map.1 hu
      exact usesG_le hk
    have hso := near_sorted uu (by omega) hu2
    have qn := Near_ok AR rs.length cr rs X O sa.length capo sa wx rfl HRK.out hcx CR.out rfl (by omega) hAll CO.out
    rw [huu, hso] at qn
    have QN := Lib.hid qn
    have HUV : Hid (∀ i (h : i < sa.length), uses9 rs (keyS sa[i]) (keyS X) = (uu.getD i none).getD 9) := Lib.hid fun i h => by
      rw [uses9_symm (made_key12 hX) (made_key12 (HM.out i h)), ← huu, List.getD_eq_getElem?_getD, List.getElem?_map, List.getElem?_eq_getElem h]
      rfl
    have HU2 : Hid (∀ i, uu.getD i none = none ∨ ∃ k, k ≤ 2 ∧ uu.getD i none = some k) := Lib.hid fun i => by
      cases hq : uu.getD i none with
      | none => exact .inl rfl
      | some k =>
        refine .inr ⟨k, hu2 (some k) ?_ k rfl, rfl⟩
        rw [List.getD_eq_getElem?_getD] at hq
        cases hq2 : uu[i]? with
        | none => rw [hq2] at hq; cases hq
        | some v =>
          rw [hq2] at hq
          have hq3 : v = some k := hq
          subst hq3
          exact List.mem_of_getElem? hq2
    have HUL := Lib.hid hul
    have QU := Lib.hid (fun i (h : i < sa.length) W (hW : Below wx.heap.size wx W) => lawUses_ok AR rs.length cr rs X sa[i] W rfl HRK.out (made_ok2 HXM.out (HM.out i h)) (CR.out.below hW))
    have hnl : (nearO uu).length ≤ sa.length := by
      have h1 : nearO uu = nearS uu := hso.symm
      have h2 : (nearS uu).length ≤ (nearAt uu uu.length).length := by
        unfold nearS
        exact Nat.le_of_eq (sortNat_facts (ltU uu) (ltU_swo uu) _).1.length_eq
      have h3 := nearAt_len uu uu.length
      rw [h1]; omega
    unfold SortPost at QN
    clear hX hcx hu2 hso qn hul huu hAll
    go_wp2_with fail
    refine QN.out.mono ?_
    rintro e w7 ⟨NA, nc, rfl, hnc, hb7⟩
    rw [List.length_map]
    have hc := bx.trans (hb7.mono bx.size)
    have HNC := Lib.hid hnc
    have CO7 := Lib.hid (CO.out.below hb7)
    have hb7s := hb7.size
    have HB7 := Lib.hid hb7
    have HPZ := Lib.hid (doneU_zero uu)
    have HPE := Lib.hid (doneU_end uu)
    have HPN := Lib.hid (doneU_next uu)
    have HPH := Lib.hid (doneU_hit uu)
    have HPM := Lib.hid (doneU_miss uu)
    have HNE : Hid (∀ i j, i < (nearO uu).length → (nearO uu).getD i 0 = j → ∃ b off : Nat, NA = some ⟨b, off, none⟩ ∧ w7.cell? ⟨b, off + i, none⟩ = some (.int .i64 (j : Int))) := Lib.hid fun i j hi e => by
      obtain ⟨b, off, e1, h1⟩ := hnc i (by simpa using hi)
      refine ⟨b, off, e1, ?_⟩
      rw [h1, List.getD_eq_getElem?_getD, List.getElem?_map, List.getElem?_map, List.getElem?_eq_getElem hi]
      rw [List.getD_eq_getElem?_getD, List.getElem?_eq_getElem hi] at e
      have e2 : (nearO uu)[i] = j := e
      rw [e2]
      rfl
    have hmx : decide (sa.length < (nearO uu).length) = false := decide_eq_false (by omega)
    generalize hNLE : (nearO uu).length = NL at *
    have HNLE := Lib.hid hNLE
    clear hNLE
    clear hnc CO hb7 QN HNC bx
    have hc0 := hc.size
    go_wp2_with fail
    go_loopw [9, 10, 11, 12, 13] (fun atv nv _ _ _ wr => ∃ k : Nat, k ≤ 3 ∧ nv = .int .i64 k ∧ atv = .int .i64 ((doneU uu k 0).length : Nat) ∧ Below w7.heap.size w7 wr) (fun _ nv _ _ _ _ => 3 - (intOf nv).toNat)
    case atStart => exact ⟨0, by omega, rfl, rfl, Below.refl _ _⟩
    case round =>
      obtain ⟨k, hk, rfl, rfl, t0⟩ := hrel
      by_cases hk2 : k < 3
      · have jk : (k : Int) ≤ 2 := by omega
        go_wp2_with fail
        go_loopw [9, 11, 12, 13] (fun atv iv _ _ wi => ∃ i : Nat, i ≤ sa.length ∧ iv = .int .i64 i ∧ atv = .int .i64 ((doneU uu k i).length : Nat) ∧ Below w7.heap.size w7 wi) (fun _ iv _ _ _ => sa.length - (intOf iv).toNat)
        case atStart => exact ⟨0, Nat.zero_le _, rfl, rfl, t0⟩
        case round =>
          obtain ⟨i, hi, rfl, rfl, t1⟩ := hrel
          clear t0
          by_cases hil : i < sa.length
          · obtain ⟨q1, q2, rfl, c1⟩ := (CO7.out.below t1).str i hil
            have qu := QU.out i hil wr ((show Below wx.heap.size wx w7 from HB7.out).trans (t1.mono hb7s))
            unfold Uses9Ans at qu
            rw [HUV.out i hil] at qu
            have hu2 := HU2.out i
            have hph := HPH.out k i (by omega) (by rw [HUL.out]; exact hil)
            have hpm := HPM.out k i
            have i0 : (0 : Int) ≤ (i : Int) := by omega
            have i1 : (i : Int) < (sa.length : Int) := by omega
            generalize uu.getD i none = U at *
            generalize sa[i] = Y at *
            have QU1 := Lib.hid qu
            clear qu
            by_cases hU : U = some k
            · subst hU
              obtain ⟨h1, h2, h3⟩ := hph rfl
              obtain ⟨b, off, rfl, hcn⟩ := HNE.out _ _ h2 h3
              have H1 := Lib.hid h1
              have z1 : ¬ ((NL : Int) ≤ ((doneU uu k i).length : Int)) := by omega
              have z2 : (0 : Int) ≤ ((doneU uu k i).length : Int) := by omega
              have z3 : ((doneU uu k i).length : Int) < (NL : Int) := by omega
              have z4 : ((doneU uu k i).length : Int) < 1000 := by omega
              have z5 : decide (NL ≤ (doneU uu k i).length) = false := decide_eq_false (by omega)
              have HP1 : Hid ((doneU uu k (i + 1)).length = (doneU uu k i).length + 1) := Lib.hid (by rw [h1, List.length_append]; rfl)
              generalize (doneU uu k i).length = P at *
              clear h1 h2 h3 hph hpm hu2
              go_wp2_with fail
              refine QU1.out.mono ?_
              rintro e w8 ⟨rfl, hb8⟩
              have t2 := t1.trans (hb8.mono t1.size)
              have hcn8 := (t2.cell (World.block_lt_of_cell? _ _ hcn)).trans hcn
              have m1 : ((((some k : Option Nat).getD 9 : Nat) : Int) == (k : Int)) = true := beq_iff_eq.2 rfl
              clear hcn
              go_wp2_with fail
              go_roundw
              case rel => exact ⟨i + 1, by omega, by go_num, by rw [HP1.out]; go_num, t2⟩
              case measure => simp [intOf]; omega
            · have H1 := Lib.hid (hpm hU)
              have m1 : (((U.getD 9 : Nat) : Int) == (k : Int)) = false := by
                rw [beq_eq_false_iff_ne]
                rcases hu2 with rfl | ⟨u, hu, rfl⟩
                · show ((9 : Nat) : Int) ≠ (k : Int)
                  omega
                · intro h
                  refine hU ?_
                  have h5 : (u : Int) = (k : Int) := h
                  have h6 : u = k := by omega
                  rw [h6]
              generalize U.getD 9 = M at *
              clear hph hpm hu2 hU
              go_wp2_with fail
              refine QU1.out.mono ?_
              rintro e w8 ⟨rfl, hb8⟩
              have t2 := t1.trans (hb8.mono t1.size)
              go_wp2_with fail
              go_roundw
              case rel => exact ⟨i + 1, by omega, by go_num, by rw [H1.out], t2⟩
              case measure => simp [intOf]; omega
          · have hie : i = sa.length := by omega
            have hne := HPN.out k (by omega)
            rw [HUL.out, ← hie] at hne
            have HN1 := Lib.hid hne
            clear hne
            go_wp2_with fail
            go_roundw
            case rel => exact ⟨k + 1, by omega, by go_num, by rw [HN1.out], t1⟩
            case measure => simp [intOf]; omega
      · have hk3 : k = 3 := by omega
        have jk : ¬ ((k : Int) ≤ 2) := by omega
        have hpe : (doneU uu k 0).length = NL := by rw [hk3, HPE.out]; exact HNLE.out
        have m1 : (((doneU uu k 0).length : Int) == (NL : Int)) = true := by rw [hpe]; simp
        generalize (doneU uu k 0).length = P at *
        clear hpe HPZ HPE HPN HPH HPM HNE
        go_wp2_with fail
        refine (spelling_at _ (hc.trans (t0.mono hc.size))).mono ?_
        rintro e wz ⟨rfl, hbz⟩
        go_wp2
        go_ret
        exact ⟨rfl, hbz⟩
end Go.Proofs.YtlhiekeolmgilaaGreatDoor
