/- One rule more never makes a verdict Out that was not, nor uses more: the walk. -/
import Derived.Test.YtapagncaadjiaabGreatDoorLawG0
import Derived.Test.YtapagncaadjiaabGreatDoorKitG
namespace Go.Proofs.YtapagncaadjiaabGreatDoor
open Go.RowKit

theorem own_apart {w w' : World} {base n size : Nat} {e : TypeId} {v : Value} {xs : List Value} {row : Option Nat} (h : w.ownsRow base e size v n xs) (hg : w.grownBy w' row) (B : Nat) (hl : ∀ g, v.ownBlock = some g → g < B) (hr : ∀ g, row = some g → B ≤ g) : w'.ownsRow base e size v n xs :=
  h.kept hg (by
    cases hA : v.ownBlock with
    | none => exact .inl rfl
    | some g =>
      refine .inr fun he => ?_
      have h1 := hl g hA
      have h2 := hr g he.symm
      omega)
theorem law_verdict {A : Option Addr} {nn c : Nat} {rs : List (ByteArray × ByteArray)} {a b : ByteArray} {V : Int} {W0 : World} (hn : nn = rs.length) (hf : RulesOk rs) (hx : Cells W0 A (ruleCells rs)) (ha : Made6 a) (hb : Made6 b) (hV : verdict9 (uses9 rs (keyS b) (keyS a)) = V) (W : World) (hW : Below W0.heap.size W0 W) :
    Calls Tryz.prog 17 #[.slice A nn c, .string a, .string b] W fun e w' => e = .returned (.tuple #[.int .i64 V, .int .i64 0]) ∧ Below W.heap.size W w' := by
  subst hV
  exact Verdict_ok A nn c rs a b W hn hf (made_ok2 ha hb) (hx.below hW)

set_option maxRecDepth 100000 in
set_option maxHeartbeats 6400000 in
theorem NameRules_any (A : Option Addr) (n c : Nat) (w : World) (hn : n ≤ 1000000000000000000) (hx : NumsIn w A n) :
    Calls Tryz.prog 4 #[.slice A n c] w (TruePost w) := by
  obtain ⟨si, hi, hz0, hz1, hz2⟩ := info_parts infoStr
  obtain ⟨ri, gi, gz0, gz1, gz2⟩ := info_parts infoRule
  have HX := Lib.hid hx
  clear hx
  go_enter Tryz.func4, Tryz.ntmps4
  go_wp2_with fail
  refine (NewDice_any A n c _ hn HX.out).mono ?_
  rintro e w2 ⟨rfl, hd2, b3⟩
  generalize hDD : w.heap.size = D at hd2
  have hD : w.heap.size ≤ D := Nat.le_of_eq hDD
  have hD2 := hd2.lt
  have hw2 := b3.size
  clear hDD
  go_wp2_with fail
  refine (RulesOf_any D _ 2 _ hd2 (by decide) (by decide)).mono ?_
  rintro e w3 ⟨ro, rs, rfl, hr3, hor3, hrm, hd3, hg3⟩
  obtain ⟨AR, cr, rfl⟩ := own_form hor3
  have b4 := b3.grown hg3 b3.size fun k hk => by cases hk; exact hD
  have hD3 := hd3.lt
  have hAR := fun g (hg : (Value.slice AR rs.length cr).ownBlock = some g) => (hor3.lt g hg).2
  have hr4 : rs.length ≤ 2 := by omega
  have HRM := Lib.hid hrm
  have hw3 := b4.size
  clear hd2 hg3 b3 hrm hr3
  have hz : (w3.alloc (.cells #[] 59)).ownsRow w3.heap.size 59 2 (.slice (some ⟨w3.heap.size, 0, none⟩) 0 0) 0 [] := World.ownsRow_lit w3 #[] 0 (Nat.le_refl _) (by unfold maxLen; omega) rfl
  have hor3a := hor3.alloc (.cells #[] 59)
  have hd3a := hd3.alloc (.cells #[] 59)
  have b4a := b4.alloc (o := .cells #[] 59) b4.size
  clear hor3 b4 hd3
  go_wp2_with (at_builtin; refine wpList_append_row2 _ rfl _ _ 25 rfl w3.heap.size 59 ri (.agg #[.string ByteArray.empty, .string ByteArray.empty]) 32 Tryz.underlying25 gi gz0 gz1 gz2 rfl _ 0 [] rfl hz _ _ rs.length _ rfl hor3a (rules_one rs) (by unfold maxLen; omega) (by omega) (by simp) ?_; intro v4 w4 hm4 hg4)
  have hr_ : ∀ g, (Value.slice (some ⟨w3.heap.size, 0, none⟩) 0 0).ownBlock = some g → w3.heap.size ≤ g := fun g hg => (hz.lt g hg).1
  have hor4 := own_apart hor3a hg4 w3.heap.size hAR hr_
  have b5 := b4a.grown hg4 b4a.size fun k hk => Nat.le_trans hw3 (hr_ k hk)
  have hbz : Below w3.heap.size (w3.alloc (.cells #[] 59)) w4 := (Below.refl w3.heap.size _).grown hg4 (by simp) hr_
  have hd4 := hd3a.under hbz hD3
  rw [List.nil_append, Nat.zero_add] at hm4
  obtain ⟨A4, c4, rfl⟩ := own_form hm4
  have hw4 : w3.heap.size ≤ w4.heap.size := by have := hg4.size; simp at this; omega
  clear hz hor3a hd3a b4a hg4 hbz hr_
  go_wp2_with fail
  refine (RulesOf_any D _ 2 _ hd4 (by decide) (by decide)).mono ?_
  rintro e w5 ⟨qo, qs, rfl, hq5, hoq5, hqm, hd5, hg5⟩
  obtain ⟨AQ, cq, rfl⟩ := own_form hoq5
  have b6 := b5.grown hg5 b5.size fun k hk => by cases hk; exact hD
  have hor5 := own_kept hor4 hg5 hD2
  have hm5 := own_kept hm4 hg5 hD3
  have hq4 : qs.length ≤ 2 := by omega
  have HQM := Lib.hid hqm
  have hw5 : w3.heap.size ≤ w5.heap.size := Nat.le_trans hw4 hg5.size
  clear hor4 hm4 hd4 b5 hqm hq5 hg5
  go_wp2_with (at_builtin; refine wpList_append_row2 _ rfl _ _ 25 rfl w3.heap.size 59 ri (.agg #[.string ByteArray.empty, .string ByteArray.empty]) 32 Tryz.underlying25 gi gz0 gz1 gz2 rfl _ rs.length _ rfl hm5 _ _ qs.length _ rfl hoq5 (rules_one qs) (by unfold maxLen; omega) (by omega) hw5 ?_; intro v6 w6 hm6 hg6)
  have hr_ : ∀ g, (Value.slice A4 rs.length c4).ownBlock = some g → w3.heap.size ≤ g := fun g hg => (hm5.lt g hg).1
  have hor6 := own_apart hor5 hg6 w3.heap.size hAR hr_
  have b7 := b6.grown hg6 b6.size fun k hk => Nat.le_trans hw3 (hr_ k hk)
  have hbz : Below w3.heap.size w5 w6 := (Below.refl w3.heap.size _).grown hg6 hw5 hr_
  have hd6 := hd5.under hbz hD3
  rw [← ruleCells_app] at hm6
  obtain ⟨AM, cm, rfl⟩ := own_form hm6
  have hw6 : w3.heap.size ≤ w6.heap.size := Nat.le_trans hw5 hg6.size
  have hD6 := hd6.lt
  have hAM := fun g (hg : (Value.slice AM (rs.length + qs.length) cm).ownBlock = some g) => (hm6.lt g hg).2
  clear hm5 hor5 hoq5 hd5 b6 hg6 hbz hr_
  go_wp2_with fail
  refine (NamesOf_any D _ 3 3 _ hd6 (by decide) (by decide) (by decide) (by decide)).mono ?_
  rintro e w7 ⟨o, sa, rfl, hl7, ho7, hlike7, hd7, hg7⟩
  have b8 := b7.grown hg7 b7.size fun k hk => by cases hk; exact hD
  have hor7 := own_kept hor6 hg7 hD2
  have hm7 := own_kept hm6 hg7 hD3
  obtain ⟨O, capo, rfl⟩ := own_form ho7
  have HL7 := Lib.hid hlike7
  have hw06 := b7.size
  clear hor6 hm6 hlike7 hd6 b7
  go_wp2_with fail
  refine (NameOf_any D _ 3 _ hd7 (by decide) (by decide)).mono ?_
  rintro e w8 ⟨s8, rfl, hs8, hs8', hl8, hd8, hg8⟩
  have b9 := b8.grown hg8 b8.size fun k hk => by cases hk; exact hD
  have ho8 := own_kept ho7 hg8 hD6
  have hor8 := own_kept hor7 hg8 hD2
  have hm8 := own_kept hm7 hg8 hD3
  have hws : w6.heap.size ≤ w8.heap.size := (grownBy_trans hg7 hg8).size
  have HS8 : Hid (Like s8 3) := Lib.hid ⟨hs8, hs8', hl8⟩
  have hsa : sa.length ≤ 3 := by omega
  clear hl8 hs8 hs8' hd7 hg8 hg7 b8 ho7 hor7 hm7 hd8 hl7
  go_wp2_with (at_builtin; refine wpList_append_own _ rfl _ _ 27 rfl w6.heap.size 9 si (.string ByteArray.empty) 1 16 Tryz.underlying27 hi hz0 hz1 hz2 rfl (by decide) _ _ _ rfl (ho8.alloc _) ⟨w8.heap.size, 0, none⟩ 1 1 [.string s8] rfl rfl (cell_one_new _ _ _) (by simp [Value.oneCell']) (by unfold maxLen; omega) (by omega) (by simp; omega) ?_; intro v9 w9 ho9 hg9 _; obtain ⟨G6, cap6, rfl⟩ := own_head ho9)
  have hbo := fun g (hg : (Value.slice O sa.length capo).ownBlock = some g) => (ho8.lt g hg).1
  have hb7 : Below w.heap.size w w9 := (b9.alloc (o := .cells #[.string s8] 9) b9.size).grown hg9 (by have := b9.size; simp; omega) fun k hk => by have h1 := hbo k hk; omega
  have hor9 := own_apart (hor8.alloc (.cells #[.string s8] 9)) hg9 w6.heap.size (fun g hg => by have := hAR g hg; omega) hbo
  have hm9 := own_apart (hm8.alloc (.cells #[.string s8] 9)) hg9 w6.heap.size hAM hbo
  have CR := Lib.hid (cells_own hor9)
  have CM := Lib.hid (cells_own hm9)
  have e6 : (sa.map Value.string ++ [Value.string s8]) = (sa ++ [s8]).map Value.string := by simp
  rw [e6] at ho9
  have CL := Lib.hid (cells_own ho9)
  have hLn : (sa ++ [s8]).length = sa.length + 1 := by simp
  have HLn := Lib.hid hLn
  have HM : Hid (∀ i (h : i < (sa ++ [s8]).length), Made6 (sa ++ [s8])[i]) := Lib.hid fun i h => by
    have hm : (sa ++ [s8])[i] ∈ sa ++ [s8] := List.getElem_mem h
    rw [List.mem_append, List.mem_singleton] at hm
    have hk : Like (sa ++ [s8])[i] 3 := by
      rcases hm with hm | hm
      · exact HL7.out _ hm
      · rw [hm]; exact HS8.out
    exact ⟨hk.1, by have := hk.2.1; omega, hk.2.2⟩
  have HRK := Lib.hid (made_rules (by omega) HRM.out)
  have HMK : Hid (RulesOk (rs ++ qs)) := Lib.hid (made_rules (by rw [List.length_append]; omega) (fun r hr => by
    rcases List.mem_append.1 hr with h | h
    · exact HRM.out r h
    · exact HQM.out r h))
  have HSUB : Hid (∀ r, r ∈ rs → r ∈ rs ++ qs) := Lib.hid fun r hr => List.mem_append_left _ hr
  have HNM : Hid (rs.length + qs.length = (rs ++ qs).length) := Lib.hid (by rw [List.length_append])
  generalize hMS : rs ++ qs = ms at *
  generalize hNN : sa.length + 1 = N at *
  have hN4 : N ≤ 4 := by omega
  have hN1 : 1 ≤ N := by omega
  have hw0 := hb7.size
  clear hMS hNN ho9 hor9 hm9 ho8 hor8 hm8 hg9 hbo hAR hAM HL7 HS8 e6 hLn b9 hsa hws hw3 hw4 hw5 hw6 hr4 hq4 hD2 hD3 hD6 HRM HQM hw06 hw2
  generalize hNR : rs.length = NR at *
  have HNR := Lib.hid hNR.symm
  clear hNR
  generalize hNM : NR + qs.length = NM at *
  clear hNM
  generalize sa ++ [s8] = L at *
  generalize hWW : w9 = W0 at *
  clear hWW
  go_wp2_with fail
  go_loopw [7, 8, 9, 10, 11, 12, 13, 14, 15] (fun i _ _ _ _ _ _ _ _ wr => ∃ b : Nat, b ≤ N ∧ i = .int .i64 b ∧ Below W0.heap.size W0 wr) (fun i _ _ _ _ _ _ _ _ _ => N - (intOf i).toNat)
  case atStart => exact ⟨0, Nat.zero_le _, rfl, Below.refl _ _⟩
  case round =>
    obtain ⟨b, hb, rfl, t1⟩ := hrel
    by_cases hbl : b < N
    · as_aux_lemma =>
        have al : 0 < L.length := by rw [HLn.out]; omega
        have bl : b < L.length := by rw [HLn.out]; exact hbl
        obtain ⟨q1, q2, hv, li0⟩ := CL.out.str 0 al
        injection hv with hv
        injection hv with hv1 hv2
        subst hv1 hv2
        obtain ⟨q1, q2, hv, lk0⟩ := CL.out.str b bl
        injection hv with hv
        injection hv with hv1 hv2
        subst hv1 hv2
        rw [Nat.zero_add] at lk0
        have li := (t1.cell (World.block_lt_of_cell? _ _ li0)).trans li0
        have lk := (t1.cell (World.block_lt_of_cell? _ _ lk0)).trans lk0
        have MI := Lib.hid (HM.out 0 al)
        have MK := Lib.hid (HM.out b bl)
        generalize L[0] = XI at *
        generalize L[b] = XK at *
        obtain ⟨N1, hN1_⟩ : ∃ z, uses9 rs (keyS XK) (keyS XI) = z := ⟨_, rfl⟩
        obtain ⟨N2, hN2_⟩ : ∃ z, uses9 ms (keyS XK) (keyS XI) = z := ⟨_, rfl⟩
        have hle : (N2 : Int) ≤ (N1 : Int) := by
          have h := uses9_more HSUB.out (made_key12 MI.out) (made_key12 MK.out)
          rw [hN1_, hN2_] at h
          omega
        have hzz : N2 = 0 ↔ N1 = 0 := by rw [← hN1_, ← hN2_, uses9_zero, uses9_zero]
        obtain ⟨V1, hV1⟩ : ∃ z, verdict9 N1 = z := ⟨_, rfl⟩
        obtain ⟨V2, hV2⟩ : ∃ z, verdict9 N2 = z := ⟨_, rfl⟩
        have hvv := verdict9_mono (m := N2) (n := N1) (by omega) hzz
        rw [hV1, hV2] at hvv
        have Q1 := Lib.hid (law_uses (c := cr) HNR.out HRK.out CR.out MI.out MK.out hN1_)
        have Q2 := Lib.hid (law_uses (c := cm) HNM.out HMK.out CM.out MI.out MK.out hN2_)
        have Q3 := Lib.hid (law_verdict (V := V1) (c := cr) HNR.out HRK.out CR.out MI.out MK.out (by rw [hN1_]; exact hV1))
        have Q4 := Lib.hid (law_verdict (V := V2) (c := cm) HNM.out HMK.out CM.out MI.out MK.out (by rw [hN2_]; exact hV2))
        have HVV := Lib.hid hvv
        clear hN1_ hN2_ hzz hV1 hV2 hvv al bl li0 lk0
        have i3 : (0 : Int) ≤ (b : Int) := by omega
        have i4 : (b : Int) < (N : Int) := by omega
        have i5 : (0 : Int) < (N : Int) := by omega
        obtain ⟨T, g, hg0, hgd, hgb, hgi, hgk, hT1, hT2, hT3, hT4⟩ : ∃ (T : Type) (g : T → World), (∃ x, wr.drew = g x) ∧ (∀ x, ∃ y, (g x).drew = g y) ∧ (∀ x, Below wr.heap.size wr (g x)) ∧ (∀ x, (g x).cell? ⟨G6, 0, none⟩ = some (.string XI)) ∧ (∀ x, (g x).cell? ⟨G6, b, none⟩ = some (.string XK)) ∧
            (∀ x, Calls Tryz.prog 15 #[.slice AR NR cr, .string XI, .string XK] (g x) fun e w' => e = .returned (.tuple #[.int .i64 N1, .bool true]) ∧ ∃ y, w' = g y) ∧
            (∀ x, Calls Tryz.prog 15 #[.slice AM NM cm, .string XI, .string XK] (g x) fun e w' => e = .returned (.tuple #[.int .i64 N2, .bool true]) ∧ ∃ y, w' = g y) ∧
            (∀ x, Calls Tryz.prog 17 #[.slice AR NR cr, .string XI, .string XK] (g x) fun e w' => e = .returned (.tuple #[.int .i64 V1, .int .i64 0]) ∧ ∃ y, w' = g y) ∧
            (∀ x, Calls Tryz.prog 17 #[.slice AM NM cm, .string XI, .string XK] (g x) fun e w' => e = .returned (.tuple #[.int .i64 V2, .int .i64 0]) ∧ ∃ y, w' = g y) :=
          ⟨Since wr, Subtype.val, Since.here wr, Since.drew, fun x => x.property, fun x => x.cell li, fun x => x.cell lk, fun x => x.calls (Q1.out _ (t1.trans (x.property.mono t1.size))), fun x => x.calls (Q2.out _ (t1.trans (x.property.mono t1.size))), fun x => x.calls (Q3.out _ (t1.trans (x.property.mono t1.size))), fun x => x.calls (Q4.out _ (t1.trans (x.property.mono t1.size)))⟩
        have hTne : Nonempty T := let ⟨x, _⟩ := hg0; ⟨x⟩
        have HT1 := Lib.hid hT1
        have HT2 := Lib.hid hT2
        have HT3 := Lib.hid hT3
        have HT4 := Lib.hid hT4
        have HGB := Lib.hid hgb
        have HGD := Lib.hid hgd
        clear hT1 hT2 hT3 hT4 hgb hgd li lk Q1 Q2 Q3 Q4
        go_wp2_with fail
        refine wp_region_class g hg0 (by kernel_rfl) (by kernel_rfl) ?_
        repeat (go_big_quiet_step (fail))
        go_big_quiet_step (exact HT1.out _)
        repeat (go_big_quiet_step (fail))
        refine wpQuiet_nil ?_
        rintro _ ⟨x1, rfl⟩
        clear hg0
        go_wp2_with fail
        refine wp_region_class g (HGD.out x1) (by kernel_rfl) (by kernel_rfl) ?_
        repeat (go_big_quiet_step (fail))
        go_big_quiet_step (exact HT2.out _)
        repeat (go_big_quiet_step (fail))
        refine wpQuiet_nil ?_
        rintro _ ⟨x2, rfl⟩
        go_wp2_with fail
        refine wp_region_class g (HGD.out x2) (by kernel_rfl) (by kernel_rfl) ?_
        repeat (go_big_quiet_step (fail))
        go_big_quiet_step (exact HT3.out _)
        repeat (go_big_quiet_step (fail))
        refine wpQuiet_nil ?_
        rintro _ ⟨x3, rfl⟩
        go_wp2_with fail
        refine wp_region_class g (HGD.out x3) (by kernel_rfl) (by kernel_rfl) ?_
        repeat (go_big_quiet_step (fail))
        go_big_quiet_step (exact HT4.out _)
        repeat (go_big_quiet_step (fail))
        refine wpQuiet_nil ?_
        rintro _ ⟨x4, rfl⟩
        have t5 := t1.trans ((HGB.out x4).mono t1.size)
        clear hgi hgk HT1 HT2 HT3 HT4
        rcases HVV.out with rfl | rfl
        · clear HVV
          go_wp2_with fail
          go_roundw
          case rel => exact ⟨b + 1, by omega, by go_num, t5⟩
          case measure => simp [intOf]; omega
        · clear HVV
          cases hv2 : (V2 != 2) with
          | true =>
            go_wp2_with fail
            go_roundw
            case rel => exact ⟨b + 1, by omega, by go_num, t5⟩
            case measure => simp [intOf]; omega
          | false =>
            go_wp2_with fail
            go_roundw
            case rel => exact ⟨b + 1, by omega, by go_num, t5⟩
            case measure => simp [intOf]; omega
    · go_wp2_with fail
      refine (spelling_at _ (hb7.trans (t1.mono hb7.size))).mono ?_
      rintro e wz ⟨rfl, hbz⟩
      go_wp2
      go_ret
      exact ⟨rfl, hbz⟩
end Go.Proofs.YtapagncaadjiaabGreatDoor
