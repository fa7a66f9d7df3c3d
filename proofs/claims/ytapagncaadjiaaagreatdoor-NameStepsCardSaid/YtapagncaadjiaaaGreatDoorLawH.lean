/- Each string of a chain is made of the one before it by one use: the walk. -/
import Derived.Test.YtapagncaadjiaaaGreatDoorLawG0
import Derived.Test.YtapagncaadjiaaaGreatDoorPgX
import Derived.Deep.RegionHeld3
namespace Go.Proofs.YtapagncaadjiaaaGreatDoor
open Go.RowKit

set_option maxRecDepth 100000 in
set_option maxHeartbeats 6400000 in
theorem NameSteps_any (A : Option Addr) (n c : Nat) (w : World) (hn : n ≤ 1000000000000000000) (hx : NumsIn w A n) :
    Calls Tryz.prog 14 #[.slice A n c] w (TruePost w) := by
  obtain ⟨si, hi, hz0, hz1, hz2⟩ := info_parts infoStr
  have HX := Lib.hid hx
  clear hx
  go_enter Tryz.func14, Tryz.ntmps14
  go_wp2_with fail
  refine (NewDice_any A n c _ hn HX.out).mono ?_
  rintro e w2 ⟨rfl, hd2, b3⟩
  generalize hDD : w.heap.size = D at hd2
  have hD : w.heap.size ≤ D := Nat.le_of_eq hDD
  have hD2 := hd2.lt
  clear hDD
  go_wp2_with fail
  refine (RulesOf_any D _ 3 _ hd2 (by decide) (by decide)).mono ?_
  rintro e w3 ⟨ro, rs, rfl, hr3, hor3, hrm, hd3, hg3⟩
  obtain ⟨AR, cr, rfl⟩ := own_form hor3
  have b4 := b3.grown hg3 b3.size fun k hk => by cases hk; exact hD
  have hD3 := hd3.lt
  have hAR := fun g (hg : (Value.slice AR rs.length cr).ownBlock = some g) => (hor3.lt g hg).2
  have hr4 : rs.length ≤ 4 := by omega
  have HRK := Lib.hid (made_rules hr4 hrm)
  clear hd2 hg3 b3 hrm hr3
  go_wp2_with fail
  refine (NamesOf_any D _ 3 3 _ hd3 (by decide) (by decide) (by decide) (by decide)).mono ?_
  rintro e w4 ⟨o, sa, rfl, hl4, ho4, hlike4, hd4, hg4⟩
  have b5 := b4.grown hg4 b4.size fun k hk => by cases hk; exact hD
  have hor4 := own_kept hor3 hg4 hD2
  obtain ⟨O, capo, rfl⟩ := own_form ho4
  have HL4 := Lib.hid hlike4
  have hw3 := b4.size
  clear hor3 hlike4 hd3
  go_wp2_with fail
  refine (NameOf_any D _ 3 _ hd4 (by decide) (by decide)).mono ?_
  rintro e w5 ⟨s4, rfl, hs5, hs5', hl5, hd5, hg5⟩
  have b6 := b5.grown hg5 b5.size fun k hk => by cases hk; exact hD
  have ho5 := own_kept ho4 hg5 hD3
  have hor5 := own_kept hor4 hg5 hD2
  have hws : w3.heap.size ≤ w5.heap.size := (grownBy_trans hg4 hg5).size
  have HS5 : Hid (Like s4 3) := Lib.hid ⟨hs5, hs5', hl5⟩
  have hsa : sa.length ≤ 3 := by omega
  clear hl5 hs5 hs5' hd4 hg5 hg4 b5 ho4 b4 hor4 hd5 hl4
  go_wp2_with (at_builtin; refine wpList_append_own _ rfl _ _ 28 rfl w3.heap.size 9 si (.string ByteArray.empty) 1 16 Tryz.underlying28 hi hz0 hz1 hz2 rfl (by decide) _ _ _ rfl (ho5.alloc _) ⟨w5.heap.size, 0, none⟩ 1 1 [.string s4] rfl rfl (cell_one_new _ _ _) (by simp [Value.oneCell']) (by unfold maxLen; omega) (by omega) (by simp; omega) ?_; intro v' w6 ho6 hg6 _; obtain ⟨G6, cap6, rfl⟩ := own_head ho6)
  have hbo := fun g (hg : (Value.slice O sa.length capo).ownBlock = some g) => (ho5.lt g hg).1
  have hb7 : Below w.heap.size w w6 := (b6.alloc (o := .cells #[.string s4] 9) b6.size).grown hg6 (by have := b6.size; simp; omega) fun k hk => by have h1 := hbo k hk; omega
  have hor6 : w6.ownsRow w2.heap.size 81 2 (.slice AR rs.length cr) rs.length (ruleCells rs) := (hor5.alloc _).kept hg6 (by
    cases hA : (Value.slice AR rs.length cr).ownBlock with
    | none => exact .inl rfl
    | some g =>
      refine .inr fun he => ?_
      have h1 := hAR g hA
      have h2 := hbo g he.symm
      omega)
  have CR := Lib.hid (cells_own hor6)
  have e6 : (sa.map Value.string ++ [Value.string s4]) = (sa ++ [s4]).map Value.string := by simp
  rw [e6] at ho6
  have CL := Lib.hid (cells_own ho6)
  have hLn : (sa ++ [s4]).length = sa.length + 1 := by simp
  have HLn := Lib.hid hLn
  have HM : Hid (∀ i (h : i < (sa ++ [s4]).length), Made6 (sa ++ [s4])[i]) := Lib.hid fun i h => by
    have hm : (sa ++ [s4])[i] ∈ sa ++ [s4] := List.getElem_mem h
    rw [List.mem_append, List.mem_singleton] at hm
    have hk : Like (sa ++ [s4])[i] 3 := by
      rcases hm with hm | hm
      · exact HL4.out _ hm
      · rw [hm]; exact HS5.out
    exact ⟨hk.1, by have := hk.2.1; omega, hk.2.2⟩
  generalize hN : sa.length + 1 = N at *
  have hN4 : N ≤ 4 := by omega
  have hN1 : 1 ≤ N := by omega
  have HR4 : Hid (rs.length ≤ 4) := Lib.hid hr4
  generalize hNR : rs.length = NR at *
  have HNR := Lib.hid hNR.symm
  generalize sa ++ [s4] = L at *
  generalize hWW : w6 = W0 at *
  have hw0 := hb7.size
  clear hN hNR ho6 hor6 ho5 hor5 hg6 hbo hAR HL4 HS5 e6 hLn b6 hsa hws hw3 hr4 hD3 hD2 hWW
  go_wp2_with fail
  go_loopw [6, 7, 8, 9, 10, 11, 12, 13, 14, 15, 16, 17, 18, 19, 20, 21] (fun i _ _ _ _ _ _ _ _ _ _ _ _ _ _ _ wr => ∃ a : Nat, a ≤ N ∧ i = .int .i64 a ∧ Below W0.heap.size W0 wr) (fun i _ _ _ _ _ _ _ _ _ _ _ _ _ _ _ _ => N - (intOf i).toNat)
  case atStart => exact ⟨0, Nat.zero_le _, rfl, Below.refl _ _⟩
  case round =>
    obtain ⟨a, ha, rfl, t0⟩ := hrel
    by_cases hal : a < N
    · have jd : decide ((a : Int) < (N : Int)) = true := decide_eq_true (by omega)
      go_wp2_with fail
      go_loopw [7, 8, 9, 10, 11, 12, 13, 14, 15, 16, 17, 18, 19, 20, 21] (fun i _ _ _ _ _ _ _ _ _ _ _ _ _ _ wi => ∃ b : Nat, b ≤ N ∧ i = .int .i64 b ∧ Below W0.heap.size W0 wi) (fun i _ _ _ _ _ _ _ _ _ _ _ _ _ _ _ => N - (intOf i).toNat)
      case atStart => exact ⟨0, Nat.zero_le _, rfl, t0⟩
      case round =>
        obtain ⟨b, hb, rfl, t1⟩ := hrel
        clear t0
        by_cases hbl : b < N
        · as_aux_lemma =>
            have al : a < L.length := by rw [HLn.out]; exact hal
            have bl : b < L.length := by rw [HLn.out]; exact hbl
            obtain ⟨q1, q2, hv, li0⟩ := CL.out.str a al
            injection hv with hv
            injection hv with hv1 hv2
            subst hv1 hv2
            obtain ⟨q1, q2, hv, lk0⟩ := CL.out.str b bl
            injection hv with hv
            injection hv with hv1 hv2
            subst hv1 hv2
            rw [Nat.zero_add] at li0 lk0
            have li := (t1.cell (World.block_lt_of_cell? _ _ li0)).trans li0
            have lk := (t1.cell (World.block_lt_of_cell? _ _ lk0)).trans lk0
            have HCI : Hid (∀ W, Below W0.heap.size W0 W → W.cell? ⟨G6, a, none⟩ = some (.string L[a])) := Lib.hid fun W hW => (hW.cell (World.block_lt_of_cell? _ _ li0)).trans li0
            have HCK : Hid (∀ W, Below W0.heap.size W0 W → W.cell? ⟨G6, b, none⟩ = some (.string L[b])) := Lib.hid fun W hW => (hW.cell (World.block_lt_of_cell? _ _ lk0)).trans lk0
            have MI := Lib.hid (HM.out a al)
            have MK := Lib.hid (HM.out b bl)
            generalize L[a] = XI at *
            generalize L[b] = XK at *
            have KI12 := made_key12 MI.out
            have KK12 := made_key12 MK.out
            have i1 : (0 : Int) ≤ (a : Int) := by omega
            have i2 : (a : Int) < (N : Int) := by omega
            have i3 : (0 : Int) ≤ (b : Int) := by omega
            have i4 : (b : Int) < (N : Int) := by omega
            have QV := Lib.hid (fun W (hW : Below W0.heap.size W0 W) => Verdict_ok AR NR cr rs XI XK W HNR.out HRK.out (made_ok2 MI.out MK.out) (CR.out.below hW))
            clear al bl li0 lk0
            cases hU : usesG rs (keyS XK) (keyS XI) with
            | none =>
              have h9 : uses9 rs (keyS XK) (keyS XI) = 9 := by unfold uses9; rw [hU]; rfl
              have Q1 := Lib.hid (law_uses (c := cr) HNR.out HRK.out CR.out MI.out MK.out h9)
              have Q2 := Lib.hid (fun W (hW : Below W0.heap.size W0 W) => Chain_none AR NR cr rs XI XK W HNR.out HRK.out (made_ok2 MI.out MK.out) (CR.out.below hW) hU)
              have Q3 : Hid (∀ W, Below W0.heap.size W0 W → Calls Tryz.prog 41 #[.slice AR NR cr, .string XI, .string XK] W fun e w' => e = .returned (.tuple #[.int .i64 2, .int .i64 0]) ∧ Below W.heap.size W w') := Lib.hid fun W hW => by
                have h := QV.out W hW
                unfold VerdictAns at h
                rw [h9] at h
                exact h
              clear hU h9 QV
              obtain ⟨T, g, hg0, hgd, hgb, hgi, hgk, hT1, hT2, hT3⟩ : ∃ (T : Type) (g : T → World), (∃ x, wr.drew = g x) ∧ (∀ x, ∃ y, (g x).drew = g y) ∧ (∀ x, Below wr.heap.size wr (g x)) ∧ (∀ x, (g x).cell? ⟨G6, a, none⟩ = some (.string XI)) ∧ (∀ x, (g x).cell? ⟨G6, b, none⟩ = some (.string XK)) ∧
                  (∀ x, Calls Tryz.prog 66 #[.slice AR NR cr, .string XI, .string XK] (g x) fun e w' => e = .returned (.tuple #[.int .i64 (9 : Nat), .bool true]) ∧ ∃ y, w' = g y) ∧
                  (∀ x, Calls Tryz.prog 43 #[.slice AR NR cr, .string XI, .string XK] (g x) fun e w' => e = .returned (.tuple #[.slice none 0 0, .int .i64 11]) ∧ ∃ y, w' = g y) ∧
                  (∀ x, Calls Tryz.prog 41 #[.slice AR NR cr, .string XI, .string XK] (g x) fun e w' => e = .returned (.tuple #[.int .i64 2, .int .i64 0]) ∧ ∃ y, w' = g y) :=
                ⟨Since wr, Subtype.val, Since.here wr, Since.drew, fun x => x.property, fun x => x.cell li, fun x => x.cell lk, fun x => x.calls (Q1.out _ (t1.trans (x.property.mono t1.size))), fun x => x.calls (Q2.out _ (t1.trans (x.property.mono t1.size))), fun x => x.calls (Q3.out _ (t1.trans (x.property.mono t1.size)))⟩
              have hTne : Nonempty T := let ⟨x, _⟩ := hg0; ⟨x⟩
              have HT1 := Lib.hid hT1
              have HT2 := Lib.hid hT2
              have HT3 := Lib.hid hT3
              have HGB := Lib.hid hgb
              have HGD := Lib.hid hgd
              clear hT1 hT2 hT3 hgb hgd li lk Q1 Q2 Q3
              go_wp2_with fail
              refine wp_region_class g hg0 (by kernel_rfl) (by kernel_rfl) ?_
              repeat (go_big_quiet_step (fail))
              go_big_quiet_step (exact HT1.out _)
              repeat (go_big_quiet_step (fail))
              refine wpQuiet_nil ?_
              rintro _ ⟨x1, rfl⟩
              clear hg0
              go_wp2_with fail
              refine wp_region_class g (HGD.out x1) (by kernel_rfl) (by kernel_rfl) ?_
              repeat (go_big_quiet_step (fail))
              go_big_quiet_step (exact HT2.out _)
              repeat (go_big_quiet_step (fail))
              refine wpQuiet_nil ?_
              rintro _ ⟨x2, rfl⟩
              go_wp2_with fail
              refine wp_region_class g (HGD.out x2) (by kernel_rfl) (by kernel_rfl) ?_
              repeat (go_big_quiet_step (fail))
              go_big_quiet_step (exact HT3.out _)
              repeat (go_big_quiet_step (fail))
              refine wpQuiet_nil ?_
              rintro _ ⟨x3, rfl⟩
              have t5 := t1.trans ((HGB.out x3).mono t1.size)
              clear hgi hgk HT1 HT2 HT3
              go_wp2_with fail
              go_roundw
              case rel => exact ⟨b + 1, by omega, by go_num, t5⟩
              case measure => simp [intOf]; omega
            | some u =>
              have hu2 := usesG_le hU
              have h9 : uses9 rs (keyS XK) (keyS XI) = u := by unfold uses9; rw [hU]; rfl
              obtain ⟨C, hC⟩ : ∃ C, C = keyS XI :: stepsG rs (keyS XK) u (keyS XI) := ⟨_, rfl⟩
              have hcf := chain_facts KI12 KK12 hU C hC
              have Q1 := Lib.hid (law_uses (c := cr) HNR.out HRK.out CR.out MI.out MK.out h9)
              have q2 := fun W (hW : Below wr.heap.size wr W) => Chain_some (c := cr) HNR.out HRK.out CR.out (made_ok2 MI.out MK.out) hU W (t1.trans (hW.mono t1.size))
              rw [← hC] at q2
              obtain ⟨V, hV⟩ : ∃ V, verdict9 u = V := ⟨_, rfl⟩
              have Q3 : Hid (∀ W, Below W0.heap.size W0 W → Calls Tryz.prog 41 #[.slice AR NR cr, .string XI, .string XK] W fun e w' => e = .returned (.tuple #[.int .i64 V, .int .i64 0]) ∧ Below W.heap.size W w') := Lib.hid fun W hW => by
                have h := QV.out W hW
                unfold VerdictAns at h
                rw [h9, hV] at h
                exact h
              have hvz : ((V == 1) = ((u : Int) == 0)) ∧ (V == 2) = false := by
                have h3 : u = 0 ∨ u = 1 ∨ u = 2 := by omega
                rcases h3 with rfl | rfl | rfl <;> subst hV <;> exact ⟨rfl, rfl⟩
              obtain ⟨hv1, hv2⟩ := hvz
              have hu : (u : Int) ≤ 2 := by omega
              have Q4 := Lib.hid (key_call XI (made_check MI.out))
              have Q5 := Lib.hid (key_call XK (made_check MK.out))
              have HCF := Lib.hid hcf
              clear hU h9 QV hC hV hcf
              generalize keyS XI = KI at *
              generalize keyS XK = KK at *
              obtain ⟨T, g, hg0, hgd, hgb, hgi, hgk, hT1⟩ : ∃ (T : Type) (g : T → World), (∃ x, wr.drew = g x) ∧ (∀ x, ∃ y, (g x).drew = g y) ∧ (∀ x, Below wr.heap.size wr (g x)) ∧ (∀ x, (g x).cell? ⟨G6, a, none⟩ = some (.string XI)) ∧ (∀ x, (g x).cell? ⟨G6, b, none⟩ = some (.string XK)) ∧
                  (∀ x, Calls Tryz.prog 66 #[.slice AR NR cr, .string XI, .string XK] (g x) fun e w' => e = .returned (.tuple #[.int .i64 u, .bool true]) ∧ ∃ y, w' = g y) :=
                ⟨Since wr, Subtype.val, Since.here wr, Since.drew, fun x => x.property, fun x => x.cell li, fun x => x.cell lk, fun x => x.calls (Q1.out _ (t1.trans (x.property.mono t1.size)))⟩
              have hTne : Nonempty T := let ⟨x, _⟩ := hg0; ⟨x⟩
              have HT1 := Lib.hid hT1
              have HGB := Lib.hid hgb
              have HGI := Lib.hid hgi
              have HGK := Lib.hid hgk
              clear hT1 hgb hgd Q1
              go_wp2_with fail
              refine wp_region_class g hg0 (by kernel_rfl) (by kernel_rfl) ?_
              repeat (go_big_quiet_step (fail))
              go_big_quiet_step (exact HT1.out _)
              repeat (go_big_quiet_step (fail))
              refine wpQuiet_nil ?_
              rintro _ ⟨x1, rfl⟩
              clear hg0 hgi hgk HT1
              have hb1 := HGB.out x1
              have ci := HGI.out x1
              have ck := HGK.out x1
              clear HGB HGI HGK li lk
              generalize g x1 = v1 at *
              have qq : ∀ W, Below v1.heap.size v1 W → Calls Tryz.prog 43 #[.slice AR NR cr, .string XI, .string XK] W fun e w' => ∃ o, e = .returned (.tuple #[o, .int .i64 0]) ∧ w'.ownsRow 0 9 1 o (u + 1) (C.map Value.string) ∧
                  w'.cell? ⟨G6, a, none⟩ = some (.string XI) ∧ w'.cell? ⟨G6, b, none⟩ = some (.string XK) ∧ Below v1.heap.size v1 w' := fun W h =>
                (q2 W (hb1.trans (h.mono hb1.size))).mono fun e w' ⟨o, he, ho, hb⟩ => by
                  have t := h.trans (hb.mono h.size)
                  exact ⟨o, he, ho.mono (Nat.zero_le _), (t.cell (World.block_lt_of_cell? _ _ ci)).trans ci, (t.cell (World.block_lt_of_cell? _ _ ck)).trans ck, t⟩
              have QQ := Lib.hid qq
              clear qq q2
              have d1 : v1.drew.cell? ⟨G6, a, none⟩ = some (.string XI) := ci
              have d2 : v1.drew.cell? ⟨G6, b, none⟩ = some (.string XK) := ck
              have d3 : Below v1.heap.size v1 v1.drew := (Below.refl _ _).drew
              go_wp2_with fail
              go_region_held3 (fun w' => w'.cell? ⟨G6, a, none⟩ = some (.string XI) ∧ w'.cell? ⟨G6, b, none⟩ = some (.string XK) ∧ Below v1.heap.size v1 w')
                ((refine ⟨(by first | assumption | (go_split_ands; assumption)), (by first | assumption | (go_split_ands; assumption)), (by first | assumption | (go_split_ands; assumption))⟩))
                (first
                  | (go_at_call 43; refine (QQ.out _ (by go_split_ands; assumption)).mono ?_; rintro e w5 ⟨o5, rfl, ho5, hx5, hy5, hb5⟩; obtain ⟨G5, c5, rfl⟩ := own_head ho5))
              have t5 := t1.trans ((hb1.trans (hb5.mono hb1.size)).mono t1.size)
              have C5 := Lib.hid (cells_own ho5)
              clear QQ d1 d2 d3 ci ck hb5 hb1 ho5 t1
              obtain ⟨T2, g2, hg0, hgd, hgb, hgi, hgk, hT3, hT4, hT5⟩ : ∃ (T : Type) (g : T → World), (∃ x, w5.drew = g x) ∧ (∀ x, ∃ y, (g x).drew = g y) ∧ (∀ x, Below w5.heap.size w5 (g x)) ∧ (∀ x, (g x).cell? ⟨G6, a, none⟩ = some (.string XI)) ∧ (∀ x, (g x).cell? ⟨G6, b, none⟩ = some (.string XK)) ∧
                  (∀ x, Calls Tryz.prog 41 #[.slice AR NR cr, .string XI, .string XK] (g x) fun e w' => e = .returned (.tuple #[.int .i64 V, .int .i64 0]) ∧ ∃ y, w' = g y) ∧
                  (∀ x, Calls Tryz.prog 19 #[.string XI] (g x) fun e w' => e = .returned (.tuple #[.string KI, .int .i64 0]) ∧ ∃ y, w' = g y) ∧
                  (∀ x, Calls Tryz.prog 19 #[.string XK] (g x) fun e w' => e = .returned (.tuple #[.string KK, .int .i64 0]) ∧ ∃ y, w' = g y) :=
                ⟨Since w5, Subtype.val, Since.here w5, Since.drew, fun x => x.property, fun x => x.cell hx5, fun x => x.cell hy5, fun x => x.calls (Q3.out _ (t5.trans (x.property.mono t5.size))), fun x => x.calls (Q4.out _), fun x => x.calls (Q5.out _)⟩
              have hTne2 : Nonempty T2 := let ⟨x, _⟩ := hg0; ⟨x⟩
              have HT3 := Lib.hid hT3
              have HT4 := Lib.hid hT4
              have HT5 := Lib.hid hT5
              have HGB := Lib.hid hgb
              clear hT3 hT4 hT5 hgb hgd Q3 Q4 Q5 hx5 hy5
              go_wp2_with fail
              refine wp_region_class g2 hg0 (by kernel_rfl) (by kernel_rfl) ?_
              repeat (go_big_quiet_step (fail))
              go_big_quiet_step (exact HT3.out _)
              repeat (go_big_quiet_step (fail))
              refine wpQuiet_nil ?_
              rintro _ ⟨y1, rfl⟩
              clear hg0
              go_wp2_with fail
              refine (HT4.out y1).mono ?_
              rintro e w' ⟨rfl, y2, rfl⟩
              go_wp2_with fail
              refine (HT5.out y2).mono ?_
              rintro e w' ⟨rfl, y3, rfl⟩
              have hb7 := HGB.out y3
              have t7 := t5.trans (hb7.mono t5.size)
              have C7 := Lib.hid (C5.out.below hb7)
              clear hgi hgk HT3 HT4 HT5 HGB C5 t5
              generalize g2 y3 = w7 at *
              obtain ⟨hl, h0, hu', hst⟩ := HCF.out
              obtain ⟨q1, q2, hv, c0⟩ := C7.out.str 0 (by omega)
              injection hv with hv
              injection hv with hv1' hv2'
              subst hv1' hv2'
              obtain ⟨q1, q2, hv, cu⟩ := C7.out.str u (by omega)
              injection hv with hv
              injection hv with hv1' hv2'
              subst hv1' hv2'
              rw [h0] at c0
              rw [hu', Nat.zero_add] at cu
              have j1 : (((u + 1 : Nat) : Int) != (u : Int) + 1) = false := by simp
              have j2 : (0 : Int) ≤ (u : Int) := by omega
              clear h0 hu' hst
              go_wp2_with fail
              go_loopw [18, 19, 20, 21] (fun jv _ _ _ wi => ∃ i : Nat, i ≤ u ∧ jv = .int .i64 ((i : Int) + 1) ∧ Below w7.heap.size w7 wi) (fun jv _ _ _ _ => u + 1 - (intOf jv).toNat)
              case atStart => exact ⟨0, Nat.zero_le _, rfl, Below.refl _ _⟩
              case round =>
                obtain ⟨i, hi_, rfl, t8⟩ := hrel
                clear c0 cu j1
                by_cases hil : i < u
                · obtain ⟨hl, h0, hu', hst⟩ := HCF.out
                  obtain ⟨q1, q2, hv, ci⟩ := (C7.out.below t8).str i (by omega)
                  injection hv with hv
                  injection hv with hv1' hv2'
                  subst hv1' hv2'
                  obtain ⟨q1, q2, hv, cj⟩ := (C7.out.below t8).str (i + 1) (by omega)
                  injection hv with hv
                  injection hv with hv1' hv2'
                  subst hv1' hv2'
                  obtain ⟨hmem, hx12⟩ := hst i hil (by omega) (by omega)
                  rw [Nat.zero_add] at ci cj
                  generalize C[i] = X at *
                  generalize C[i + 1] = Y at *
                  have hx12' : (X.size : Int) ≤ 12 := by omega
                  have k1 : (0 : Int) ≤ (i : Int) := by omega
                  have k2 : (i : Int) + 1 ≤ (u : Int) := by omega
                  have HMEM := Lib.hid hmem
                  have hm104 := made_len (rs := rs) (by rw [← HNR.out]; exact HR4.out) hx12
                  have QM := Lib.hid (Made_any AR NR cr rs X wr HNR.out (by have := HR4.out; have := HNR.out; omega) hx12 HRK.out.short ((CR.out.below t7).below t8))
                  clear hl h0 hu' hst hmem
                  go_wp2_with fail
                  refine QM.out.mono ?_
                  rintro e w8 ⟨o8, rfl, ho8, hb8⟩
                  obtain ⟨A8, cap8, rfl⟩ := own_form ho8
                  have cj8 := (hb8.cell (World.block_lt_of_cell? _ _ cj)).trans cj
                  have t9 := t8.trans (hb8.mono t8.size)
                  have C8 := Lib.hid (cells_own ho8)
                  obtain ⟨M, hM⟩ : ∃ M, madeL rs X = M := ⟨_, rfl⟩
                  rw [hM] at hm104 C8 HMEM
                  rw [hM]
                  clear hM ho8 ci cj QM hb8 t8
                  go_wp2_with fail
                  go_loopw [20, 21] (fun tv kv wi => ∃ k : Nat, k ≤ M.length ∧ kv = .int .i64 k ∧ tv = .bool (metB M Y k) ∧ Below w8.heap.size w8 wi) (fun _ kv _ => M.length - (intOf kv).toNat)
                  case atStart => exact ⟨0, Nat.zero_le _, rfl, rfl, Below.refl _ _⟩
                  case round =>
                    obtain ⟨k, hk, rfl, rfl, ta⟩ := hrel
                    by_cases hkl : k < M.length
                    · obtain ⟨g8, p8, rfl, cm⟩ := (C8.out.below ta).str k hkl
                      have cy := (ta.cell (World.block_lt_of_cell? _ _ cj8)).trans cj8
                      have hs := metB_succ M Y k hkl
                      generalize M[k] = Z at *
                      have l1 : (0 : Int) ≤ (k : Int) := by omega
                      have l2 : (k : Int) < (M.length : Int) := by omega
                      obtain ⟨T3, g3, hg0, hgb, hgm, hgy⟩ : ∃ (T : Type) (g : T → World), (∃ x, wr.drew = g x) ∧ (∀ x, Below wr.heap.size wr (g x)) ∧ (∀ x, (g x).cell? ⟨g8, p8 + k, none⟩ = some (.string Z)) ∧ (∀ x, (g x).cell? ⟨G5, i + 1, none⟩ = some (.string Y)) :=
                        ⟨Since wr, Subtype.val, Since.here wr, fun x => x.property, fun x => x.cell cm, fun x => x.cell cy⟩
                      have hTne3 : Nonempty T3 := let ⟨x, _⟩ := hg0; ⟨x⟩
                      have HGB := Lib.hid hgb
                      have HS := Lib.hid hs
                      clear hgb cm cy hs
                      cases hmb : metB M Y k with
                      | true =>
                        rw [hmb] at HS
                        have HS2 := Lib.hid (show metB M Y (k + 1) = true from by rw [HS.out]; rfl)
                        clear hmb HS
                        go_wp2_with fail
                        refine wp_region_class g3 hg0 (by kernel_rfl) (by kernel_rfl) ?_
                        repeat (go_big_quiet_step (fail))
                        refine wpQuiet_nil ?_
                        rintro _ ⟨x3, rfl⟩
                        have tb := ta.trans ((HGB.out x3).mono ta.size)
                        clear hg0 hgm hgy
                        go_wp2_with fail
                        go_roundw
                        case rel => exact ⟨k + 1, by omega, by go_num, by rw [HS2.out], tb⟩
                        case measure => simp [intOf]; omega
                      | false =>
                        rw [hmb, Bool.false_or] at HS
                        generalize hZY : (Z.toList == Y.toList) = B at *
                        have HZY := Lib.hid hZY
                        clear hmb
                        go_wp2_with fail
                        refine wp_region_class g3 hg0 (by kernel_rfl) (by kernel_rfl) ?_
                        repeat (go_big_quiet_step (fail))
                        refine wpQuiet_nil ?_
                        rintro _ ⟨x3, rfl⟩
                        have tb := ta.trans ((HGB.out x3).mono ta.size)
                        clear hg0 hgm hgy
                        go_wp2_with fail
                        go_roundw
                        case rel => exact ⟨k + 1, by omega, by go_num, by rw [HS.out], tb⟩
                        case measure => simp [intOf]; omega
                    · have hend := metB_all HMEM.out k (by omega)
                      rw [hend]
                      have tc := t9.trans (ta.mono t9.size)
                      clear hend ta
                      go_wp2_with fail
                      go_roundw
                      case rel => exact ⟨i + 1, by omega, by go_num, tc⟩
                      case measure => simp [intOf]; omega
                · have k2 : ¬ ((i : Int) + 1 ≤ (u : Int)) := by omega
                  have tc := t7.trans (t8.mono t7.size)
                  go_wp2_with fail
                  go_roundw
                  case rel => exact ⟨b + 1, by omega, by go_num, tc⟩
                  case measure => simp [intOf]; omega
        · go_wp2_with fail
          go_roundw
          case rel => exact ⟨a + 1, by omega, by go_num, t1⟩
          case measure => simp [intOf]; omega
    · go_wp2_with fail
      refine (spelling_at _ (hb7.trans (t0.mono hb7.size))).mono ?_
      rintro e wz ⟨rfl, hbz⟩
      go_wp2
      go_ret
      exact ⟨rfl, hbz⟩
end Go.Proofs.YtapagncaadjiaaaGreatDoor
