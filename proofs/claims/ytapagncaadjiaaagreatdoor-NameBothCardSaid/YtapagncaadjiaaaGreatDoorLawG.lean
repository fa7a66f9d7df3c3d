/- There are as many uses from one name to another as back, and no more by way of a third: the walk. -/
import Derived.Test.YtapagncaadjiaaaGreatDoorLawG0
namespace Go.Proofs.YtapagncaadjiaaaGreatDoor
open Go.RowKit

set_option maxRecDepth 100000 in
set_option maxHeartbeats 6400000 in
theorem NameBoth_any (A : Option Addr) (n c : Nat) (w : World) (hn : n ≤ 1000000000000000000) (hx : NumsIn w A n) :
    Calls Tryz.prog 13 #[.slice A n c] w (TruePost w) := by
  obtain ⟨si, hi, hz0, hz1, hz2⟩ := info_parts infoStr
  have HX := Lib.hid hx
  clear hx
  go_enter Tryz.func13, Tryz.ntmps13
  go_wp2_with fail
  refine (NewDice_any A n c _ hn HX.out).mono ?_
  rintro e w2 ⟨rfl, hd2, b3⟩
  generalize hDD : w.heap.size = D at hd2
  have hD : w.heap.size ≤ D := Nat.le_of_eq hDD
  have hD2 := hd2.lt
  clear hDD
  go_wp2_with fail
  refine (RulesOf_any D _ 3 _ hd2 (by decide) (by decide)).mono ?_
  rintro e w3 ⟨ro, rs, rfl, hr3, hor3, hrm, hd3, hg3⟩
  obtain ⟨AR, cr, rfl⟩ := own_form hor3
  have b4 := b3.grown hg3 b3.size fun k hk => by cases hk; exact hD
  have hD3 := hd3.lt
  have hAR := fun g (hg : (Value.slice AR rs.length cr).ownBlock = some g) => (hor3.lt g hg).2
  have hr4 : rs.length ≤ 4 := by omega
  have HRK := Lib.hid (made_rules hr4 hrm)
  clear hd2 hg3 b3 hrm hr3
  go_wp2_with fail
  refine (NamesOf_any D _ 3 3 _ hd3 (by decide) (by decide) (by decide) (by decide)).mono ?_
  rintro e w4 ⟨o, sa, rfl, hl4, ho4, hlike4, hd4, hg4⟩
  have b5 := b4.grown hg4 b4.size fun k hk => by cases hk; exact hD
  have hor4 := own_kept hor3 hg4 hD2
  obtain ⟨O, capo, rfl⟩ := own_form ho4
  have HL4 := Lib.hid hlike4
  have hw3 := b4.size
  clear hor3 hlike4 hd3
  go_wp2_with fail
  refine (NameOf_any D _ 3 _ hd4 (by decide) (by decide)).mono ?_
  rintro e w5 ⟨s4, rfl, hs5, hs5', hl5, hd5, hg5⟩
  have b6 := b5.grown hg5 b5.size fun k hk => by cases hk; exact hD
  have ho5 := own_kept ho4 hg5 hD3
  have hor5 := own_kept hor4 hg5 hD2
  have hws : w3.heap.size ≤ w5.heap.size := (grownBy_trans hg4 hg5).size
  have HS5 : Hid (Like s4 3) := Lib.hid ⟨hs5, hs5', hl5⟩
  have hsa : sa.length ≤ 3 := by omega
  clear hl5 hs5 hs5' hd4 hg5 hg4 b5 ho4 b4 hor4 hd5 hl4
  go_wp2_with (at_builtin; refine wpList_append_own _ rfl _ _ 28 rfl w3.heap.size 9 si (.string ByteArray.empty) 1 16 Tryz.underlying28 hi hz0 hz1 hz2 rfl (by decide) _ _ _ rfl (ho5.alloc _) ⟨w5.heap.size, 0, none⟩ 1 1 [.string s4] rfl rfl (cell_one_new _ _ _) (by simp [Value.oneCell']) (by unfold maxLen; omega) (by omega) (by simp; omega) ?_; intro v' w6 ho6 hg6 _; obtain ⟨G6, cap6, rfl⟩ := own_head ho6)
  have hbo := fun g (hg : (Value.slice O sa.length capo).ownBlock = some g) => (ho5.lt g hg).1
  have hb7 : Below w.heap.size w w6 := (b6.alloc (o := .cells #[.string s4] 9) b6.size).grown hg6 (by have := b6.size; simp; omega) fun k hk => by have h1 := hbo k hk; omega
  have hor6 : w6.ownsRow w2.heap.size 81 2 (.slice AR rs.length cr) rs.length (ruleCells rs) := (hor5.alloc _).kept hg6 (by
    cases hA : (Value.slice AR rs.length cr).ownBlock with
    | none => exact .inl rfl
    | some g =>
      refine .inr fun he => ?_
      have h1 := hAR g hA
      have h2 := hbo g he.symm
      omega)
  have CR := Lib.hid (cells_own hor6)
  have e6 : (sa.map Value.string ++ [Value.string s4]) = (sa ++ [s4]).map Value.string := by simp
  rw [e6] at ho6
  have CL := Lib.hid (cells_own ho6)
  have hLn : (sa ++ [s4]).length = sa.length + 1 := by simp
  have HLn := Lib.hid hLn
  have HM : Hid (∀ i (h : i < (sa ++ [s4]).length), Made6 (sa ++ [s4])[i]) := Lib.hid fun i h => by
    have hm : (sa ++ [s4])[i] ∈ sa ++ [s4] := List.getElem_mem h
    rw [List.mem_append, List.mem_singleton] at hm
    have hk : Like (sa ++ [s4])[i] 3 := by
      rcases hm with hm | hm
      · exact HL4.out _ hm
      · rw [hm]; exact HS5.out
    exact ⟨hk.1, by have := hk.2.1; omega, hk.2.2⟩
  generalize hN : sa.length + 1 = N at *
  have hN4 : N ≤ 4 := by omega
  have hN1 : 1 ≤ N := by omega
  have HR4 : Hid (rs.length ≤ 4) := Lib.hid hr4
  generalize hNR : rs.length = NR at *
  have HNR := Lib.hid hNR.symm
  generalize sa ++ [s4] = L at *
  generalize hWW : w6 = W0 at *
  have hw0 := hb7.size
  clear hN hNR ho6 hor6 ho5 hor5 hg6 hbo hAR HL4 HS5 e6 hLn b6 hsa hws hw3 hr4 hD3 hD2 hWW
  go_wp2_with fail
  go_loopw [6, 7, 8, 9, 10, 11, 12, 13, 14, 15, 16, 17, 18, 19, 20] (fun i _ _ _ _ _ _ _ _ _ _ _ _ _ _ wr => ∃ a : Nat, a ≤ N ∧ i = .int .i64 a ∧ Below W0.heap.size W0 wr) (fun i _ _ _ _ _ _ _ _ _ _ _ _ _ _ _ => N - (intOf i).toNat)
  case atStart => exact ⟨0, Nat.zero_le _, rfl, Below.refl _ _⟩
  case round =>
    obtain ⟨a, ha, rfl, t0⟩ := hrel
    by_cases hal : a < N
    · have jd : decide ((a : Int) < (N : Int)) = true := decide_eq_true (by omega)
      go_wp2_with fail
      go_loopw [7, 8, 9, 10, 11, 12, 13, 14, 15, 16, 17, 18, 19, 20] (fun i _ _ _ _ _ _ _ _ _ _ _ _ _ wi => ∃ b : Nat, b ≤ N ∧ i = .int .i64 b ∧ Below W0.heap.size W0 wi) (fun i _ _ _ _ _ _ _ _ _ _ _ _ _ _ => N - (intOf i).toNat)
      case atStart => exact ⟨0, Nat.zero_le _, rfl, t0⟩
      case round =>
        obtain ⟨b, hb, rfl, t1⟩ := hrel
        clear t0
        by_cases hbl : b < N
        · as_aux_lemma =>
            have al : a < L.length := by rw [HLn.out]; exact hal
            have bl : b < L.length := by rw [HLn.out]; exact hbl
            obtain ⟨q1, q2, hv, li0⟩ := CL.out.str a al
            injection hv with hv
            injection hv with hv1 hv2
            subst hv1 hv2
            obtain ⟨q1, q2, hv, lk0⟩ := CL.out.str b bl
            injection hv with hv
            injection hv with hv1 hv2
            subst hv1 hv2
            rw [Nat.zero_add] at li0 lk0
            have li := (t1.cell (World.block_lt_of_cell? _ _ li0)).trans li0
            have lk := (t1.cell (World.block_lt_of_cell? _ _ lk0)).trans lk0
            have HCI : Hid (∀ W, Below W0.heap.size W0 W → W.cell? ⟨G6, a, none⟩ = some (.string L[a])) := Lib.hid fun W hW => (hW.cell (World.block_lt_of_cell? _ _ li0)).trans li0
            have HCK : Hid (∀ W, Below W0.heap.size W0 W → W.cell? ⟨G6, b, none⟩ = some (.string L[b])) := Lib.hid fun W hW => (hW.cell (World.block_lt_of_cell? _ _ lk0)).trans lk0
            have MI := Lib.hid (HM.out a al)
            have MK := Lib.hid (HM.out b bl)
            generalize L[a] = XI at *
            generalize L[b] = XK at *
            obtain ⟨N1, hN1_⟩ : ∃ z, uses9 rs (keyS XK) (keyS XI) = z := ⟨_, rfl⟩
            have hN2_ : uses9 rs (keyS XI) (keyS XK) = N1 := by rw [uses9_symm (made_key12 MK.out) (made_key12 MI.out)]; exact hN1_
            have hz : (N1 = 0 ∧ ((keyS XI).toList == (keyS XK).toList) = true) ∨ (((N1 : Int) == 0) = false ∧ ((keyS XI).toList == (keyS XK).toList) = false) := by
              by_cases h : keyS XI = keyS XK
              · exact .inl ⟨by rw [← hN1_]; exact uses9_zero.2 h, by rw [h]; simp⟩
              · refine .inr ⟨?_, ?_⟩
                · rw [beq_eq_false_iff_ne]
                  intro h0
                  have h1 : N1 = 0 := by omega
                  rw [← hN1_] at h1
                  exact h (uses9_zero.1 h1)
                · rw [beq_eq_false_iff_ne]
                  exact fun h1 => h (bytes_inj h1)
            have hn9 : (N1 : Int) ≤ 9 := by rcases uses9_vals rs (keyS XK) (keyS XI) with h | h | h | h <;> omega
            have Q1 := Lib.hid (law_uses (c := cr) HNR.out HRK.out CR.out MI.out MK.out hN1_)
            have Q2 := Lib.hid (law_uses (c := cr) HNR.out HRK.out CR.out MK.out MI.out hN2_)
            have Q3 := Lib.hid (key_call XI (made_check MI.out))
            have Q4 := Lib.hid (key_call XK (made_check MK.out))
            have HZ := Lib.hid hz
            have HN1 := Lib.hid hN1_
            clear hN1_ hN2_ hz al bl li0 lk0
            generalize hKI : keyS XI = KI at *
            generalize hKK : keyS XK = KK at *
            have HKI := Lib.hid hKI
            have HKK := Lib.hid hKK
            clear hKI hKK
            have i1 : (0 : Int) ≤ (a : Int) := by omega
            have i2 : (a : Int) < (N : Int) := by omega
            have i3 : (0 : Int) ≤ (b : Int) := by omega
            have i4 : (b : Int) < (N : Int) := by omega
            obtain ⟨T, g, hg0, hgd, hgb, hgi, hgk, hT1, hT2, hT3, hT4⟩ : ∃ (T : Type) (g : T → World), (∃ x, wr.drew = g x) ∧ (∀ x, ∃ y, (g x).drew = g y) ∧ (∀ x, Below wr.heap.size wr (g x)) ∧ (∀ x, (g x).cell? ⟨G6, a, none⟩ = some (.string XI)) ∧ (∀ x, (g x).cell? ⟨G6, b, none⟩ = some (.string XK)) ∧
                (∀ x, Calls Tryz.prog 66 #[.slice AR NR cr, .string XI, .string XK] (g x) fun e w' => e = .returned (.tuple #[.int .i64 N1, .bool true]) ∧ ∃ y, w' = g y) ∧
                (∀ x, Calls Tryz.prog 66 #[.slice AR NR cr, .string XK, .string XI] (g x) fun e w' => e = .returned (.tuple #[.int .i64 N1, .bool true]) ∧ ∃ y, w' = g y) ∧
                (∀ x, Calls Tryz.prog 19 #[.string XI] (g x) fun e w' => e = .returned (.tuple #[.string KI, .int .i64 0]) ∧ ∃ y, w' = g y) ∧
                (∀ x, Calls Tryz.prog 19 #[.string XK] (g x) fun e w' => e = .returned (.tuple #[.string KK, .int .i64 0]) ∧ ∃ y, w' = g y) :=
              ⟨Since wr, Subtype.val, Since.here wr, Since.drew, fun x => x.property, fun x => x.cell li, fun x => x.cell lk, fun x => x.calls (Q1.out _ (t1.trans (x.property.mono t1.size))), fun x => x.calls (Q2.out _ (t1.trans (x.property.mono t1.size))), fun x => x.calls (Q3.out _), fun x => x.calls (Q4.out _)⟩
            have hTne : Nonempty T := let ⟨x, _⟩ := hg0; ⟨x⟩
            have HT1 := Lib.hid hT1
            have HT2 := Lib.hid hT2
            have HT3 := Lib.hid hT3
            have HT4 := Lib.hid hT4
            have HGB := Lib.hid hgb
            have HGD := Lib.hid hgd
            clear hT1 hT2 hT3 hT4 hgb hgd li lk Q1 Q2 Q3 Q4
            go_wp2_with fail
            refine wp_region_class g hg0 (by kernel_rfl) (by kernel_rfl) ?_
            repeat (go_big_quiet_step (fail))
            go_big_quiet_step (exact HT1.out _)
            repeat (go_big_quiet_step (fail))
            refine wpQuiet_nil ?_
            rintro _ ⟨x1, rfl⟩
            clear hg0
            go_wp2_with fail
            refine wp_region_class g (HGD.out x1) (by kernel_rfl) (by kernel_rfl) ?_
            repeat (go_big_quiet_step (fail))
            go_big_quiet_step (exact HT2.out _)
            repeat (go_big_quiet_step (fail))
            refine wpQuiet_nil ?_
            rintro _ ⟨x2, rfl⟩
            go_wp2_with fail
            refine (HT3.out x2).mono ?_
            rintro e w' ⟨rfl, x3, rfl⟩
            go_wp2_with fail
            refine (HT4.out x3).mono ?_
            rintro e w' ⟨rfl, x4, rfl⟩
            have t5 := t1.trans ((HGB.out x4).mono t1.size)
            clear hgi hgk HT1 HT2 HT3 HT4
            go_upto_region 13 with fail
            go_cut [111] from 37 to 162 (fun s wx => s = .bool false ∧ Below W0.heap.size W0 wx)
            case first =>
              rcases HZ.out with ⟨rfl, m1⟩ | ⟨m0, m1⟩
              · go_wp2_with fail
                go_meet
                exact ⟨rfl, t5⟩
              · go_wp2_with fail
                go_meet
                exact ⟨rfl, t5⟩
            case rest =>
              obtain ⟨rfl, t6⟩ := hcut
              clear t5 t1 HZ HGB HGD
              go_wp2_with fail
              go_loopw [16, 17, 18, 19, 20] (fun i _ _ _ _ wi => ∃ c : Nat, c ≤ N ∧ i = .int .i64 c ∧ Below W0.heap.size W0 wi) (fun i _ _ _ _ _ => N - (intOf i).toNat)
              case atStart => exact ⟨0, Nat.zero_le _, rfl, t6⟩
              case round =>
                obtain ⟨j, hj, rfl, t2⟩ := hrel
                clear t6
                by_cases hjl : j < N
                · have jl : j < L.length := by rw [HLn.out]; exact hjl
                  obtain ⟨q1, q2, hv, lj⟩ := (CL.out.below t2).str j jl
                  injection hv with hv
                  injection hv with hv1 hv2
                  subst hv1 hv2
                  rw [Nat.zero_add] at lj
                  have li := HCI.out _ t2
                  have lk := HCK.out _ t2
                  have MJ := Lib.hid (HM.out j jl)
                  generalize L[j] = XJ at *
                  obtain ⟨N3, hN3_⟩ : ∃ z, uses9 rs (keyS XJ) (keyS XK) = z := ⟨_, rfl⟩
                  obtain ⟨N4, hN4_⟩ : ∃ z, uses9 rs (keyS XJ) (keyS XI) = z := ⟨_, rfl⟩
                  have hx9 : (N3 : Int) ≤ 9 := by rcases uses9_vals rs (keyS XJ) (keyS XK) with h | h | h | h <;> omega
                  have hy9 : (N4 : Int) ≤ 9 := by rcases uses9_vals rs (keyS XJ) (keyS XI) with h | h | h | h <;> omega
                  have hsum : ((N1 : Int) + (N3 : Int) ≤ 2 ∧ (N4 : Int) ≤ (N1 : Int) + (N3 : Int)) ∨ ¬ ((N1 : Int) + (N3 : Int) ≤ 2) := by
                    by_cases h : N1 + N3 ≤ 2
                    · refine .inl ⟨by omega, ?_⟩
                      have h1 := HN1.out
                      rw [← HKI.out, ← HKK.out] at h1
                      have h2 := uses9_by (rs := rs) (made_key12 MI.out) (made_key12 MK.out) (made_key12 MJ.out) (by rw [h1, hN3_]; exact h)
                      rw [h1, hN3_, hN4_] at h2
                      omega
                    · exact .inr (by omega)
                  have Q1 := Lib.hid (law_uses (c := cr) HNR.out HRK.out CR.out MK.out MJ.out hN3_)
                  have Q2 := Lib.hid (law_uses (c := cr) HNR.out HRK.out CR.out MI.out MJ.out hN4_)
                  have HSUM := Lib.hid hsum
                  clear hN3_ hN4_ jl hsum
                  have i5 : (0 : Int) ≤ (j : Int) := by omega
                  have i6 : (j : Int) < (N : Int) := by omega
                  obtain ⟨T, g, hg0, hgd, hgb, hgi, hgk, hgj, hT1, hT2⟩ : ∃ (T : Type) (g : T → World), (∃ x, wr.drew = g x) ∧ (∀ x, ∃ y, (g x).drew = g y) ∧ (∀ x, Below wr.heap.size wr (g x)) ∧ (∀ x, (g x).cell? ⟨G6, a, none⟩ = some (.string XI)) ∧ (∀ x, (g x).cell? ⟨G6, b, none⟩ = some (.string XK)) ∧ (∀ x, (g x).cell? ⟨G6, j, none⟩ = some (.string XJ)) ∧
                      (∀ x, Calls Tryz.prog 66 #[.slice AR NR cr, .string XK, .string XJ] (g x) fun e w' => e = .returned (.tuple #[.int .i64 N3, .bool true]) ∧ ∃ y, w' = g y) ∧
                      (∀ x, Calls Tryz.prog 66 #[.slice AR NR cr, .string XI, .string XJ] (g x) fun e w' => e = .returned (.tuple #[.int .i64 N4, .bool true]) ∧ ∃ y, w' = g y) :=
                    ⟨Since wr, Subtype.val, Since.here wr, Since.drew, fun x => x.property, fun x => x.cell li, fun x => x.cell lk, fun x => x.cell lj, fun x => x.calls (Q1.out _ (t2.trans (x.property.mono t2.size))), fun x => x.calls (Q2.out _ (t2.trans (x.property.mono t2.size)))⟩
                  have hTne : Nonempty T := let ⟨x, _⟩ := hg0; ⟨x⟩
                  have HU1 := Lib.hid hT1
                  have HU2 := Lib.hid hT2
                  have HVB := Lib.hid hgb
                  have HVD := Lib.hid hgd
                  clear hT1 hT2 hgb hgd li lk lj Q1 Q2
                  go_wp2_with fail
                  refine wp_region_class g hg0 (by kernel_rfl) (by kernel_rfl) ?_
                  repeat (go_big_quiet_step (fail))
                  go_big_quiet_step (exact HU1.out _)
                  repeat (go_big_quiet_step (fail))
                  refine wpQuiet_nil ?_
                  rintro _ ⟨y1, rfl⟩
                  clear hg0
                  go_wp2_with fail
                  refine wp_region_class g (HVD.out y1) (by kernel_rfl) (by kernel_rfl) ?_
                  repeat (go_big_quiet_step (fail))
                  go_big_quiet_step (exact HU2.out _)
                  repeat (go_big_quiet_step (fail))
                  refine wpQuiet_nil ?_
                  rintro _ ⟨y2, rfl⟩
                  have t7 := t2.trans ((HVB.out y2).mono t2.size)
                  clear hgi hgk hgj HU1 HU2
                  rcases HSUM.out with ⟨k1, k2⟩ | k1
                  · go_wp2_with fail
                    go_roundw
                    case rel => exact ⟨j + 1, by omega, by go_num, t7⟩
                    case measure => simp [intOf]; omega
                  · go_wp2_with fail
                    go_roundw
                    case rel => exact ⟨j + 1, by omega, by go_num, t7⟩
                    case measure => simp [intOf]; omega
                · go_wp2_with fail
                  go_roundw
                  case rel => exact ⟨b + 1, by omega, by go_num, t2⟩
                  case measure => simp [intOf]; omega
        · go_wp2_with fail
          go_roundw
          case rel => exact ⟨a + 1, by omega, by go_num, t1⟩
          case measure => simp [intOf]; omega
    · go_wp2_with fail
      refine (spelling_at _ (hb7.trans (t0.mono hb7.size))).mono ?_
      rintro e wz ⟨rfl, hbz⟩
      go_wp2
      go_ret
      exact ⟨rfl, hbz⟩
end Go.Proofs.YtapagncaadjiaaaGreatDoor
