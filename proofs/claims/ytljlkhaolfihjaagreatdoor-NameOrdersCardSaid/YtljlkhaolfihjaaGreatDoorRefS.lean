/- The reference of names: lists that are sorted. -/
import Derived.Test.YtljlkhaolfihjaaGreatDoorRefL
import Derived.Test.YtljlkhaolfihjaaGreatDoorKitE
namespace Go.Proofs.YtljlkhaolfihjaaGreatDoor
open Go.RowKit

set_option maxRecDepth 100000 in
set_option maxHeartbeats 3200000 in
theorem Sort_any (A : Option Addr) (n c : Nat) (ss : List ByteArray) (w : World) (hn : n = ss.length) (hx : Cells w A (ss.map Value.string)) :
    Calls Tryz.prog 11 #[.slice A n c] w (IntsPost (sortL ss) (listErr ss) w) := by
  have HN := Lib.hid hn
  have HX := Lib.hid hx
  obtain ⟨si, hi, hz0, hz1, hz2⟩ := info_parts infoInt
  by_cases h2 : listErr ss = 0
  · have m2 : (listErr ss != 0) = false := by simp [h2]
    have hv := listErr_zero h2
    have n6 : n ≤ 6 := by rw [hn]; exact hv.1
    have HV := Lib.hid hv.2
    have e2 : sortL ss = sortTo ss n := by unfold sortL; rw [if_pos h2, hn]
    have E := Lib.hid h2
    have E2 := Lib.hid e2
    clear e2 h2 hv hn hx
    go_enter Tryz.func11, Tryz.ntmps11
    go_wp2_with fail
    refine (checkList_any A n c ss _ HN.out HX.out).mono ?_
    rintro e w2 ⟨rfl, hb2⟩
    have hws := hb2.size
    obtain ⟨w3, hrun, hownM, hgM⟩ := run_make_full (P := Tryz.prog) w2 w.heap.size 23 3 si (.int .i64 0) 1 Tryz.underlying23 hi hz0 hz1 .i64 .i64 n (by rw [hz2]; omega) (by unfold maxLen; omega) hws
    have hm : (madeCells (Value.int .i64 0).cells (n * 1)).toList = (sortTo ss 0).map (Value.int .i64) := by
      rw [Nat.mul_one, show (Value.int .i64 0).cells = #[.int .i64 0] from rfl, toList_madeCells_one]
      unfold sortTo; rw [List.range_zero, List.foldl_nil, List.map_replicate, HN.out]
    rw [hm] at hownM
    have hb3 : Below w.heap.size w w3 := hb2.grown hgM hws fun k hk => by cases hk
    clear hm hgM hb2
    generalize hG : w2.heap.size = G at *
    clear hG
    go_wp2_with fail
    go_loopw [6, 7, 8] (fun i _ _ wr => ∃ j : Nat, j ≤ n ∧ i = .int .i64 j ∧ wr.ownsRow w.heap.size 3 1 (.slice (some ⟨G, 0, none⟩) n n) n ((sortTo ss j).map (Value.int .i64)) ∧ Below w.heap.size w wr) (fun i _ _ _ => n - (intOf i).toNat)
    case atStart => exact ⟨0, Nat.zero_le _, rfl, hownM, hb3⟩
    case round =>
      obtain ⟨j, hj, rfl, hown, hb⟩ := hrel
      clear hownM hb3
      by_cases hlt : j < n
      · have hjs : j < ss.length := by rw [← HN.out]; exact hlt
        obtain ⟨b1, o1, rfl, c0⟩ := HX.out.str j hjs
        obtain ⟨y1, y6⟩ := HV.out ss[j] (List.getElem_mem _)
        have ej := at_get ss j hjs
        generalize hY : ss[j] = Y at *
        have EJ := Lib.hid ej
        have hwr := hb.size
        clear hY ej
        go_wp2_with fail
        obtain ⟨WR, rfl⟩ : ∃ W, W = wr := ⟨_, rfl⟩
        go_loopw [7, 8] (fun v k wi => ∃ m t : Nat, m ≤ n ∧ t ≤ m ∧ t = (List.range m).countP (hitB ss j) ∧ v = .int .i64 t ∧ k = .int .i64 m ∧ Below WR.heap.size WR wi) (fun _ k _ => n - (intOf k).toNat)
        case atStart => exact ⟨0, 0, Nat.zero_le _, Nat.le_refl _, rfl, rfl, rfl, Below.refl _ _⟩
        case round =>
          obtain ⟨m, t, hm, htm, ht, rfl, rfl, hbi⟩ := hrel
          have hbw := hb.trans (hbi.mono hb.size)
          have HT := Lib.hid ht
          clear ht
          by_cases hlm : m < n
          · have hms : m < ss.length := by rw [← HN.out]; exact hlm
            obtain ⟨b2, o2, e2, c2⟩ := HX.out.str m hms
            injection e2 with e2
            injection e2 with e3 e4 e5
            subst e3 e4
            have c4 := (hbw.cell (World.block_lt_of_cell? w _ c0)).trans c0
            have c5 := (hbw.cell (World.block_lt_of_cell? w _ c2)).trans c2
            obtain ⟨x1, x6⟩ := HV.out ss[m] (List.getElem_mem _)
            have em := at_get ss m hms
            generalize hX : ss[m] = X at *
            have eh : hitB ss j m = (beforeB X.data.toList Y.data.toList || (decide (m < j) && !beforeB Y.data.toList X.data.toList)) := by unfold hitB; rw [em, EJ.out]
            have EH := Lib.hid eh
            have j1 : (0 : Int) ≤ (j : Int) := by omega
            have j2 : (j : Int) < (n : Int) := by omega
            have j3 : (0 : Int) ≤ (m : Int) := by omega
            have j4 : (m : Int) < (n : Int) := by omega
            clear c2 hX em eh
            go_upto_region 12 with fail
            go_cut [54] (fun s wx => s = .bool (hitB ss j m) ∧ Below wr.heap.size wr wx)
            case first =>
              obtain ⟨T, g, hg0, hgb, hgx, hgy, hT, hS⟩ : ∃ (T : Type) (g : T → World), (∃ x, wr.drew = g x) ∧ (∀ x, Below wr.heap.size wr (g x)) ∧ (∀ x, (g x).cell? ⟨b1, o1 + m, none⟩ = some (.string X)) ∧ (∀ x, (g x).cell? ⟨b1, o1 + j, none⟩ = some (.string Y)) ∧
                  (∀ x, Calls Tryz.prog 43 #[.string X, .string Y] (g x) fun e w' => e = .returned (.bool (beforeB X.data.toList Y.data.toList)) ∧ ∃ y, w' = g y) ∧
                  (∀ x, Calls Tryz.prog 43 #[.string Y, .string X] (g x) fun e w' => e = .returned (.bool (beforeB Y.data.toList X.data.toList)) ∧ ∃ y, w' = g y) :=
                ⟨Since wr, Subtype.val, Since.here wr, fun x => x.property, fun x => x.cell c5, fun x => x.cell c4, fun x => x.calls (before_set X Y _ rfl x1 x6 y1 y6 _), fun x => x.calls (before_set Y X _ rfl y1 y6 x1 x6 _)⟩
              generalize beforeB X.data.toList Y.data.toList = P1 at *
              generalize beforeB Y.data.toList X.data.toList = P2 at *
              have hTne : Nonempty T := let ⟨x, _⟩ := hg0; ⟨x⟩
              have HT1 := Lib.hid hT
              have HS1 := Lib.hid hS
              clear hT hS c4 c5
              cases P1 with
              | true =>
                have e7 : hitB ss j m = true := by rw [EH.out]; rfl
                have E7 := Lib.hid e7
                clear e7
                refine wp_region_class g hg0 (by kernel_rfl) (by kernel_rfl) ?_
                repeat (go_big_quiet_step (fail))
                go_big_quiet_step (exact HT1.out _)
                repeat (go_big_quiet_step (fail))
                refine wpQuiet_nil ?_
                rintro _ ⟨xq, rfl⟩
                have hbq := hgb xq
                go_wp2_with fail
                go_meet
                exact ⟨bool_val E7.out.symm, hbq⟩
              | false =>
                by_cases hlj : m < j
                · have j5 : decide ((m : Int) < (j : Int)) = true := by simp; omega
                  have j6 : (m : Int) < (j : Int) := by omega
                  cases P2 with
                  | true =>
                    have e7 : hitB ss j m = false := by rw [EH.out, decide_eq_true hlj]; rfl
                    have E7 := Lib.hid e7
                    clear e7
                    refine wp_region_class g hg0 (by kernel_rfl) (by kernel_rfl) ?_
                    repeat (go_big_quiet_step (fail))
                    go_big_quiet_step (exact HT1.out _)
                    repeat (go_big_quiet_step (fail))
                    go_big_quiet_step (exact HS1.out _)
                    repeat (go_big_quiet_step (fail))
                    refine wpQuiet_nil ?_
                    rintro _ ⟨xq, rfl⟩
                    have hbq := hgb xq
                    go_wp2_with fail
                    go_meet
                    exact ⟨bool_val E7.out.symm, hbq⟩
                  | false =>
                    have e7 : hitB ss j m = true := by rw [EH.out, decide_eq_true hlj]; rfl
                    have E7 := Lib.hid e7
                    clear e7
                    refine wp_region_class g hg0 (by kernel_rfl) (by kernel_rfl) ?_
                    repeat (go_big_quiet_step (fail))
                    go_big_quiet_step (exact HT1.out _)
                    repeat (go_big_quiet_step (fail))
                    go_big_quiet_step (exact HS1.out _)
                    repeat (go_big_quiet_step (fail))
                    refine wpQuiet_nil ?_
                    rintro _ ⟨xq, rfl⟩
                    have hbq := hgb xq
                    go_wp2_with fail
                    go_meet
                    exact ⟨bool_val E7.out.symm, hbq⟩
                · have j5 : decide ((m : Int) < (j : Int)) = false := by simp; omega
                  have j6 : ¬ (m : Int) < (j : Int) := by omega
                  have e7 : hitB ss j m = false := by rw [EH.out, decide_eq_false hlj]; rfl
                  have E7 := Lib.hid e7
                  clear e7
                  refine wp_region_class g hg0 (by kernel_rfl) (by kernel_rfl) ?_
                  repeat (go_big_quiet_step (fail))
                  go_big_quiet_step (exact HT1.out _)
                  repeat (go_big_quiet_step (fail))
                  refine wpQuiet_nil ?_
                  rintro _ ⟨xq, rfl⟩
                  have hbq := hgb xq
                  go_wp2_with fail
                  go_meet
                  exact ⟨bool_val E7.out.symm, hbq⟩
            case rest =>
              obtain ⟨rfl, hb4⟩ := hcut
              have hb5 := hbi.trans (hb4.mono hbi.size)
              cases hB : hitB ss j m with
              | true =>
                have e6 : t + 1 = (List.range (m + 1)).countP (hitB ss j) := by rw [hit_step, ← HT.out, hB, if_pos rfl]
                have E6 := Lib.hid e6
                clear e6 hB
                go_wp2
                go_roundw
                case rel => exact ⟨m + 1, t + 1, by omega, by omega, E6.out, by go_num, by go_num, hb5⟩
                case measure => simp [intOf]; omega
              | false =>
                have e6 : t = (List.range (m + 1)).countP (hitB ss j) := by rw [hit_step, ← HT.out, hB]; rfl
                have E6 := Lib.hid e6
                clear e6 hB
                go_wp2
                go_roundw
                case rel => exact ⟨m + 1, t, by omega, by omega, E6.out, rfl, by go_num, hb5⟩
                case measure => simp [intOf]; omega
          · have em : m = n := by omega
            have et : t = rank ss j := by rw [HT.out, em, HN.out]; rfl
            have hrt := rank_lt ss j hjs
            rw [← et, ← HN.out] at hrt
            have hown2 := own_below hown hbi
            have hlen := sortTo_len ss j
            have hc3 : wr.cell? ⟨G, t, none⟩ = some (.int .i64 ((sortTo ss j)[t]'(by rw [hlen, ← HN.out]; exact hrt))) := by
              rw [hown2.cellAt t (by rw [Nat.mul_one]; exact hrt), List.getElem?_map, List.getElem?_eq_getElem (by rw [hlen, ← HN.out]; exact hrt)]; rfl
            have hf3 := hown2.frozenAt t
            have hst := (hown2.stored t (.int .i64 j)).1
            have hbs := hbw.setCell (p := ⟨G, t, none⟩) (hown2.lt G rfl).1 (.int .i64 j)
            have e8 : ((sortTo ss j).map (Value.int .i64)).set t (.int .i64 j) = (sortTo ss (j + 1)).map (Value.int .i64) := by rw [sortTo_succ, ← et, List.map_set]
            rw [e8] at hst
            have i1 : (0 : Int) ≤ (t : Int) := by omega
            have i2 : (t : Int) < (n : Int) := by omega
            generalize (sortTo ss j)[t]'(by rw [hlen, ← HN.out]; exact hrt) = OLD at hc3
            clear et e8 hlen
            go_wp2
            go_roundw
            case rel => exact ⟨j + 1, by omega, by go_num, hst, hbs⟩
            case measure => simp [intOf]; omega
      · have ej : j = n := by omega
        subst ej
        go_wp2
        go_ret2
        exact ⟨.slice (some ⟨G, 0, none⟩) j j, ret_two rfl (int_val E.out.symm), by rw [E2.out, sortTo_len, ← HN.out]; exact hown, hb⟩
  · have m2 : (listErr ss != 0) = true := by simp [h2]
    have e2 : sortL ss = [] := by unfold sortL; rw [if_neg h2]
    have E2 := Lib.hid e2
    clear e2 h2 hn hx
    go_enter Tryz.func11, Tryz.ntmps11
    go_wp2_with fail
    refine (checkList_any A n c ss _ HN.out HX.out).mono ?_
    rintro e w2 ⟨rfl, hb2⟩
    go_wp2
    go_ret2
    exact ⟨_, ret_two rfl rfl, by rw [E2.out]; exact World.ownsRow_nil _ _ _ _, hb2⟩
end Go.Proofs.YtljlkhaolfihjaaGreatDoor
