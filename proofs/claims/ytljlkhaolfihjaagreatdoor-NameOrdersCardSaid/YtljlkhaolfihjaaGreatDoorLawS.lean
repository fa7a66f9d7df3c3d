/- Whether a list is in order, as a law asks. -/
import Derived.Test.YtljlkhaolfihjaaGreatDoorPgSq
import Derived.Test.YtljlkhaolfihjaaGreatDoorSpecZ
import Derived.Test.YtljlkhaolfihjaaGreatDoorPgTa
import Derived.Test.YtljlkhaolfihjaaGreatDoorSpecS3
import Derived.Test.YtljlkhaolfihjaaGreatDoorPgSr
import Derived.Test.YtljlkhaolfihjaaGreatDoorSpecC
import Derived.Deep.CutRange
namespace Go.Proofs.YtljlkhaolfihjaaGreatDoor
open Go.RowKit Go.Shelf

set_option maxRecDepth 100000 in
set_option maxHeartbeats 1600000 in
theorem lawOrder_any (A : Option Addr) (n c : Nat) (ss : List ByteArray) (w : World) (hn : n = ss.length) (hb : n ≤ 1000) (hv : AllOk ss) (hx : Cells w A (ss.map Value.string)) :
    Calls Tryz.prog 37 #[.slice A n c] w fun e w' => e = .returned (.tuple #[.bool (ordB ss), .bool true]) ∧ Below w.heap.size w w' := by
  have HN := Lib.hid hn
  have HX := Lib.hid hx
  have HV := Lib.hid hv
  clear hn hx hv
  go_enter Tryz.func37, Tryz.ntmps37
  go_wp2_with fail
  go_loopw [4, 5, 6] (fun i _ _ wr => ∃ k : Nat, i = .int .i64 ((k : Int) + 1) ∧ k ≤ n ∧ Hid (∀ j, j < k → j + 1 < ss.length → 0 ≤ cmpAt ss (j + 1) j) ∧ Below w.heap.size w wr) (fun i _ _ _ => n + 1 - (intOf i).toNat)
  case atStart => exact ⟨0, rfl, Nat.zero_le _, Lib.hid (fun j h => by omega), Below.refl _ _⟩
  case round =>
    obtain ⟨k, rfl, hk, hor, hbw⟩ := hrel
    by_cases hlt : k + 1 < n
    · have hk1 : k + 1 < ss.length := by rw [← HN.out]; exact hlt
      have hk0 : k < ss.length := by omega
      obtain ⟨b, off, rfl, c1⟩ := HX.out.str k hk0
      obtain ⟨b', off', e2, c2⟩ := HX.out.str (k + 1) hk1
      injection e2 with e2
      injection e2 with e2 e3 _
      subst e2 e3
      have d1 := (hbw.cell (World.block_lt_of_cell? w _ c1)).trans c1
      have d2 := (hbw.cell (World.block_lt_of_cell? w _ c2)).trans c2
      have hok : AllOk [ss[k], ss[k + 1]] := fun s hs => by
        simp at hs
        rcases hs with rfl | rfl <;> exact HV.out _ (List.getElem_mem _)
      have hc : cmpAt ss (k + 1) k = - cmpSpell (spellOf ss[k]) (spellOf ss[k + 1]) := by
        unfold cmpAt; rw [getD_at ss _ hk1, getD_at ss _ hk0]; exact cmpS_anti _ _
      have q := fun W => Compare_ok ss[k] ss[k + 1] W hok
      obtain ⟨v, hvv⟩ : ∃ v, cmpSpell (spellOf ss[k]) (spellOf ss[k + 1]) = v := ⟨_, rfl⟩
      rw [hvv] at q hc
      generalize ss[k] = X at *
      generalize ss[k + 1] = Y at *
      have w1 : IntKind.i64.wrap ((k : Int) + 1 - 1) = (k : Int) := by rw [show (k : Int) + 1 - 1 = (k : Int) from by omega]; exact IntWalk.i64_in _ (by omega)
      have w2 : IntKind.i64.wrap ((k : Int) + 1 + 1) = (k : Int) + 1 + 1 := IntWalk.i64_in _ (by omega)
      have e1 : ((k : Int) + 1).toNat = k + 1 := by omega
      have k0 : (0 : Int) ≤ (k : Int) := by omega
      have k1 : (0 : Int) ≤ (k : Int) + 1 := by omega
      have k2 : (k : Int) + 1 < (n : Int) := by omega
      have k3 : (k : Int) < (n : Int) := by omega
      have HNX : Hid (v ≤ 0 → ∀ j, j < k + 1 → j + 1 < ss.length → 0 ≤ cmpAt ss (j + 1) j) := Lib.hid fun h j hj hj2 => by
        by_cases e : j = k
        · subst e; rw [hc]; omega
        · exact hor.out j (by omega) hj2
      have HBAD : Hid (0 < v → ordB ss = false) := Lib.hid fun h => ord_false hk1 (by rw [hc]; omega)
      obtain ⟨T, g, hg0, hgb, h1, h2, h3⟩ : ∃ (T : Type) (g : T → World), (∃ x, wr.drew = g x) ∧ (∀ x, Below wr.heap.size wr (g x)) ∧ (∀ x, (g x).cell? ⟨b, off + k, none⟩ = some (.string X)) ∧ (∀ x, (g x).cell? ⟨b, off + (k + 1), none⟩ = some (.string Y)) ∧
          (∀ x, Calls Tryz.prog 14 #[.string X, .string Y] (g x) fun e w' => e = .returned (.tuple #[.int .i64 v, .int .i64 0]) ∧ ∃ y, w' = g y) :=
        ⟨Since wr, Subtype.val, Since.here wr, fun x => x.property, fun x => x.cell d1, fun x => x.cell d2, fun x => x.calls (q _)⟩
      have hTne : Nonempty T := let ⟨x, _⟩ := hg0; ⟨x⟩
      have HT1 := Lib.hid h3
      clear h3 d1 d2 q c1 c2 hc hvv hor hok
      go_wp2_with fail
      refine wp_region_class g hg0 (by kernel_rfl) (by kernel_rfl) ?_
      repeat (go_big_quiet_step (fail))
      go_big_quiet_step (exact HT1.out _)
      repeat (go_big_quiet_step (fail))
      refine wpQuiet_nil ?_
      rintro _ ⟨xq, rfl⟩
      have t5 := hbw.trans ((hgb xq).mono hbw.size)
      generalize g xq = W5 at *
      clear hgb hg0 h1 h2 HT1
      by_cases hp : 0 < v
      · have hf := HBAD.out hp
        have HF := Lib.hid hf
        clear hf HBAD HNX
        go_wp2_with fail
        go_ret2
        exact ⟨ret_two (bool_val HF.out.symm) rfl, t5⟩
      · have hnx := Lib.hid (HNX.out (by omega))
        clear HBAD HNX
        go_wp2_with fail
        go_roundw
        case rel => exact ⟨k + 1, by go_num, by omega, hnx, t5⟩
        case measure => simp [intOf]; omega
    · have e : ordB ss = true := ord_true fun i hi => by have h9 := hor.out i (by have := HN.out; omega) hi; omega
      have E := Lib.hid e
      have hx : ¬ ((k : Int) + 1 < (n : Int)) := by omega
      clear e hor
      go_wp2_with fail
      go_ret2
      exact ⟨ret_two (bool_val E.out.symm) rfl, hbw⟩
end Go.Proofs.YtljlkhaolfihjaaGreatDoor

/- Without the names of Wrong the others are in order, and without fewer, or as many that come before, they are not: the walk. -/
namespace Go.Proofs.YtljlkhaolfihjaaGreatDoor
open Go.RowKit Go.Shelf

set_option maxRecDepth 100000 in
set_option maxHeartbeats 6400000 in
theorem NameFewest_any (A : Option Addr) (n c : Nat) (w : World) (_ : LaidErr w) (hn : n ≤ 1000000000000000000) (hx : NumsIn w A n) :
    Calls Tryz.prog 6 #[.slice A n c] w (TruePost w) := by
  have HX := Lib.hid hx
  clear hx
  go_enter Tryz.func6, Tryz.ntmps6
  go_wp2_with fail
  refine (NewDice_any A n c _ hn HX.out).mono ?_
  rintro e w2 ⟨rfl, hd2, b3⟩
  generalize hDD : w.heap.size = D at hd2
  have hD : w.heap.size ≤ D := Nat.le_of_eq hDD
  clear hDD
  go_wp2_with fail
  refine (NamesOf_any D _ 6 3 _ hd2 (by decide) (by decide) (by decide) (by decide)).mono ?_
  rintro e w4 ⟨o, sa, rfl, hl4, ho4, hlike4, hd4, hg4⟩
  have b5 := b3.grown hg4 b3.size fun k hk => by cases hk; exact hD
  obtain ⟨O, capo, rfl⟩ := own_form ho4
  have CO := Lib.hid (cells_own ho4)
  have hl6 : sa.length ≤ 6 := by omega
  have HM : Hid (∀ i (h : i < sa.length), Made6 sa[i]) := Lib.hid fun i h => by
    have hk := hlike4 _ (List.getElem_mem h)
    exact ⟨hk.1, by have := hk.2.1; omega, hk.2.2⟩
  have hok : AllOk sa := made_all HM.out
  have hle := list_ok hl6 hok
  have HV := Lib.hid hok
  have QW := Lib.hid (Wrong_ok O sa.length capo sa w4 rfl hle CO.out)
  unfold WrongAns at QW
  rw [hle] at QW
  have HWL : Hid (wrongL sa = wrongX sa) := Lib.hid (by unfold wrongL; rw [if_pos hle])
  clear hlike4 hd4 hg4 hl4 ho4 hok hle hd2 b3
  go_wp2_with fail
  refine QW.out.mono ?_
  rintro e w5 ⟨v, rfl, hov, hw6, hb5⟩
  obtain ⟨AV, cv, rfl⟩ := own_form hov
  have CV := Lib.hid (cells_own hov)
  have C5 := Lib.hid (CO.out.below hb5)
  have b6 := b5.trans (hb5.mono b5.size)
  clear hov hb5 QW b5 CO
  go_wp2_with fail
  go_loopw [6, 7, 8, 9, 10] (fun kv _ _ _ _ wr => ∃ k : Nat, k ≤ sa.length + 1 ∧ kv = .int .i64 k ∧ Hid (∀ x, x ∈ lessI sa.length k → fineI sa x = false) ∧ Below w5.heap.size w5 wr) (fun kv _ _ _ _ _ => sa.length + 1 - (intOf kv).toNat)
  case atStart => exact ⟨0, Nat.zero_le _, rfl, Lib.hid (fun x hx => by simp [lessI, allI] at hx), Below.refl _ _⟩
  case round =>
    obtain ⟨k, hk, rfl, hless, t0⟩ := hrel
    by_cases hkl : k ≤ sa.length
    · have j1 : (k : Int) ≤ (sa.length : Int) := by omega
      have QS := Lib.hid (Subsets_any sa.length k wr (by omega) (by omega))
      unfold SubsPost at QS
      have hsl : (subsL k 0 sa.length).length ≤ 4096 := Nat.le_trans (subsL_len k 0 sa.length) (show (2 : Nat) ^ (sa.length - 0) ≤ 2 ^ 12 from Nat.pow_le_pow_right (by decide) (by omega))
      have HR : Hid (∀ i (h : i < (subsL k 0 sa.length).length), ((subsL k 0 sa.length)[i]).length ≤ 6) := Lib.hid fun i h => by rw [subsL_row k 0 sa.length _ (List.getElem_mem h)]; omega
      have HWF : Hid (∀ i (h : i < (subsL k 0 sa.length).length), (∀ x, x ∈ (subsL k 0 sa.length).take i → fineI sa x = false) → fineI sa (subsL k 0 sa.length)[i] = true → wrongL sa = (subsL k 0 sa.length)[i]) := Lib.hid fun i h h2 h3 => by
        rw [HWL.out]; exact wrong_first hkl h hless.out h2 h3
      have HNX : Hid ((∀ x, x ∈ subsL k 0 sa.length → fineI sa x = false) → ∀ x, x ∈ lessI sa.length (k + 1) → fineI sa x = false) := Lib.hid fun h x hx => by
        rw [lessI_succ] at hx
        rcases List.mem_append.1 hx with hx | hx
        · exact hless.out x hx
        · exact h x hx
      generalize subsL k 0 sa.length = S at *
      clear hless
      go_wp2_with fail
      refine QS.out.mono ?_
      rintro e w6 ⟨ol, vs, rfl, hol, hrl, hb6⟩
      obtain ⟨AL, cl, rfl⟩ := own_form hol
      have CL := Lib.hid (IntLists.of hol hrl)
      have t1 := t0.trans (hb6.mono t0.size)
      have ht1 := t1.size
      clear QS hol hrl hb6 t0
      go_wp2_with fail
      go_loopw [8, 9, 10] (fun iv _ _ wi => ∃ i : Nat, i ≤ S.length ∧ iv = .int .i64 i ∧ Hid (∀ x, x ∈ S.take i → fineI sa x = false) ∧ Below w6.heap.size w6 wi) (fun iv _ _ _ => S.length - (intOf iv).toNat)
      case atStart => exact ⟨0, Nat.zero_le _, rfl, Lib.hid (fun x hx => by simp at hx), Below.refl _ _⟩
      case round =>
        obtain ⟨i, hi, rfl, hno, t2⟩ := hrel
        by_cases hil : i < S.length
        · obtain ⟨b1, o1, Ai, ci, rfl, c1, c2⟩ := (CL.out.below t2) i hil
          have hri := HR.out i hil
          have HHIT := Lib.hid (HWF.out i hil hno.out)
          have HMISS := Lib.hid (take_false (p := fineI sa) hil hno.out)
          have t3 := t1.trans (t2.mono ht1)
          have q := Without_any O Ai sa.length capo (S[i]).length ci sa S[i] wr rfl rfl (by omega) (by omega) (C5.out.below t3) c2
          unfold WithoutPost at q
          have QWO := Lib.hid q
          have hlw := withoutFrom_len S[i] sa 0
          have QLO := Lib.hid (fun (B : Option Addr) (c : Nat) W (hW : Cells W B ((withoutFrom S[i] 0 sa).map Value.string)) => lawOrder_any B (withoutFrom S[i] 0 sa).length c (withoutFrom S[i] 0 sa) W rfl (by omega) (fun s hs => HV.out s (withoutFrom_sub _ _ _ s hs)) hW)
          have hfi : fineI sa S[i] = ordB (withoutFrom S[i] 0 sa) := rfl
          have C2 := Lib.hid c2
          generalize S[i] = X at *
          generalize withoutFrom X 0 sa = RS at *
          rw [← hfi] at QLO
          have i0 : (0 : Int) ≤ (i : Int) := by omega
          have i1 : (i : Int) < (S.length : Int) := by omega
          clear q c2 hno hfi
          cases hfx : fineI sa X with
          | true =>
            have hwx := HHIT.out hfx
            rw [hfx] at QLO
            have QEQ := Lib.hid (fun W (hW : Below wr.heap.size wr W) => EqInts_any AV Ai (wrongL sa).length X.length cv ci (wrongL sa) X W rfl rfl (by omega) (CV.out.below (t3.trans (hW.mono t3.size))) (C2.out.below hW))
            unfold EqPost at QEQ
            rw [decide_eq_true hwx] at QEQ
            generalize wrongL sa = WL at *
            clear HHIT HMISS hfx hwx
            go_wp2_with fail
            refine QWO.out.mono ?_
            rintro e w7 ⟨o7, rfl, ho7, hb7⟩
            obtain ⟨A7, c7, rfl⟩ := own_form ho7
            have C7 := Lib.hid (cells_own ho7)
            clear ho7 QWO
            go_wp2_with fail
            refine (QLO.out A7 c7 _ C7.out).mono ?_
            rintro e w8 ⟨rfl, hb8⟩
            have t4 := hb7.trans (hb8.mono hb7.size)
            have c8 := (t4.cell (World.block_lt_of_cell? _ _ c1)).trans c1
            clear hb7 hb8 QLO C7
            go_wp2_with fail
            refine (QEQ.out _ t4).mono ?_
            rintro e w9 ⟨rfl, kd, rfl⟩
            have t5 := t4.trans ((Drew.below ⟨kd, rfl⟩ w8.heap.size).mono t4.size)
            generalize w8.drewN kd = w9 at *
            go_wp2_with fail
            refine (spelling_at _ (b6.trans ((t3.trans (t5.mono t3.size)).mono b6.size))).mono ?_
            rintro e wz ⟨rfl, hbz⟩
            go_wp2_with fail
            go_ret
            exact ⟨rfl, hbz⟩
          | false =>
            have hms := HMISS.out hfx
            have HMS := Lib.hid hms
            rw [hfx] at QLO
            clear HHIT HMISS hfx hms
            go_wp2_with fail
            refine QWO.out.mono ?_
            rintro e w7 ⟨o7, rfl, ho7, hb7⟩
            obtain ⟨A7, c7, rfl⟩ := own_form ho7
            have C7 := Lib.hid (cells_own ho7)
            clear ho7 QWO
            go_wp2_with fail
            refine (QLO.out A7 c7 _ C7.out).mono ?_
            rintro e w8 ⟨rfl, hb8⟩
            have t4 := t2.trans ((hb7.trans (hb8.mono hb7.size)).mono t2.size)
            clear hb7 hb8 QLO C7
            go_wp2_with fail
            go_roundw
            case rel => exact ⟨i + 1, by omega, by go_num, HMS, t4⟩
            case measure => simp [intOf]; omega
        · have hall : Hid (∀ x, x ∈ lessI sa.length (k + 1) → fineI sa x = false) := Lib.hid (HNX.out fun x hx => hno.out x (by rw [List.take_of_length_le (by omega)]; exact hx))
          clear hno HNX
          go_wp2_with fail
          go_roundw
          case rel => exact ⟨k + 1, by omega, by go_num, hall, t1.trans (t2.mono ht1)⟩
          case measure => simp [intOf]; omega
    · have hkk : k = sa.length + 1 := by omega
      exact (wrong_some (by rw [← hkk]; exact hless.out)).elim
end Go.Proofs.YtljlkhaolfihjaaGreatDoor

/- Sorted lists: the walk. -/
namespace Go.Proofs.YtljlkhaolfihjaaGreatDoor
open Go.RowKit Go.Shelf

theorem sorted_of {sa : List ByteArray} (h6 : sa.length ≤ 6) (hm : ∀ i (h : i < sa.length), Made6 sa[i]) : ∃ N : List Nat, N.length = sa.length ∧ sortP sa = N.map (fun i : Nat => (i : Int)) ∧ N.Nodup ∧ (∀ i (h : i < N.length), N[i] < sa.length) ∧
    (N.Pairwise fun x y => cmpAt sa x y < 0 ∨ (cmpAt sa x y = 0 ∧ x < y)) := by
  have hle := list_ok h6 (made_all hm)
  obtain ⟨N, h1, h2, h3⟩ := sortG_facts sa
  have hl : N.length = sa.length := by rw [h2.length_eq, List.length_range]
  refine ⟨N, hl, ?_, h2.nodup_iff.2 List.nodup_range, fun i h => List.mem_range.1 (h2.mem_iff.1 (List.getElem_mem h)), h3⟩
  unfold sortP
  rw [if_pos hle, h1]
theorem named_made {sa : List ByteArray} {N : List Nat} (hm : ∀ i (h : i < sa.length), Made6 sa[i]) (hN : ∀ i (h : i < N.length), N[i] < sa.length) : ∀ i (h : i < (named sa N).length), Made6 (named sa N)[i] := fun i h => by
  have h1 : i < N.length := by rw [named_len] at h; exact h
  have e := named_at sa N i h1
  rw [getD_at _ _ h, getD_at _ _ (hN i h1)] at e
  rw [e]; exact hm _ _
theorem not_before {N : List Nat} (h : N.Nodup) {k : Nat} (hk : k < N.length) : ((N[k] : Nat) : Int) ∉ (N.map (fun i : Nat => (i : Int))).take k := by
  rw [← List.map_take]
  intro hm
  obtain ⟨x, hx, e⟩ := List.mem_map.1 hm
  have e2 : x = N[k] := by omega
  subst e2
  obtain ⟨j, hj, ej⟩ := List.mem_iff_getElem.1 hx
  rw [List.getElem_take] at ej
  have hjk : j < k := by rw [List.length_take] at hj; omega
  rw [List.nodup_iff_pairwise_ne, List.pairwise_iff_getElem] at h
  exact h j k (by omega) hk hjk ej

theorem place_call {B : Option Addr} {n c : Nat} {T : List ByteArray} {W0 : World} (hL : LaidErr W0) (hn : n = T.length) (h6 : T.length ≤ 6) (hx : Cells W0 B (T.map Value.string)) (h : Asc2 T) (hm : ∀ i (h : i < T.length), Made6 T[i]) {i f : Nat} (hi : i < T.length) (hf : f ≤ i) (h1 : ∀ j (hj : j < T.length), f ≤ j → j ≤ i → T[j] = T[i]) (h2 : f = 0 ∨ ∃ h9 : f - 1 < T.length, T[f - 1] ≠ T[i]) (W : World) (hW : Below W0.heap.size W0 W) :
    Calls Tryz.prog 18 #[.slice B n c, .string T[i]] W fun e w' => e = .returned (.tuple #[.int .i64 f, .int .i64 0]) ∧ Below W.heap.size W w' := by
  have q := pPlace_any B n c T T[i] W (hL.below hW) hn (hx.below hW)
  unfold PlaceAns at q
  have e1 : placeErr T T[i] = 0 := by
    unfold placeErr
    rw [if_pos (list_ok h6 (made_all hm)), if_pos (made_check (hm i hi)), ordered_eq, asc_ord h]; rfl
  have e2 : placeB T T[i] = f := by
    unfold placeB
    rw [if_pos e1, place_sorted h hm hi hf h1 h2]
  rw [e1, e2] at q
  exact q
theorem Cells.few {w : World} {A : Option Addr} {xs : List Value} (h : Cells w A xs) (k : Nat) : Cells w A (xs.take k) := fun i hi => by
  have hi2 : i < k ∧ i < xs.length := by rw [List.length_take] at hi; omega
  obtain ⟨b, off, e, hc⟩ := h i hi2.2
  refine ⟨b, off, e, ?_⟩
  rw [hc, List.getD_eq_getElem?_getD, List.getD_eq_getElem?_getD, List.getElem?_take, if_pos hi2.1]

set_option maxRecDepth 100000 in
set_option maxHeartbeats 6400000 in
theorem NameSorted_any (A : Option Addr) (n c : Nat) (w : World) (hL : LaidErr w) (hn : n ≤ 1000000000000000000) (hx : NumsIn w A n) :
    Calls Tryz.prog 5 #[.slice A n c] w (TruePost w) := by
  obtain ⟨si, hi, hz0, hz1, hz2⟩ := info_parts infoStr
  have HX := Lib.hid hx
  have HLE := Lib.hid hL
  clear hx hL
  go_enter Tryz.func5, Tryz.ntmps5
  go_wp2_with fail
  refine (NewDice_any A n c _ hn HX.out).mono ?_
  rintro e w2 ⟨rfl, hd2, b3⟩
  generalize hDD : w.heap.size = D at hd2
  have hD : w.heap.size ≤ D := Nat.le_of_eq hDD
  clear hDD
  go_wp2_with fail
  refine (NamesOf_any D _ 6 3 _ hd2 (by decide) (by decide) (by decide) (by decide)).mono ?_
  rintro e w4 ⟨o, sa, rfl, hl4, ho4, hlike4, hd4, hg4⟩
  have b5 := b3.grown hg4 b3.size fun k hk => by cases hk; exact hD
  obtain ⟨O, capo, rfl⟩ := own_form ho4
  have CO := Lib.hid (cells_own ho4)
  have hl6 : sa.length ≤ 6 := by omega
  have HM : Hid (∀ i (h : i < sa.length), Made6 sa[i]) := Lib.hid fun i h => by
    have hk := hlike4 _ (List.getElem_mem h)
    exact ⟨hk.1, by have := hk.2.1; omega, hk.2.2⟩
  have qs := pSort_any O sa.length capo sa w4 (HLE.out.below b5) rfl CO.out
  unfold SortAns at qs
  rw [list_ok hl6 (made_all HM.out)] at qs
  obtain ⟨N, hNl, hNe, hNd, hNb, hNp⟩ := sorted_of hl6 HM.out
  rw [hNe, List.length_map, hNl] at qs
  have QS := Lib.hid qs
  have HNL := Lib.hid hNl
  have HND := Lib.hid (fun k (hk : k < N.length) => not_before hNd hk)
  have HNB := Lib.hid hNb
  have HNP := Lib.hid hNp
  have hne0 : ((sa.length : Int) != (sa.length : Int)) = false := by simp
  clear hlike4 hd4 hg4 hl4 ho4 hd2 b3 qs hNl hNe hNd hNb hNp
  go_wp2_with fail
  refine QS.out.mono ?_
  rintro e w5 ⟨AS, cS, rfl, hcs, hb5, hcap⟩
  have CS := Lib.hid hcs
  have C5 := Lib.hid (CO.out.below hb5)
  have b6 := b5.trans (hb5.mono b5.size)
  clear hcs hb5 QS b5 CO
  go_wp2_with fail
  go_loopw [6, 7] (fun sv kv wr => ∃ k : Nat, k ≤ sa.length ∧ kv = .int .i64 k ∧ wr.ownsRow w5.heap.size 9 1 sv k ((named sa (N.take k)).map Value.string) ∧ Below w5.heap.size w5 wr) (fun _ kv _ => sa.length - (intOf kv).toNat)
  case atStart => exact ⟨0, Nat.zero_le _, rfl, World.ownsRow_nil _ _ _ _, Below.refl _ _⟩
  case round =>
    obtain ⟨k, hk, rfl, hown, t0⟩ := hrel
    obtain ⟨SA, scap, rfl⟩ := own_form hown
    by_cases hkl : k < sa.length
    · have hkN : k < N.length := by rw [HNL.out]; exact hkl
      have hp := HNB.out k hkN
      have hni := HND.out k hkN
      have hst := named_step sa N k hkN hp
      have hkm : k < (N.map (fun i : Nat => (i : Int))).length := by rw [List.length_map]; exact hkN
      obtain ⟨g, off, rfl, c1⟩ := (CS.out.below t0).int k hkm
      rw [List.getElem_map] at c1
      obtain ⟨g2, off2, rfl, c2⟩ := (C5.out.below t0).str N[k] hp
      have qi := fun W (hW : Below wr.heap.size wr W) => Index_any (some ⟨g, off, none⟩) k cS ((N.map (fun i : Nat => (i : Int))).take k) (N[k] : Nat) W (by rw [List.length_take]; omega) (by omega) (by rw [List.map_take]; exact (CS.out.below (t0.trans (hW.mono t0.size))).few k)
      have qi2 : ∀ W, Below wr.heap.size wr W → Calls Tryz.prog 35 #[.slice (some ⟨g, off, none⟩) k cS, .int .i64 ((N[k] : Nat) : Int)] W fun e w' => e = .returned (.int .i64 (-1)) ∧ Below W.heap.size W w' := fun W hW => (qi W hW).mono (by
        rintro e w' ⟨v, rfl, h1 | h1, rfl⟩
        · exact absurd h1.2 hni
        · rw [h1.1]; exact ⟨rfl, Below.refl _ _⟩)
      generalize N[k] = p at *
      generalize sa[p] = X at *
      have HST := Lib.hid hst
      have p0 : (0 : Int) ≤ (p : Int) := by omega
      have p1 : (p : Int) < (sa.length : Int) := by omega
      have p2 : p < sa.length := by omega
      have k0 : (0 : Int) ≤ (k : Int) := by omega
      have k1 : (k : Int) < (sa.length : Int) := by omega
      have k2 : (k : Int) ≤ (cS : Int) := by omega
      have d1 : decide ((p : Int) < 0) = false := decide_eq_false (by omega)
      have d2 : decide ((sa.length : Int) ≤ (p : Int)) = false := decide_eq_false (by omega)
      have d4 : decide (sa.length ≤ p) = false := decide_eq_false (by omega)
      have d3 : decide ((p : Int) ≥ (sa.length : Int)) = false := decide_eq_false (by omega)
      obtain ⟨T, gw, hg0, hgb, h1, h3⟩ : ∃ (T : Type) (g' : T → World), (∃ x, wr.drew = g' x) ∧ (∀ x, Below wr.heap.size wr (g' x)) ∧ (∀ x, (g' x).cell? ⟨g, off + k, none⟩ = some (.int .i64 (p : Int))) ∧
          (∀ x, Calls Tryz.prog 35 #[.slice (some ⟨g, off, none⟩) k cS, .int .i64 (p : Int)] (g' x) fun e w' => e = .returned (.int .i64 (-1)) ∧ ∃ y, w' = g' y) :=
        ⟨Since wr, Subtype.val, Since.here wr, fun x => x.property, fun x => x.cell c1, fun x => x.calls (qi2 _ x.property)⟩
      have hTne : Nonempty T := let ⟨x, _⟩ := hg0; ⟨x⟩
      have HT1 := Lib.hid h3
      clear h3 qi qi2 hni hst hkm hp
      go_wp2_with fail
      refine wp_region_class gw hg0 (by kernel_rfl) (by kernel_rfl) ?_
      repeat (go_big_quiet_step (fail))
      go_big_quiet_step (exact HT1.out _)
      repeat (go_big_quiet_step (fail))
      refine wpQuiet_nil ?_
      rintro _ ⟨xq, rfl⟩
      have hbq := hgb xq
      have t1 := t0.trans (hbq.mono t0.size)
      have ho1 := own_below hown hbq
      have c3 := (hbq.cell (World.block_lt_of_cell? _ _ c1)).trans c1
      have c4 := (hbq.cell (World.block_lt_of_cell? _ _ c2)).trans c2
      generalize gw xq = W6 at *
      clear hgb hg0 h1 HT1 hown c1 c2 hbq t0
      have hs1 := t1.size
      go_wp2_with (at_builtin; refine wpList_append_own _ rfl _ _ 22 rfl w5.heap.size 9 si (.string ByteArray.empty) 1 16 Tryz.underlying22 hi hz0 hz1 hz2 rfl (by decide) _ _ _ rfl (ho1.alloc _) ⟨W6.heap.size, 0, none⟩ 1 1 [.string X] rfl rfl (cell_one_new _ _ _) (by simp [Value.oneCell']) (by unfold maxLen; omega) (by omega) (by simp; omega) ?_; intro v' wN hownN hgN _)
      have hbN := (t1.alloc hs1 (.cells #[.string X] 9)).grown hgN (by simp; omega) (fun j hj => (ho1.lt j hj).1)
      go_wp2_with fail
      go_roundw
      case rel => exact ⟨k + 1, by omega, by go_num, by rw [HST.out, List.map_append]; exact hownN, hbN⟩
      case measure => simp [intOf]; omega
    · have hkn : k = sa.length := by omega
      subst hkn
      have htk : N.take sa.length = N := List.take_of_length_le (by rw [HNL.out]; exact Nat.le_refl _)
      rw [htk] at hown
      have hTl : (named sa N).length = sa.length := by rw [named_len, HNL.out]
      have HTM : Hid (∀ i (h : i < (named sa N).length), Made6 (named sa N)[i]) := Lib.hid (named_made HM.out HNB.out)
      have HTA : Hid (Asc2 (named sa N)) := Lib.hid (named_asc HNP.out)
      have HTP : Hid (∀ i (h : i + 1 < N.length), cmpAt (named sa N) i (i + 1) < 0 ∨ (cmpAt (named sa N) i (i + 1) = 0 ∧ N[i] < N[i + 1])) := Lib.hid fun i h => named_pair HNP.out (Nat.lt_succ_self i) h
      have CT := Lib.hid (cells_own hown)
      generalize named sa N = T at *
      have t0s := t0.size
      have b7 := b6.trans (t0.mono b6.size)
      have CS7 := Lib.hid (CS.out.below t0)
      have LE7 := Lib.hid (HLE.out.below b7)
      have HTL := Lib.hid hTl
      have hnl : ¬ ((sa.length : Int) < (sa.length : Int)) := by omega
      generalize hWW : wr = W7 at *
      clear hWW hown CS C5 HND HNB HNP HM t0 htk hTl
      go_wp2_with fail
      go_loopw [8, 9, 10, 11, 12, 13] (fun kv _ _ _ _ _ wi => ∃ k : Nat, k ≤ sa.length ∧ kv = .int .i64 k ∧ Below W7.heap.size W7 wi) (fun kv _ _ _ _ _ _ => sa.length - (intOf kv).toNat)
      case atStart => exact ⟨0, Nat.zero_le _, rfl, Below.refl _ _⟩
      case round =>
        obtain ⟨k, hk, rfl, t0⟩ := hrel
        by_cases hkl : k < sa.length
        · have hkT : k < T.length := by rw [HTL.out]; exact hkl
          have hkN : k < N.length := by rw [HNL.out]; exact hkl
          go_upto_if 81 with fail
          go_cut [9] from 74 to 149 (fun _ wx => Below W7.heap.size W7 wx)
          case first =>
            by_cases hk0 : k = 0
            · have f1 : decide (0 < k) = false := decide_eq_false (by omega)
              have f2 : decide ((k : Int) > 0) = false := decide_eq_false (by omega)
              have f3 : ¬ (0 : Int) < (k : Int) := by omega
              clear hk0
              go_wp2_with fail
              go_meet
              exact t0
            · obtain ⟨j, hj⟩ : ∃ j, k = j + 1 := ⟨k - 1, by omega⟩
              have hjT : j < T.length := by omega
              have hjN : j < N.length := by omega
              have f1 : decide (0 < k) = true := decide_eq_true (by omega)
              have f2 : decide ((k : Int) > 0) = true := decide_eq_true (by omega)
              have f3 : (0 : Int) < (k : Int) := by omega
              have f4 : IntKind.i64.wrap ((k : Int) - 1) = (j : Int) := by rw [show (k : Int) - 1 = (j : Int) from by omega]; exact IntWalk.i64_in _ (by omega)
              have f5 : (0 : Int) ≤ (j : Int) := by omega
              have f6 : (j : Int) < (sa.length : Int) := by omega
              have f7 : (0 : Int) ≤ (k : Int) := by omega
              have f8 : (k : Int) < (sa.length : Int) := by omega
              have hv : cmpAt T j k < 0 ∨ (cmpAt T j k = 0 ∧ N[j]'hjN < N[k]'hkN) := by
                subst hj
                exact HTP.out j hkN
              clear hj hk0
              obtain ⟨g, off, rfl, c1⟩ := (CT.out.below t0).str j hjT
              obtain ⟨g', off', e', c2⟩ := (CT.out.below t0).str k hkT
              injection e' with e'
              injection e' with e1 e2
              subst e1 e2
              obtain ⟨ga, oa, rfl, c3⟩ := (CS7.out.below t0).int j (by rw [List.length_map]; exact hjN)
              obtain ⟨g', off', e', c4⟩ := (CS7.out.below t0).int k (by rw [List.length_map]; exact hkN)
              injection e' with e'
              injection e' with e1 e2
              subst e1 e2
              rw [List.getElem_map] at c3 c4
              have q := fun W => Compare_ok T[j] T[k] W (made_ok2 (HTM.out j hjT) (HTM.out k hkT))
              have e : cmpAt T j k = cmpSpell (spellOf T[j]) (spellOf T[k]) := by unfold cmpAt; rw [getD_at T j hjT, getD_at T k hkT]
              rw [e] at hv
              generalize cmpSpell (spellOf T[j]) (spellOf T[k]) = v at *
              generalize T[j] = X at *
              generalize T[k] = Y at *
              generalize N[j] = p at *
              generalize N[k] = q' at *
              obtain ⟨TT, gw, hg0, hgb, h1, h2, h3⟩ : ∃ (TT : Type) (g' : TT → World), (∃ x, wr.drew = g' x) ∧ (∀ x, Below wr.heap.size wr (g' x)) ∧ (∀ x, (g' x).cell? ⟨g, off + j, none⟩ = some (.string X)) ∧ (∀ x, (g' x).cell? ⟨g, off + k, none⟩ = some (.string Y)) ∧
                  (∀ x, Calls Tryz.prog 14 #[.string X, .string Y] (g' x) fun e w' => e = .returned (.tuple #[.int .i64 v, .int .i64 0]) ∧ ∃ y, w' = g' y) :=
                ⟨Since wr, Subtype.val, Since.here wr, fun x => x.property, fun x => x.cell c1, fun x => x.cell c2, fun x => x.calls (q _)⟩
              have hTne : Nonempty TT := let ⟨x, _⟩ := hg0; ⟨x⟩
              have HT1 := Lib.hid h3
              clear h3 q e c1 c2
              go_wp2_with fail
              refine wp_region_class gw hg0 (by kernel_rfl) (by kernel_rfl) ?_
              repeat (go_big_quiet_step (fail))
              go_big_quiet_step (exact HT1.out _)
              repeat (go_big_quiet_step (fail))
              refine wpQuiet_nil ?_
              rintro _ ⟨xq, rfl⟩
              have hbq := hgb xq
              have t1 := t0.trans (hbq.mono t0.size)
              have d3 := (hbq.cell (World.block_lt_of_cell? _ _ c3)).trans c3
              have d4 := (hbq.cell (World.block_lt_of_cell? _ _ c4)).trans c4
              generalize gw xq = W9 at *
              clear hgb hg0 h1 h2 HT1 c3 c4 hbq t0
              rcases hv with hv | ⟨rfl, hpq⟩
              · have b1 : decide (v > 0) = false := decide_eq_false (by omega)
                have b2 : decide (0 < v) = false := decide_eq_false (by omega)
                have b3 : (v == 0) = false := by rw [beq_eq_false_iff_ne]; omega
                go_wp2_with fail
                go_quiet (fail)
                have t4 : Below W7.heap.size W7 (W9.drewN nq) := t1.trans (Drew.below ⟨nq, rfl⟩ _)
                generalize W9.drewN nq = W10 at *
                go_wp2_with fail
                go_meet
                exact t4
              · have b1 : decide ((p : Int) > (q' : Int)) = false := decide_eq_false (by omega)
                have b2 : decide (q' < p) = false := decide_eq_false (by omega)
                go_wp2_with fail
                go_quiet (fail)
                have t4 : Below W7.heap.size W7 (W9.drewN nq) := t1.trans (Drew.below ⟨nq, rfl⟩ _)
                generalize W9.drewN nq = W10 at *
                go_wp2_with fail
                go_meet
                exact t4
          case rest =>
            have t1 : Below W7.heap.size W7 wc := hcut
            obtain ⟨g, off, rfl, c1⟩ := (CT.out.below t1).str k hkT
            have QP := Lib.hid (fun f (hf : f ≤ k) h1 h2 W (hW : Below W7.heap.size W7 W) => place_call (c := scap) (LE7.out) HTL.out.symm (by rw [HTL.out]; exact hl6) CT.out HTA.out HTM.out hkT hf h1 h2 W hW)
            have HK : Hid (∀ j (hj : j < T.length), k ≤ j → j ≤ k → T[j] = T[k]) := Lib.hid fun j hj h1 h2 => by
              have : j = k := by omega
              subst this; rfl
            generalize hTK : T[k] = X at *
            have HTK := Lib.hid hTK
            have k0 : (0 : Int) ≤ (k : Int) := by omega
            have k1 : (k : Int) < (sa.length : Int) := by omega
            clear t0 hTK hcut
            generalize hWC : wc = W8 at *
            clear hWC
            go_wp2_with fail
            go_loopw [11] (fun fv wi => ∃ f : Nat, f ≤ k ∧ fv = .int .i64 f ∧ Hid (∀ j (hj : j < T.length), f ≤ j → j ≤ k → T[j] = X) ∧ Below W7.heap.size W7 wi) (fun fv _ => (intOf fv).toNat)
            case atStart => exact ⟨k, Nat.le_refl _, rfl, HK, t1⟩
            case round =>
              obtain ⟨f, hf, rfl, heq, t2⟩ := hrel
              obtain ⟨g', off', e', c3⟩ := (CT.out.below t2).str k hkT
              injection e' with e'
              injection e' with e1 e2
              subst e1 e2
              rw [HTK.out] at c3
              have hff : ((f : Int) != (f : Int)) = false := by simp
              by_cases hf0 : f = 0
              · have HQ := Lib.hid (QP.out f hf heq.out (.inl hf0))
                have f1 : decide (0 < f) = false := decide_eq_false (by omega)
                have f2 : decide ((f : Int) > 0) = false := decide_eq_false (by omega)
                have f3 : ¬ (0 : Int) < (f : Int) := by omega
                clear QP heq t1 c1 HK
                go_wp2_with fail
                go_quiet (fail)
                have t4 : Below W7.heap.size W7 (wr.drewN nq) := t2.trans (Drew.below ⟨nq, rfl⟩ _)
                have c5 : (wr.drewN nq).cell? ⟨g, off + k, none⟩ = some (.string X) := c3
                generalize wr.drewN nq = W9 at *
                clear c3 t2
                go_wp2_with fail
                refine (HQ.out _ t4).mono ?_
                rintro e w8 ⟨rfl, hb8⟩
                have t5 := t4.trans (hb8.mono t4.size)
                go_wp2_with fail
                go_roundw
                case rel => exact ⟨k + 1, by omega, by go_num, t5⟩
                case measure => simp [intOf]; omega
              · obtain ⟨f', hf'⟩ : ∃ f', f = f' + 1 := ⟨f - 1, by omega⟩
                have hfT : f' < T.length := by omega
                obtain ⟨g', off', e', c2⟩ := (CT.out.below t2).str f' hfT
                injection e' with e'
                injection e' with e1 e2
                subst e1 e2
                have f1 : decide (0 < f) = true := decide_eq_true (by omega)
                have f2 : decide ((f : Int) > 0) = true := decide_eq_true (by omega)
                have f3 : (0 : Int) < (f : Int) := by omega
                have f4 : IntKind.i64.wrap ((f : Int) - 1) = (f' : Int) := by rw [show (f : Int) - 1 = (f' : Int) from by omega]; exact IntWalk.i64_in _ (by omega)
                have f5 : (0 : Int) ≤ (f' : Int) := by omega
                have f6 : (f' : Int) < (sa.length : Int) := by omega
                by_cases hXY : T[f'] = X
                · have hq2 : Hid (∀ j (hj : j < T.length), f' ≤ j → j ≤ k → T[j] = X) := Lib.hid fun j hj h1 h2 => by
                    by_cases e : j = f'
                    · subst e; exact hXY
                    · exact heq.out j hj (by omega) h2
                  rw [hXY] at c2
                  have hs : (X.toList == X.toList) = true := by simp
                  clear QP heq t1 c1 HK hXY
                  go_wp2_with fail
                  go_quiet (fail)
                  have t4 : Below W7.heap.size W7 (wr.drewN nq) := t2.trans (Drew.below ⟨nq, rfl⟩ _)
                  generalize wr.drewN nq = W9 at *
                  clear c3 c2 t2
                  go_wp2_with fail
                  go_roundw
                  case rel => exact ⟨f', by omega, by go_num, hq2, t4⟩
                  case measure => simp [intOf]; omega
                · have HQ := Lib.hid (QP.out f hf heq.out (.inr ⟨by omega, by
                    have e : f - 1 = f' := by omega
                    simp only [e]
                    exact hXY⟩))
                  have hs : (T[f'].toList == X.toList) = false := by
                    rw [beq_eq_false_iff_ne, ne_eq]
                    exact fun e => hXY (bytes_inj e)
                  generalize T[f'] = Y at *
                  clear QP heq t1 c1 HK hXY
                  go_wp2_with fail
                  go_quiet (fail)
                  have t4 : Below W7.heap.size W7 (wr.drewN nq) := t2.trans (Drew.below ⟨nq, rfl⟩ _)
                  have c5 : (wr.drewN nq).cell? ⟨g, off + k, none⟩ = some (.string X) := c3
                  generalize wr.drewN nq = W9 at *
                  clear c3 t2
                  go_wp2_with fail
                  refine (HQ.out _ t4).mono ?_
                  rintro e w8 ⟨rfl, hb8⟩
                  have t5 := t4.trans (hb8.mono t4.size)
                  go_wp2_with fail
                  go_roundw
                  case rel => exact ⟨k + 1, by omega, by go_num, t5⟩
                  case measure => simp [intOf]; omega
        · have hkx : ¬ ((k : Int) < (sa.length : Int)) := by omega
          have hTl6 : T.length ≤ 6 := by rw [HTL.out]; exact hl6
          have hle := list_ok hTl6 (made_all HTM.out)
          have qw := Wrong_ok SA sa.length scap T wr HTL.out.symm hle (CT.out.below t0)
          unfold WrongAns at qw
          have hwl : wrongL T = [] := by
            unfold wrongL
            rw [if_pos hle, wrong_none (asc_ord HTA.out)]
          rw [hle, hwl] at qw
          have QW := Lib.hid qw
          clear qw hle hwl hTl6
          go_wp2_with fail
          refine QW.out.mono ?_
          rintro e w8 ⟨v, rfl, hov, _, hb8⟩
          obtain ⟨AV, cv, rfl⟩ := own_form hov
          have t4 := t0.trans (hb8.mono t0.size)
          have b8 := b7.trans (t4.mono b7.size)
          clear hov QW
          go_wp2_with fail
          refine (spelling_at _ b8).mono ?_
          rintro e wz ⟨rfl, hbz⟩
          go_wp2_with fail
          go_ret
          exact ⟨rfl, hbz⟩
end Go.Proofs.YtljlkhaolfihjaaGreatDoor
