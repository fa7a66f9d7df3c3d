/- An abbreviation stands for all names for which one with a letter more stands: the walk. -/
import Derived.Test.YtapagncaadjiaabGreatDoorLawI0
import Derived.Test.YtapagncaadjiaabGreatDoorPgV
import Derived.Test.YtapagncaadjiaabGreatDoorPzC
import Derived.Test.YtapagncaadjiaabGreatDoorKitH
import Derived.Test.YtapagncaadjiaabGreatDoorSpecW
import Derived.Test.YtapagncaadjiaabGreatDoorDiceD
import Derived.Deep.RegionHeld3
namespace Go.Proofs.YtapagncaadjiaabGreatDoor
open Go.RowKit

theorem key_latin {s : ByteArray} (h : Sp.check s.data.toList = 0) : ∀ c, c ∈ (keyS s).data.toList → Sp.latin c = true := by
  intro c hc
  have h1 : (keyS s).data.toList = s.data.toList.flatMap latP := (latP_flat h).symm
  rw [h1, List.mem_flatMap] at hc
  obtain ⟨x, _, hx⟩ := hc
  have hall : ∀ n : Fin 256, (latP (UInt8.ofNat n.val)).all Sp.latin = true := by decide +kernel
  exact List.all_eq_true.1 (byte_all (p := fun x => (latP x).all Sp.latin = true) hall x) c hx
theorem refKey_call {s : ByteArray} (h : Sp.check s.data.toList = 0) (W : World) : Calls Tryz.prog 18 #[.string s] W fun e w' => e = .returned (.tuple #[.string (keyS s), .int .i64 0]) ∧ Below W.heap.size W w' := by
  refine (Key_any s W).mono ?_
  rintro e w' ⟨rfl, hb⟩
  refine ⟨?_, hb⟩
  rw [h]
  unfold Sp.keyR
  rw [if_pos h]
  rfl
theorem cut_list {A0 : ByteArray} {l : List UInt8} (hA : A0.data.toList = l ++ [46]) {i : Nat} (hi : i < l.length) : (A0.extract 0 i ++ A0.extract (i + 1) A0.size).data.toList = l.eraseIdx i ++ [46] := by
  have hz : A0.size = A0.data.toList.length := by simp
  rw [ByteArray.data_append, Array.toList_append, ByteArray.data_extract, ByteArray.data_extract, Array.toList_extract, Array.toList_extract, List.extract_eq_take_drop, List.extract_eq_take_drop, hz, hA]
  rw [List.eraseIdx_eq_take_drop_succ, List.append_assoc, List.drop_zero, Nat.sub_zero, List.take_append_of_le_length (by omega)]
  congr 1
  rw [List.drop_append_of_le_length (by omega), List.take_of_length_le (by simp; omega)]
theorem stands_call {A : Option Addr} {n c : Nat} {ss : List ByteArray} {a : ByteArray} {W0 : World} (hL : LaidErr W0) (hn : n = ss.length) (h6 : ss.length ≤ 6) (hv : AllOk ss) (hx : Cells W0 A (ss.map Value.string)) (ha : a.size ≤ 2000) (hs : shortErr a.data.toList = 0) (W : World) (hW : Below W0.heap.size W0 W) :
    Calls Tryz.prog 20 #[.string a, .slice A n c] W fun e w' => ∃ o, e = .returned (.tuple #[o, .int .i64 0]) ∧ w'.ownsRow W.heap.size 3 1 o (standsFrom a.data.toList 0 ss).length ((standsFrom a.data.toList 0 ss).map (Value.int .i64)) ∧ Below W.heap.size W w' := by
  have hle : listErr ss = 0 := by
    unfold listErr
    rw [if_neg (by omega)]
    have : ∀ t : List ByteArray, AllOk t → firstErr t = 0 := by
      intro t
      induction t with
      | nil => intro _; rfl
      | cons s t ih =>
        intro h
        unfold firstErr
        rw [if_pos (h s (by simp))]
        exact ih fun x hx => h x (by simp [hx])
    exact this ss hv
  have he : standsErr a.data.toList ss = 0 := by unfold standsErr; rw [if_pos hs, hle]
  have hl : standsL a.data.toList ss = standsFrom a.data.toList 0 ss := by unfold standsL; rw [if_pos he]
  have q := pStands_any a A n c ss W (hL.below hW) ha hn (hx.below hW)
  rw [he, hl] at q
  exact q
theorem short_call {a s : ByteArray} {W0 : World} (hL : LaidErr W0) (ha : a.size ≤ 2000) (hs : shortErr a.data.toList = 0) (hc : Sp.check s.data.toList = 0) (W : World) (hW : Below W0.heap.size W0 W) :
    Calls Tryz.prog 23 #[.string a, .string s] W fun e w' => e = .returned (.tuple #[.bool (shortB a.data.toList s.data.toList), .int .i64 0]) ∧ Below W.heap.size W w' := by
  have e1 : shortPairErr a.data.toList s.data.toList = 0 := by unfold shortPairErr; rw [if_pos hs, hc]
  have q := pShort_any a s W (hL.below hW) ha
  unfold ShortPost at q
  rw [e1] at q
  simpa using q

def ShortOf2 (d : Nat) (v : Value) (key : ByteArray) (w : World) (e : Ending) (w' : World) : Prop :=
  ∃ (l : List UInt8) (A0 : ByteArray), e = .returned (.string A0) ∧ A0.data.toList = l ++ [46] ∧ l.length ≤ key.size ∧ (1 ≤ key.size → 1 ≤ l.length) ∧ (∀ c, c ∈ l → c ∈ key.data.toList) ∧ Dice w' d v ∧ w.grownBy w' (some d)
theorem ShortOf_two (d : Nat) (v : Value) (key : ByteArray) (w : World) (h : Dice w d v) (hk : key.size ≤ 1000) :
    Calls Tryz.prog 19 #[.pointer (some ⟨d, 0, none⟩), .string key] w (ShortOf2 d v key w) := by
  refine (ShortOf_any d v key w h hk).mono ?_
  rintro e w' ⟨l, rfl, h1, h2, h3, h4, h5⟩
  exact ⟨l, ⟨(l ++ [46]).toArray⟩, rfl, rfl, h1, h2, h3, h4, h5⟩

theorem ints_at {w : World} {A : Option Addr} {xs : List Int} (h : Cells w A (xs.map (Value.int .i64))) (k : Nat) (hk : k < xs.length) : ∃ b off : Nat, A = some ⟨b, off, none⟩ ∧ w.cell? ⟨b, off + k, none⟩ = some (.int .i64 xs[k]) := by
  obtain ⟨b, off, e, hc⟩ := h k (by simpa using hk)
  refine ⟨b, off, e, ?_⟩
  rw [hc, List.getD_eq_getElem?_getD, List.getElem?_map, List.getElem?_eq_getElem hk]
  rfl

set_option maxRecDepth 100000 in
set_option maxHeartbeats 6400000 in
theorem NameCut_any (A : Option Addr) (n c : Nat) (w : World) (hL : LaidErr w) (hn : n ≤ 1000000000000000000) (hx : NumsIn w A n) :
    Calls Tryz.prog 5 #[.slice A n c] w (TruePost w) := by
  obtain ⟨si, hi, hz0, hz1, hz2⟩ := info_parts infoStr
  have HX := Lib.hid hx
  have HLE := Lib.hid hL
  clear hx hL
  go_enter Tryz.func5, Tryz.ntmps5
  go_wp2_with fail
  refine (NewDice_any A n c _ hn HX.out).mono ?_
  rintro e w2 ⟨rfl, hd2, b3⟩
  generalize hDD : w.heap.size = D at hd2
  have hD : w.heap.size ≤ D := Nat.le_of_eq hDD
  have hD2 := hd2.lt
  clear hDD
  go_wp2_with fail
  refine (NamesOf_any D _ 5 6 _ hd2 (by decide) (by decide) (by decide) (by decide)).mono ?_
  rintro e w4 ⟨o, sa, rfl, hl4, ho4, hlike4, hd4, hg4⟩
  have b5 := b3.grown hg4 b3.size fun k hk => by cases hk; exact hD
  obtain ⟨O, capo, rfl⟩ := own_form ho4
  have HL4 := Lib.hid hlike4
  clear hlike4
  go_wp2_with fail
  refine (NameOf_any D _ 6 _ hd4 (by decide) (by decide)).mono ?_
  rintro e w5 ⟨s4, rfl, hs5, hs5', hl5, hd5, hg5⟩
  have b6 := b5.grown hg5 b5.size fun k hk => by cases hk; exact hD
  have ho5 := own_kept ho4 hg5 hD2
  have hg25 := grownBy_trans hg4 hg5
  have hws : w2.heap.size ≤ w5.heap.size := hg25.size
  have HS5 : Hid (Like s4 6) := Lib.hid ⟨hs5, hs5', hl5⟩
  have hsa : sa.length ≤ 5 := by omega
  clear hl5 hs5 hs5' hd4 hg5 hg4 b5 ho4 hl4
  go_wp2_with (at_builtin; refine wpList_append_own _ rfl _ _ 27 rfl w2.heap.size 9 si (.string ByteArray.empty) 1 16 Tryz.underlying27 hi hz0 hz1 hz2 rfl (by decide) _ _ _ rfl (ho5.alloc _) ⟨w5.heap.size, 0, none⟩ 1 1 [.string s4] rfl rfl (cell_one_new _ _ _) (by simp [Value.oneCell']) (by unfold maxLen; omega) (by omega) (by simp; omega) ?_; intro v' w6 ho6 hg6 _; obtain ⟨G6, cap6, rfl⟩ := own_head ho6; have c6 := own_last ho6 sa.length (by simp))
  obtain ⟨hd6, hg26⟩ := own_append2 (w := w2) (wl := w5) (ho5.alloc _) hD2 hg25 hd5 ((Below.refl _ _).alloc (Nat.le_refl _) _) hg6
  have b7 := b3.grown hg26 b3.size fun k hk => by cases hk; exact hD
  have e6 : (sa.map Value.string ++ [Value.string s4]) = (sa ++ [s4]).map Value.string := by simp
  rw [e6] at ho6
  have hLn : (sa ++ [s4]).length = sa.length + 1 := by simp
  have HLn := Lib.hid hLn
  have HM : Hid (∀ i (h : i < (sa ++ [s4]).length), Made6 (sa ++ [s4])[i]) := Lib.hid fun i h => by
    have hm : (sa ++ [s4])[i] ∈ sa ++ [s4] := List.getElem_mem h
    rw [List.mem_append, List.mem_singleton] at hm
    have hk : Like (sa ++ [s4])[i] 6 := by
      rcases hm with hm | hm
      · exact HL4.out _ hm
      · rw [hm]; exact HS5.out
    exact ⟨hk.1, by have := hk.2.1; omega, hk.2.2⟩
  have M4 : Hid (Sp.check s4.data.toList = 0) := Lib.hid (made_check ⟨HS5.out.1, by have := HS5.out.2.1; omega, HS5.out.2.2⟩)
  generalize sa ++ [s4] = L at *
  clear ho5 hg25 b6 hd5 hws HL4 HS5 e6 hLn hg6 hd2 b3 hg26
  have hsl : (sa.length : Int) ≤ 1000 := by omega
  have i0 : (0 : Int) ≤ (sa.length : Int) := by omega
  go_wp2_with fail
  refine (refKey_call M4.out _).mono ?_
  rintro e w7 ⟨rfl, hb7⟩
  have ho7 := own_below ho6 hb7
  have hd7 := hd6.under hb7 hd6.lt
  have b8 := b7.trans (hb7.mono b7.size)
  have hks : (keyS s4).size ≤ 12 := (keyS_key12 M4.out).2
  have hks1 : 1 ≤ (keyS s4).size := (keyS_key12 M4.out).1
  have HKL := Lib.hid (key_latin M4.out)
  clear ho6 hd6 b7 hb7 c6
  generalize keyS s4 = KY at *
  go_wp2_with fail
  refine (ShortOf_two D _ KY _ hd7 (by omega)).mono ?_
  rintro e w8 ⟨l, A0, rfl, hAl, l1, l2, l3, hd8, hg8⟩
  have ho8 := own_kept ho7 hg8 hD2
  have b9 := b8.grown hg8 b8.size fun k hk => by cases hk; exact hD
  have l2' : 1 ≤ l.length := l2 hks1
  have l12 : l.length ≤ 12 := by omega
  have HLat : Hid (∀ c, c ∈ l → Sp.latin c = true) := Lib.hid fun c hc => HKL.out c (l3 c hc)
  have hAz : A0.size = l.length + 1 := by
    have h1 : A0.data.toList.length = A0.size := by simp
    rw [← h1, hAl]; simp
  have HAL := Lib.hid hAl
  have HAZ := Lib.hid hAz
  have HAE := Lib.hid (short_of l2' l12 HLat.out)
  clear hAz hAl ho7 hd7 b8 hg8 l2 l3 hd8
  generalize hNN : sa.length + 1 = N at *
  have hN6 : N ≤ 6 := by omega
  have CL8 := Lib.hid (cells_own ho8)
  have LE8 := Lib.hid (HLE.out.below b9)
  have QS := Lib.hid (stands_call (c := cap6) LE8.out HLn.out.symm (by rw [HLn.out]; exact hN6) (made_all HM.out) CL8.out (a := A0) (by rw [HAZ.out]; omega) (by rw [HAL.out]; exact HAE.out) w8 (Below.refl _ _))
  rw [HAL.out] at QS
  clear ho8
  go_wp2_with fail
  refine QS.out.mono ?_
  rintro e w9 ⟨oa, rfl, hoa, hb9⟩
  have hw0 := b9.trans (hb9.mono b9.size)
  obtain ⟨X, hX⟩ : ∃ X, standsFrom (l ++ [46]) 0 L = X := ⟨_, rfl⟩
  rw [hX] at hoa
  obtain ⟨AX, cx, rfl⟩ := own_form hoa
  have CX := Lib.hid (cells_own hoa)
  have CL := Lib.hid (CL8.out.below hb9)
  have LE := Lib.hid (HLE.out.below hw0)
  have hxl : X.length ≤ N := by rw [← hX, ← HLn.out]; exact stands_len _ _ _
  have HXM : Hid (∀ x, x ∈ X ↔ ∃ i, ∃ h : i < L.length, x = (i : Int) ∧ abbrB l (keyS L[i]).data.toList = true) := Lib.hid fun x => by
    rw [← hX, stands_mem]
    constructor
    · rintro ⟨i, h, e, hb⟩
      exact ⟨i, h, by rw [e]; omega, by rw [short_letters] at hb; exact hb⟩
    · rintro ⟨i, h, e, hb⟩
      exact ⟨i, h, by rw [e]; omega, by rw [short_letters]; exact hb⟩
  clear hX hoa QS b9 hb9 CL8 LE8
  generalize hWW : w9 = W0 at *
  clear hWW
  have hxl' : (X.length : Int) ≤ (N : Int) := by omega
  have hxb : decide (N < X.length) = false := decide_eq_false (by omega)
  have hw0s := hw0.size
  go_wp2_with fail
  go_loopw [10, 11, 12] (fun i _ _ wr => ∃ k : Nat, k ≤ X.length ∧ i = .int .i64 k ∧ Below W0.heap.size W0 wr) (fun i _ _ _ => X.length - (intOf i).toNat)
  case atStart => exact ⟨0, Nat.zero_le _, rfl, Below.refl _ _⟩
  case round =>
    obtain ⟨k, hk, rfl, t0⟩ := hrel
    by_cases hkl : k < X.length
    · obtain ⟨q, hq, eq, hab⟩ := (HXM.out X[k]).1 (List.getElem_mem hkl)
      obtain ⟨bx, ox, rfl, cxk⟩ := ints_at (CX.out.below t0) k hkl
      rw [eq] at cxk
      obtain ⟨q1, q2, hv, lq⟩ := (CL.out.below t0).str q hq
      injection hv with hv
      injection hv with hv1 hv2
      subst hv1 hv2
      rw [Nat.zero_add] at lq
      have QK := Lib.hid (key_call L[q] (made_check (HM.out q hq)))
      have hq' : q < N := by rw [← HLn.out]; exact hq
      have hsz : ¬ (((keyS L[q]).size : Int) < (A0.size : Int)) := by
        unfold abbrB at hab
        simp only [Bool.and_eq_true, decide_eq_true_eq] at hab
        have h1 : (keyS L[q]).data.toList.length = (keyS L[q]).size := by simp
        have hAz := HAZ.out
        have h2 := hab.1
        omega
      clear eq hab
      generalize L[q] = Y at *
      generalize keyS Y = KK at *
      have i1 : (0 : Int) ≤ (k : Int) := by omega
      have i2 : (k : Int) < (X.length : Int) := by omega
      have i3 : (0 : Int) ≤ (q : Int) := by omega
      have i4 : (q : Int) < (N : Int) := by omega
      go_wp2_with fail
      refine (QK.out _).mono ?_
      rintro e w1 ⟨rfl, hb1⟩
      have t1 := t0.trans (hb1.mono t0.size)
      go_wp2_with fail
      go_roundw
      case rel => exact ⟨k + 1, by omega, by go_num, t1⟩
      case measure => simp [intOf]; omega
    · go_wp2_with fail
      obtain ⟨VR, hVR⟩ : ∃ V, V = wr := ⟨_, rfl⟩
      go_loopw [13, 14, 15, 16] (fun i _ _ _ wi => ∃ k : Nat, 1 ≤ k ∧ k ≤ l.length ∧ i = .int .i64 k ∧ Below W0.heap.size W0 wi) (fun i _ _ _ _ => l.length - (intOf i).toNat)
      case atStart => exact ⟨1, Nat.le_refl _, l2', rfl, t0⟩
      case round =>
        obtain ⟨i, i1, il, rfl, t1⟩ := hrel
        clear t0
        by_cases hil : i < l.length
        · have hAz := HAZ.out
          have hcl := cut_list HAL.out hil
          have hez : (l.eraseIdx i).length = l.length - 1 := List.length_eraseIdx_of_lt hil
          have hai : (A0.extract 0 i ++ A0.extract (i + 1) A0.size).size ≤ 2000 := by
            have h1 : (A0.extract 0 i ++ A0.extract (i + 1) A0.size).data.toList.length = (A0.extract 0 i ++ A0.extract (i + 1) A0.size).size := by simp
            rw [← h1, hcl, List.length_append, hez]
            simp
            omega
          have hse := short_of (l := l.eraseIdx i) (by omega) (by omega) (fun c hc => HLat.out c (List.mem_of_mem_eraseIdx hc))
          have qs := fun W (hW : Below W0.heap.size W0 W) => stands_call (c := cap6) LE.out HLn.out.symm (by rw [HLn.out]; exact hN6) (made_all HM.out) CL.out (a := A0.extract 0 i ++ A0.extract (i + 1) A0.size) hai (by rw [hcl]; exact hse) W hW
          rw [hcl] at qs
          obtain ⟨Y, hY⟩ : ∃ Y, standsFrom (l.eraseIdx i ++ [46]) 0 L = Y := ⟨_, rfl⟩
          rw [hY] at qs
          have hyl : Y.length ≤ N := by rw [← hY, ← HLn.out]; exact stands_len _ _ _
          have HYM : Hid (∀ x, x ∈ X → x ∈ Y) := Lib.hid fun x hx => by
            obtain ⟨q, hq, e, hab⟩ := (HXM.out x).1 hx
            rw [← hY, stands_mem]
            exact ⟨q, hq, by rw [e]; omega, by rw [short_letters]; exact abbr_erase i1 hil hab⟩
          have QQ : Hid (∀ W, Below W0.heap.size W0 W → Calls Tryz.prog 20 #[.string (A0.extract 0 i ++ A0.extract (i + 1) A0.size), .slice (some ⟨G6, 0, none⟩) N cap6] W fun e w' => ∃ o, e = .returned (.tuple #[o, .int .i64 0]) ∧ w'.ownsRow 0 3 1 o Y.length (Y.map (Value.int .i64)) ∧ Below W0.heap.size W0 w') := Lib.hid fun W h =>
            (qs W h).mono fun e w' ⟨o, he, ho, hb⟩ => ⟨o, he, ho.mono (Nat.zero_le _), h.trans (hb.mono h.size)⟩
          have d3 : Below W0.heap.size W0 wr.drew := t1.drew
          have hs1 : (A0.extract 0 i).size ≤ 20 := by rw [ByteArray.size_extract]; omega
          have hs2 : (A0.extract (i + 1) A0.size).size ≤ 20 := by rw [ByteArray.size_extract]; omega
          have i7 : ¬ (9223372036854775807 < (A0.extract 0 i).size + (A0.extract (i + 1) A0.size).size) := by omega
          have i8 : (A0.extract 0 i).size + (A0.extract (i + 1) A0.size).size ≤ 9223372036854775807 := by omega
          have i9 : ¬ (9223372036854775807 < min i A0.size + (A0.size - (i + 1))) := by omega
          have i10 : min i A0.size + (A0.size - (i + 1)) ≤ 9223372036854775807 := by omega
          have j0 : IntKind.i64.wrap ((i : Int) + 1) = (i : Int) + 1 := IntWalk.i64_in _ (by omega)
          have j1 : (0 : Int) ≤ (i : Int) := by omega
          have j2 : (i : Int) ≤ (A0.size : Int) := by omega
          have j3 : (i : Int) + 1 ≤ (A0.size : Int) := by omega
          have j4 : (i : Int) < (A0.size : Int) - 1 := by omega
          have j5 : (0 : Int) ≤ (i : Int) + 1 := by omega
          have j6 : ((i : Int) + 1).toNat = i + 1 := by omega
          clear hcl hai hse qs hY hez hs1 hs2 hAz
          go_wp2_with fail
          go_region_held3 (fun w' => Below W0.heap.size W0 w')
            ((first | assumption | (go_split_ands; assumption)))
            (first
              | (go_at_call 20; refine (QQ.out _ (by first | assumption | (go_split_ands; assumption))).mono ?_; rintro e w5 ⟨o5, rfl, ho5, t2⟩; obtain ⟨A5, c5, rfl⟩ := own_form ho5))
          have C5 := Lib.hid (cells_own ho5)
          clear QQ ho5 d3
          go_wp2_with fail
          go_loopw [16] (fun jv wi => ∃ j : Nat, j ≤ X.length ∧ jv = .int .i64 j ∧ Below w5.heap.size w5 wi) (fun jv _ => X.length - (intOf jv).toNat)
          case atStart => exact ⟨0, Nat.zero_le _, rfl, Below.refl _ _⟩
          case round =>
            obtain ⟨j, hj, rfl, t3⟩ := hrel
            by_cases hjl : j < X.length
            · have hmem : X[j] ∈ X := List.getElem_mem hjl
              have hmy := HYM.out _ hmem
              obtain ⟨q, hq, eq, _⟩ := (HXM.out X[j]).1 hmem
              obtain ⟨bx, ox, rfl, cxk⟩ := ints_at ((CX.out.below t2).below t3) j hjl
              rw [eq] at cxk hmy
              have QI := Lib.hid (Index_any A5 Y.length c5 Y (q : Int) wr rfl (by omega) (C5.out.below t3))
              have k1 : (0 : Int) ≤ (j : Int) := by omega
              have k2 : (j : Int) < (X.length : Int) := by omega
              clear eq hmem
              go_wp2_with fail
              refine QI.out.mono ?_
              rintro e w' ⟨v, rfl, hv, rfl⟩
              have hv0 : (0 : Int) ≤ v := by
                rcases hv with ⟨h, _⟩ | ⟨_, h⟩
                · exact h
                · exact absurd hmy h
              clear hv hmy QI
              go_wp2_with fail
              go_roundw
              case rel => exact ⟨j + 1, by omega, by go_num, t3⟩
              case measure => simp [intOf]; omega
            · have t4 := t2.trans (t3.mono t2.size)
              go_wp2_with fail
              go_roundw
              case rel => exact ⟨i + 1, by omega, by omega, by go_num, t4⟩
              case measure => simp [intOf]; omega
        · have j4 : ¬ ((i : Int) < (A0.size : Int) - 1) := by have := HAZ.out; omega
          go_wp2_with fail
          go_loopw [17, 18, 19] (fun iv _ _ wi => ∃ k : Nat, k ≤ N ∧ iv = .int .i64 k ∧ Below W0.heap.size W0 wi) (fun iv _ _ _ => N - (intOf iv).toNat)
          case atStart => exact ⟨0, Nat.zero_le _, rfl, t1⟩
          case round =>
            obtain ⟨q, hq, rfl, t3⟩ := hrel
            clear t1
            by_cases hql : q < N
            · have hqL : q < L.length := by rw [HLn.out]; exact hql
              obtain ⟨q1, q2, hv, lq⟩ := (CL.out.below t3).str q hqL
              injection hv with hv
              injection hv with hv1 hv2
              subst hv1 hv2
              rw [Nat.zero_add] at lq
              have hmem := HXM.out (q : Int)
              have qsh := short_call LE.out (a := A0) (by rw [HAZ.out]; omega) (by rw [HAL.out]; exact HAE.out) (made_check (HM.out q hqL)) wr t3
              rw [HAL.out, short_letters] at qsh
              have hiff : abbrB l (keyS L[q]).data.toList = true ↔ (q : Int) ∈ X := by
                rw [hmem]
                constructor
                · exact fun h => ⟨q, hqL, rfl, h⟩
                · rintro ⟨i', h', e', hb'⟩
                  obtain rfl : i' = q := by omega
                  exact hb'
              have QSH := Lib.hid (show Calls Tryz.prog 23 #[.string A0, .string L[q]] wr fun e w' => e = .returned (.tuple #[.bool (abbrB l (keyS L[q]).data.toList), .int .i64 0]) ∧ Below wr.heap.size wr w' from qsh)
              clear qsh hmem
              generalize abbrB l (keyS L[q]).data.toList = bv at *
              generalize L[q] = Y at *
              have k1 : (0 : Int) ≤ (q : Int) := by omega
              have k2 : (q : Int) < (N : Int) := by omega
              have HIFF := Lib.hid hiff
              clear hiff
              go_wp2_with fail
              refine QSH.out.mono ?_
              rintro e w1 ⟨rfl, hb1⟩
              have t4 := t3.trans (hb1.mono t3.size)
              have QI := Lib.hid (Index_any AX X.length cx X (q : Int) w1 rfl (by omega) (CX.out.below t4))
              go_wp2_with fail
              refine QI.out.mono ?_
              rintro e w' ⟨v, rfl, hv, rfl⟩
              have hvb : (bv = true ∧ decide (v ≥ 0) = true) ∨ (bv = false ∧ decide (v ≥ 0) = false) := by
                rcases hv with ⟨h, hm⟩ | ⟨h, hm⟩
                · exact .inl ⟨HIFF.out.2 hm, decide_eq_true h⟩
                · refine .inr ⟨?_, decide_eq_false (by omega)⟩
                  cases hbv : bv with
                  | false => rfl
                  | true => exact absurd (HIFF.out.1 hbv) hm
              clear hv QI HIFF QSH
              rcases hvb with ⟨rfl, m1⟩ | ⟨rfl, m1⟩
              all_goals
                go_wp2_with fail
                go_roundw
                case rel => exact ⟨q + 1, by omega, by go_num, t4⟩
                case measure => simp [intOf]; omega
            · go_wp2_with fail
              refine (spelling_at _ (hw0.trans (t3.mono hw0.size))).mono ?_
              rintro e wz ⟨rfl, hbz⟩
              go_wp2
              go_ret
              exact ⟨rfl, hbz⟩
end Go.Proofs.YtapagncaadjiaabGreatDoor
