/- One name of the other alphabet for each key: the walk. -/
import Derived.Test.YtapagncaadjiaaaGreatDoorLawB0
import Derived.Test.YtapagncaadjiaaaGreatDoorKitB
import Derived.Test.YtapagncaadjiaaaGreatDoorKitD
import Derived.Test.YtapagncaadjiaaaGreatDoorPgD
import Derived.Test.YtapagncaadjiaaaGreatDoorSpecO
namespace Go.Proofs.YtapagncaadjiaaaGreatDoor
open Go.RowKit

/-- A name that dice made. -/
def Made6 (s : ByteArray) : Prop := 1 ≤ s.size ∧ s.size ≤ 6 ∧ Letters s.data.toList
theorem key_call (s : ByteArray) (h : Sp.check s.data.toList = 0) (W : World) : Calls Tryz.prog 19 #[.string s] W fun e w' => e = .returned (.tuple #[.string (keyS s), .int .i64 0]) ∧ Below W.heap.size W w' := Key_ok s W h
theorem other_call (s : ByteArray) (p : ByteArray × Int) (hc : Sp.check s.data.toList = 0) (h : otherP s = p) (W : World) : Calls Tryz.prog 21 #[.string s] W fun e w' => e = .returned (.tuple #[.string p.1, .int .i64 p.2]) ∧ Below W.heap.size W w' := by
  have q := Other_ok s W hc
  unfold OtherOk at q
  rw [h] at q
  exact q
theorem latin_call (s : ByteArray) (v : Bool) (h : 0 < s.size) (hv : lat s.data.toList = v) (W : World) : Calls Tryz.prog 60 #[.string s] W fun e w' => e = .returned (.bool v) ∧ W = w' := by
  have q := Latin_any s W h
  rw [show s.data.toList.head?.any Sp.latin = v from hv] at q
  exact q
theorem keyS_eq {a b : ByteArray} (h : Sp.key a.data.toList = Sp.key b.data.toList) : keyS a = keyS b := by unfold keyS; rw [h]

set_option maxRecDepth 100000 in
set_option maxHeartbeats 3200000 in
theorem NameOne_any (A : Option Addr) (n c : Nat) (w : World) (hn : n ≤ 1000000000000000000) (hx : NumsIn w A n) :
    Calls Tryz.prog 9 #[.slice A n c] w (TruePost w) := by
  obtain ⟨si, hi, hz0, hz1, hz2⟩ := info_parts infoStr
  have HX := Lib.hid hx
  clear hx
  go_enter Tryz.func9, Tryz.ntmps9
  go_wp2_with fail
  refine (NewDice_any A n c _ hn HX.out).mono ?_
  rintro e w2 ⟨rfl, hd2, b3⟩
  have hD : w.heap.size ≤ w.heap.size := Nat.le_refl _
  generalize hDD : w.heap.size = D at hd2
  have hD : w.heap.size ≤ D := Nat.le_of_eq hDD
  clear hDD
  go_wp2_with fail
  refine (NameOf_any D _ 4 _ hd2 (by decide) (by decide)).mono ?_
  rintro e w3 ⟨s1, rfl, hs1, hs1', hl1, hd3, hg3⟩
  have b4 := b3.grown hg3 b3.size fun k hk => by cases hk; exact hD
  clear hd2 hg3 b3
  go_wp2_with fail
  refine (NameOf_any D _ 4 _ hd3 (by decide) (by decide)).mono ?_
  rintro e w4 ⟨s2, rfl, hs2, hs2', hl2, hd4, hg4⟩
  have b5 := b4.grown hg4 b4.size fun k hk => by cases hk; exact hD
  clear hd3 hg4 b4
  go_wp2_with fail
  refine (NameOf_any D _ 6 _ hd4 (by decide) (by decide)).mono ?_
  rintro e w5 ⟨s3, rfl, hs3, hs3', hl3, hd5, hg5⟩
  have b6 := b5.grown hg5 b5.size fun k hk => by cases hk; exact hD
  clear hd4 hg5 b5 hd5
  have c6 : Cells (w5.alloc (.cells #[.string s1, .string s2, .string s3] 9)) (some ⟨w5.heap.size, 0, none⟩) (([s1, s2, s3] : List ByteArray).map Value.string) :=
    cells_lit w5 _ 9 3 rfl (by unfold maxLen; omega)
  have b7 := b6.alloc (o := .cells #[.string s1, .string s2, .string s3] 9) b6.size
  have hLn : ([s1, s2, s3] : List ByteArray).length = 3 := rfl
  have hok : ∀ i (h : i < ([s1, s2, s3] : List ByteArray).length), Made6 ([s1, s2, s3] : List ByteArray)[i] := by
    intro i h
    match i, h with
    | 0, _ => exact ⟨hs1, by show s1.size ≤ 6; omega, hl1⟩
    | 1, _ => exact ⟨hs2, by show s2.size ≤ 6; omega, hl2⟩
    | 2, _ => exact ⟨hs3, by show s3.size ≤ 6; omega, hl3⟩
  clear hl1 hl2 hl3 hs1 hs1' hs2 hs2' hs3 hs3'
  generalize hLs : ([s1, s2, s3] : List ByteArray) = L at *
  have C6 := Lib.hid c6
  have HL := Lib.hid hLn
  have OK := Lib.hid hok
  clear b6 hLs c6 hLn hok
  go_wp2_with fail
  generalize hLB : w5.heap.size = LB at *
  generalize w5.alloc (.cells #[.string s1, .string s2, .string s3] 9) = W0 at *
  clear hLB
  have hw0 := b7.size
  go_loopw [5, 6, 7, 8, 9, 10, 11, 12, 13, 14] (fun ks i _ _ _ _ _ _ _ _ wr => ∃ k : Nat, k ≤ 3 ∧ i = .int .i64 k ∧ Below W0.heap.size W0 wr ∧ wr.ownsRow W0.heap.size 9 1 ks k (((L.take k).map keyS).map Value.string)) (fun _ i _ _ _ _ _ _ _ _ _ => 3 - (intOf i).toNat)
  case atStart => exact ⟨0, Nat.zero_le _, rfl, Below.refl _ _, World.ownsRow_nil _ _ _ _⟩
  case round =>
    obtain ⟨k, hk, rfl, t0, hown⟩ := hrel
    obtain ⟨KA, kcap, rfl⟩ := own_form hown
    by_cases hlt : k < 3
    · have hkl : k < L.length := by rw [HL.out]; exact hlt
      obtain ⟨bb, oo, hv, c0⟩ := (C6.out.below t0).str k hkl
      injection hv with hv
      injection hv with hv1 hv2
      subst hv1 hv2
      rw [Nat.zero_add] at c0
      obtain ⟨x1, x6, xl⟩ := OK.out k hkl
      have etake : ((L.take (k + 1)).map keyS).map Value.string = ((L.take k).map keyS).map Value.string ++ [Value.string (keyS L[k])] := by
        rw [List.take_succ_eq_append_getElem hkl, List.map_append, List.map_append]; rfl
      generalize L[k] = X at *
      obtain ⟨hck, hother⟩ := other_facts X x1 x6 xl
      have QK := Lib.hid (key_call X hck)
      have j5 : (0 : Int) ≤ (k : Int) := by omega
      have j6 : (k : Int) < 3 := by omega
      have ET := Lib.hid etake
      clear etake
      rcases hother with ⟨ho, hlat⟩ | ⟨o, ho, o1, o6, hoc, hok, hoo, hol, hor⟩
      · have QO := Lib.hid (other_call X _ hck ho)
        have QL := Lib.hid (latin_call X true (by omega) hlat)
        clear ho hlat hck
        generalize keyS X = KX at *
        go_wp2_with fail
        refine (QK.out _).mono ?_
        rintro e v1 ⟨rfl, h1⟩
        have c1 := (h1.cell (World.block_lt_of_cell? _ _ c0)).trans c0
        have t1 := t0.trans (h1.mono t0.size)
        have o1 := own_below hown h1
        clear c0 h1 t0 hown
        go_wp2_with fail
        refine (QO.out _).mono ?_
        rintro e v2 ⟨rfl, h2⟩
        have c2 := (h2.cell (World.block_lt_of_cell? _ _ c1)).trans c1
        have t2 := t1.trans (h2.mono t1.size)
        have o2 := own_below o1 h2
        clear c1 h2 t1 o1
        have hws2 := t2.size
        go_wp2_with fail
        refine (QL.out _).mono ?_
        rintro e v3 ⟨rfl, rfl⟩
        go_wp2_with (at_builtin; refine wpList_append_own _ rfl _ _ 28 rfl W0.heap.size 9 si (.string ByteArray.empty) 1 16 Tryz.underlying28 hi hz0 hz1 hz2 rfl (by decide) _ _ _ rfl (o2.alloc _) ⟨v2.heap.size, 0, none⟩ 1 1 [.string KX] rfl rfl (cell_one_new _ _ _) (by simp [Value.oneCell']) (by unfold maxLen; omega) (by omega) (by simp; omega) ?_; intro v' wn hownN hgN _; obtain ⟨A9, c9, rfl⟩ := own_form hownN)
        have hbN := below_append (o2.alloc _) t2 ((Below.refl _ _).alloc (Nat.le_refl _) _) hgN
        rw [← ET.out] at hownN
        go_wp2
        go_roundw
        case rel => exact ⟨k + 1, by omega, by go_num, hbN, hownN⟩
        case measure => simp [intOf]; omega
      · have QO := Lib.hid (other_call X _ hck ho)
        have QKo : Hid (∀ W : World, _) := key_call o hoc
        have QOo := Lib.hid (other_call o _ hoc hoo)
        have QLo := Lib.hid (latin_call o false (by omega) hol)
        have eK : keyS o = keyS X := keyS_eq hok
        rw [eK] at QKo
        have n0 : ((o.size : Int) == 0) = false := by rw [beq_eq_false_iff_ne]; omega
        have n1 : (o.toList == []) = false := by
          rw [beq_eq_false_iff_ne, ByteArray.toList_eq]
          intro h
          have := size_list o
          rw [h] at this
          simp at this
          omega
        clear eK hok hoc hoo hol
        cases hX : lat X.data.toList with
        | true =>
          have QL := Lib.hid (latin_call X true (by omega) hX)
          clear hX hor ho hck
          generalize keyS X = KX at *
          go_wp2_with fail
          refine (QK.out _).mono ?_
          rintro e v1 ⟨rfl, h1⟩
          have c1 := (h1.cell (World.block_lt_of_cell? _ _ c0)).trans c0
          have t1 := t0.trans (h1.mono t0.size)
          have o1' := own_below hown h1
          clear c0 h1 t0 hown
          go_wp2_with fail
          refine (QO.out _).mono ?_
          rintro e v2 ⟨rfl, h2⟩
          have c2 := (h2.cell (World.block_lt_of_cell? _ _ c1)).trans c1
          have t2 := t1.trans (h2.mono t1.size)
          have o2 := own_below o1' h2
          clear c1 h2 t1 o1'
          have hws2 := t2.size
          go_wp2_with fail
          refine (QL.out _).mono ?_
          rintro e v3 ⟨rfl, rfl⟩
          go_wp2_with (at_builtin; refine wpList_append_own _ rfl _ _ 28 rfl W0.heap.size 9 si (.string ByteArray.empty) 1 16 Tryz.underlying28 hi hz0 hz1 hz2 rfl (by decide) _ _ _ rfl (o2.alloc _) ⟨v2.heap.size, 0, none⟩ 1 1 [.string KX] rfl rfl (cell_one_new _ _ _) (by simp [Value.oneCell']) (by unfold maxLen; omega) (by omega) (by simp; omega) ?_; intro v' wn hownN hgN _; obtain ⟨A9, c9, rfl⟩ := own_form hownN)
          have hbN := below_append (o2.alloc _) t2 ((Below.refl _ _).alloc (Nat.le_refl _) _) hgN
          rw [← ET.out] at hownN
          go_wp2_with fail
          refine (QKo.out _).mono ?_
          rintro e v4 ⟨rfl, h4⟩
          have t4 := hbN.trans (h4.mono hbN.size)
          have o4 := own_below hownN h4
          clear h4 hbN hownN hgN
          go_wp2_with fail
          refine (QOo.out _).mono ?_
          rintro e v5 ⟨rfl, h5⟩
          have t5 := t4.trans (h5.mono t4.size)
          have o5 := own_below o4 h5
          clear h5 t4 o4
          go_wp2_with fail
          refine (QLo.out _).mono ?_
          rintro e v6 ⟨rfl, rfl⟩
          go_wp2
          go_roundw
          case rel => exact ⟨k + 1, by omega, by go_num, t5, o5⟩
          case measure => simp [intOf]; omega
        | false =>
          have QL := Lib.hid (latin_call X false (by omega) hX)
          obtain rfl : o = X := by rcases hor with h | h; · rw [hX] at h; cases h
                                   · exact h
          clear hX hor ho hck
          generalize keyS o = KX at *
          go_wp2_with fail
          refine (QK.out _).mono ?_
          rintro e v1 ⟨rfl, h1⟩
          have c1 := (h1.cell (World.block_lt_of_cell? _ _ c0)).trans c0
          have t1 := t0.trans (h1.mono t0.size)
          have o1' := own_below hown h1
          clear c0 h1 t0 hown
          go_wp2_with fail
          refine (QO.out _).mono ?_
          rintro e v2 ⟨rfl, h2⟩
          have c2 := (h2.cell (World.block_lt_of_cell? _ _ c1)).trans c1
          have t2 := t1.trans (h2.mono t1.size)
          have o2 := own_below o1' h2
          clear c1 h2 t1 o1'
          have hws2 := t2.size
          go_wp2_with fail
          refine (QL.out _).mono ?_
          rintro e v3 ⟨rfl, rfl⟩
          go_wp2_with (at_builtin; refine wpList_append_own _ rfl _ _ 28 rfl W0.heap.size 9 si (.string ByteArray.empty) 1 16 Tryz.underlying28 hi hz0 hz1 hz2 rfl (by decide) _ _ _ rfl (o2.alloc _) ⟨v2.heap.size, 0, none⟩ 1 1 [.string KX] rfl rfl (cell_one_new _ _ _) (by simp [Value.oneCell']) (by unfold maxLen; omega) (by omega) (by simp; omega) ?_; intro v' wn hownN hgN _; obtain ⟨A9, c9, rfl⟩ := own_form hownN)
          have hbN := below_append (o2.alloc _) t2 ((Below.refl _ _).alloc (Nat.le_refl _) _) hgN
          rw [← ET.out] at hownN
          go_wp2_with fail
          refine (QKo.out _).mono ?_
          rintro e v4 ⟨rfl, h4⟩
          have t4 := hbN.trans (h4.mono hbN.size)
          have o4 := own_below hownN h4
          clear h4 hbN hownN hgN
          go_wp2_with fail
          refine (QOo.out _).mono ?_
          rintro e v5 ⟨rfl, h5⟩
          have t5 := t4.trans (h5.mono t4.size)
          have o5 := own_below o4 h5
          clear h5 t4 o4
          go_wp2_with fail
          refine (QLo.out _).mono ?_
          rintro e v6 ⟨rfl, rfl⟩
          go_wp2
          go_roundw
          case rel => exact ⟨k + 1, by omega, by go_num, t5, o5⟩
          case measure => simp [intOf]; omega
    · have K3 := Lib.hid (cells_own hown)
      have L3 := Lib.hid (C6.out.below t0)
      have bz := b7.trans (t0.mono hw0)
      clear hown t0 C6
      rw [List.take_of_length_le (by rw [HL.out]; omega)] at K3
      go_wp2_with fail
      obtain ⟨VR, rfl⟩ : ∃ V, V = wr := ⟨_, rfl⟩
      go_loopw [15, 16] (fun i _ wi => ∃ a : Nat, a ≤ 3 ∧ i = .int .i64 a ∧ Below VR.heap.size VR wi) (fun i _ _ => 3 - (intOf i).toNat)
      case atStart => exact ⟨0, Nat.zero_le _, rfl, Below.refl _ _⟩
      case round =>
        obtain ⟨a, ha, rfl, t0⟩ := hrel
        by_cases hal : a < 3
        · have jd : decide ((a : Int) < 3) = true := decide_eq_true (by omega)
          go_wp2_with fail
          obtain ⟨VI, rfl⟩ : ∃ V, V = wr := ⟨_, rfl⟩
          go_loopw [16] (fun j wi => ∃ b : Nat, b ≤ a ∧ j = .int .i64 b ∧ Below VR.heap.size VR wi) (fun j _ => a - (intOf j).toNat)
          case atStart => exact ⟨0, Nat.zero_le _, rfl, t0⟩
          case round =>
            obtain ⟨b, hb, rfl, t1⟩ := hrel
            clear t0
            by_cases hbl : b < a
            · have la : a < L.length := by rw [HL.out]; exact hal
              have lb : b < L.length := by rw [HL.out]; omega
              obtain ⟨q1, q2, hv, li⟩ := (L3.out.below t1).str a la
              injection hv with hv
              injection hv with hv1 hv2
              subst hv1 hv2
              obtain ⟨q1, q2, hv, lj⟩ := (L3.out.below t1).str b lb
              injection hv with hv
              injection hv with hv1 hv2
              subst hv1 hv2
              rw [Nat.zero_add] at li lj
              obtain ⟨kb, ko, rfl, ki⟩ := (K3.out.below t1).str a (by simpa using la)
              obtain ⟨q1, q2, hv, kj⟩ := (K3.out.below t1).str b (by simpa using lb)
              injection hv with hv
              injection hv with hv1 hv2
              subst hv1 hv2
              rw [List.getElem_map] at ki kj
              obtain ⟨xi1, xi6, xil⟩ := OK.out a la
              obtain ⟨xj1, xj6, xjl⟩ := OK.out b lb
              generalize L[a] = XI at *
              generalize L[b] = XJ at *
              have hinj := key_inj (a := XI) (b := XJ) xil xjl xi1 xj1
              have hkk : keyS XI = keyS XJ → Sp.key XI.data.toList = Sp.key XJ.data.toList := fun h => by
                have h1 := congrArg (fun z : ByteArray => z.data.toList) h
                exact h1
              have QI := Lib.hid (latin_call XI _ (by omega) rfl)
              have QJ := Lib.hid (latin_call XJ _ (by omega) rfl)
              have j1 : (0 : Int) ≤ (a : Int) := by omega
              have j2 : (a : Int) < 3 := by omega
              have j3 : (0 : Int) ≤ (b : Int) := by omega
              have j4 : (b : Int) < 3 := by omega
              have jd2 : decide ((b : Int) < (a : Int)) = true := decide_eq_true (by omega)
              have hcase : ((keyS XI).toList == (keyS XJ).toList) = false ∨ ((keyS XI).toList == (keyS XJ).toList) = true ∧ (lat XI.data.toList == lat XJ.data.toList) = false ∨ ((keyS XI).toList == (keyS XJ).toList) = true ∧ (lat XI.data.toList == lat XJ.data.toList) = true ∧ (XI.toList == XJ.toList) = true := by
                by_cases h1 : keyS XI = keyS XJ
                · by_cases h2 : lat XI.data.toList = lat XJ.data.toList
                  · exact .inr (.inr ⟨by rw [h1]; simp, by rw [h2]; simp, by rw [hinj (hkk h1) h2]; simp⟩)
                  · exact .inr (.inl ⟨by rw [h1]; simp, by rw [beq_eq_false_iff_ne]; exact h2⟩)
                · exact .inl (by rw [beq_eq_false_iff_ne]; exact fun h => h1 (bytes_inj h))
              clear hinj hkk xil xjl
              generalize lat XI.data.toList = PI at *
              generalize lat XJ.data.toList = PJ at *
              generalize keyS XI = KI at *
              generalize keyS XJ = KJ at *
              obtain ⟨T, g, hg0, hgb, hgi, hgj, hki, hkj, hT, hS⟩ : ∃ (T : Type) (g : T → World), (∃ x, wr.drew = g x) ∧ (∀ x, Below wr.heap.size wr (g x)) ∧ (∀ x, (g x).cell? ⟨LB, a, none⟩ = some (.string XI)) ∧ (∀ x, (g x).cell? ⟨LB, b, none⟩ = some (.string XJ)) ∧
                  (∀ x, (g x).cell? ⟨kb, ko + a, none⟩ = some (.string KI)) ∧ (∀ x, (g x).cell? ⟨kb, ko + b, none⟩ = some (.string KJ)) ∧
                  (∀ x, Calls Tryz.prog 60 #[.string XI] (g x) fun e w' => e = .returned (.bool PI) ∧ ∃ y, w' = g y) ∧
                  (∀ x, Calls Tryz.prog 60 #[.string XJ] (g x) fun e w' => e = .returned (.bool PJ) ∧ ∃ y, w' = g y) :=
                ⟨Since wr, Subtype.val, Since.here wr, fun x => x.property, fun x => x.cell li, fun x => x.cell lj, fun x => x.cell ki, fun x => x.cell kj,
                  fun x => x.calls ((QI.out _).mono fun _ _ h => ⟨h.1, by rw [← h.2]; exact Below.refl _ _⟩), fun x => x.calls ((QJ.out _).mono fun _ _ h => ⟨h.1, by rw [← h.2]; exact Below.refl _ _⟩)⟩
              have hTne : Nonempty T := let ⟨x, _⟩ := hg0; ⟨x⟩
              have HT1 := Lib.hid hT
              have HS1 := Lib.hid hS
              clear hT hS li lj ki kj QI QJ

              go_wp2_with fail
              rcases hcase with m1 | ⟨m1, m2⟩ | ⟨m1, m2, m3⟩
              · refine wp_region_class g hg0 (by kernel_rfl) (by kernel_rfl) ?_
                repeat (go_big_quiet_step (fail))
                refine wpQuiet_nil ?_
                rintro _ ⟨xq, rfl⟩
                have hbq := hgb xq
                have t5 := t1.trans (hbq.mono t1.size)
                clear hgb hg0
                go_wp2_with fail
                go_roundw
                case rel => exact ⟨b + 1, by omega, by go_num, t5⟩
                case measure => simp [intOf]; omega
              · refine wp_region_class g hg0 (by kernel_rfl) (by kernel_rfl) ?_
                repeat (go_big_quiet_step (fail))
                go_big_quiet_step (exact HT1.out _)
                repeat (go_big_quiet_step (fail))
                go_big_quiet_step (exact HS1.out _)
                repeat (go_big_quiet_step (fail))
                refine wpQuiet_nil ?_
                rintro _ ⟨xq, rfl⟩
                have hbq := hgb xq
                have t5 := t1.trans (hbq.mono t1.size)
                clear hgb hg0
                go_wp2_with fail
                go_roundw
                case rel => exact ⟨b + 1, by omega, by go_num, t5⟩
                case measure => simp [intOf]; omega
              · refine wp_region_class g hg0 (by kernel_rfl) (by kernel_rfl) ?_
                repeat (go_big_quiet_step (fail))
                go_big_quiet_step (exact HT1.out _)
                repeat (go_big_quiet_step (fail))
                go_big_quiet_step (exact HS1.out _)
                repeat (go_big_quiet_step (fail))
                refine wpQuiet_nil ?_
                rintro _ ⟨xq, rfl⟩
                have hbq := hgb xq
                have t5 := t1.trans (hbq.mono t1.size)
                clear hgb hg0
                go_wp2_with fail
                go_roundw
                case rel => exact ⟨b + 1, by omega, by go_num, t5⟩
                case measure => simp [intOf]; omega
            · go_wp2
              go_roundw
              case rel => exact ⟨a + 1, by omega, by go_num, t1⟩
              case measure => simp [intOf]; omega
        · go_wp2_with fail
          refine (spelling_at _ (bz.trans (t0.mono bz.size))).mono ?_
          rintro e wz ⟨rfl, hbz⟩
          go_wp2
          go_ret
          exact ⟨rfl, hbz⟩
end Go.Proofs.YtapagncaadjiaaaGreatDoor
