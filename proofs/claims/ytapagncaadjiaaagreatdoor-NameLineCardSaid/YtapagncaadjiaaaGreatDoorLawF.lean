/- One place for each name: the walk. -/
import Derived.Test.YtapagncaadjiaaaGreatDoorLawD
import Derived.Test.YtapagncaadjiaaaGreatDoorPgT
import Derived.Test.YtapagncaadjiaaaGreatDoorSpecT
namespace Go.Proofs.YtapagncaadjiaaaGreatDoor
open Go.RowKit

theorem check_letters {l : List UInt8} (h : Sp.check l = 0) : Letters l := by
  unfold Sp.check at h
  split at h
  · exact absurd h (by decide)
  · split at h
    · exact absurd h (by decide)
    · split at h
      · exact absurd h (by decide)
      · rename_i h0 _ h2
        have hz : ¬ (Sp.own l < l.length ∧ Sp.other l < l.length) := h2
        have h4 : Sp.own l ≤ l.length := List.length_filter_le _ _
        have h5 : Sp.other l ≤ l.length := List.length_filter_le _ _
        by_cases ho : Sp.own l = l.length
        · unfold Sp.own at ho
          exact .inl (List.length_filter_eq_length_iff.1 ho)
        · have h3 : Sp.other l = l.length := by omega
          unfold Sp.other at h3
          have ha := List.length_filter_eq_length_iff.1 h3
          exact .inr fun c hc => by have := ha c hc; simpa using this
theorem made_check {s : ByteArray} (h : Made6 s) : Sp.check s.data.toList = 0 := (other_facts s h.1 h.2.1 h.2.2).1
theorem made_ok2 {a b : ByteArray} (ha : Made6 a) (hb : Made6 b) : AllOk [a, b] := by
  intro s hs
  simp at hs
  rcases hs with rfl | rfl
  · exact made_check ha
  · exact made_check hb
theorem cmp_call {a b : ByteArray} {n : Int} (ha : Made6 a) (hb : Made6 b) (hn : cmpSpell (spellOf a) (spellOf b) = n) (W : World) :
    Calls Tryz.prog 28 #[.string a, .string b] W fun e w' => e = .returned (.tuple #[.int .i64 n, .int .i64 0]) ∧ Below W.heap.size W w' := by
  subst hn
  exact Compare_ok a b W (made_ok2 ha hb)

/-- The walk from the place where the three names lie. -/
def ThreeAt (W : World) (LB : Nat) (L : List ByteArray) : Prop := Cells W (some ⟨LB, 0, none⟩) (L.map Value.string) ∧ L.length = 3 ∧ ∀ i (h : i < L.length), Made6 L[i]

theorem Since.drew {w : World} (x : Since w) : ∃ y : Since w, x.val.drew = y.val := ⟨⟨x.val.drew, x.property.drew⟩, rfl⟩

set_option maxRecDepth 100000 in
set_option maxHeartbeats 6400000 in
theorem NameLine_any (A : Option Addr) (n c : Nat) (w : World) (hn : n ≤ 1000000000000000000) (hx : NumsIn w A n) :
    Calls Tryz.prog 10 #[.slice A n c] w (TruePost w) := by
  have HX := Lib.hid hx
  clear hx
  go_enter Tryz.func10, Tryz.ntmps10
  go_wp2_with fail
  refine (NewDice_any A n c _ hn HX.out).mono ?_
  rintro e w2 ⟨rfl, hd2, b3⟩
  generalize hDD : w.heap.size = D at hd2
  have hD : w.heap.size ≤ D := Nat.le_of_eq hDD
  clear hDD
  go_wp2_with fail
  refine (NameOf_any D _ 2 _ hd2 (by decide) (by decide)).mono ?_
  rintro e w3 ⟨s1, rfl, hs1, hs1', hl1, hd3, hg3⟩
  have b4 := b3.grown hg3 b3.size fun k hk => by cases hk; exact hD
  clear hd2 hg3 b3
  go_wp2_with fail
  refine (NameOf_any D _ 2 _ hd3 (by decide) (by decide)).mono ?_
  rintro e w4 ⟨s2, rfl, hs2, hs2', hl2, hd4, hg4⟩
  have b5 := b4.grown hg4 b4.size fun k hk => by cases hk; exact hD
  clear hd3 hg4 b4
  go_wp2_with fail
  refine (NameOf_any D _ 2 _ hd4 (by decide) (by decide)).mono ?_
  rintro e w5 ⟨s3, rfl, hs3, hs3', hl3, hd5, hg5⟩
  have b6 := b5.grown hg5 b5.size fun k hk => by cases hk; exact hD
  clear hd4 hg5 b5
  have k1 : Made6 s1 := ⟨hs1, by omega, hl1⟩
  have k2 : Made6 s2 := ⟨hs2, by omega, hl2⟩
  have k3 : Made6 s3 := ⟨hs3, by omega, hl3⟩
  have hDl := hd5.lt
  have rl : (w5.alloc (.cells #[.string s1, .string s2, .string s3] 9)).ownsRow w5.heap.size 9 1 (.slice (some ⟨w5.heap.size, 0, none⟩) 3 3) 3 (([s1, s2, s3] : List ByteArray).map Value.string) :=
    World.ownsRow_lit w5 _ 3 (Nat.le_refl _) (by unfold maxLen; omega) rfl
  have hd6 := hd5.alloc (.cells #[.string s1, .string s2, .string s3] 9)
  have b7 := b6.alloc (o := .cells #[.string s1, .string s2, .string s3] 9) b6.size
  clear hl1 hl2 hl3 hs1 hs1' hs2 hs2' hs3 hs3' b6 hd5
  obtain ⟨o, v, hov, hv⟩ : ∃ (o : ByteArray) (v : Int), otherP s1 = (o, v) ∧ (v = 11 ∨ (v = 0 ∧ Made6 o)) := by
    obtain ⟨_, hother⟩ := other_facts s1 k1.1 k1.2.1 k1.2.2
    rcases hother with ⟨ho, _⟩ | ⟨o, ho, o1, o6, hoc, _⟩
    · exact ⟨_, _, ho, .inl rfl⟩
    · exact ⟨_, _, ho, .inr ⟨rfl, o1, o6, check_letters hoc⟩⟩
  have QO := Lib.hid (fun W => other_call s1 (o, v) (made_check k1) hov W)
  have HV := Lib.hid hv
  have K123 := Lib.hid (show Made6 s1 ∧ Made6 s2 ∧ Made6 s3 from ⟨k1, k2, k3⟩)
  clear hv hov k1 k2 k3
  have hc0 : (w5.alloc (.cells #[.string s1, .string s2, .string s3] 9)).cell? ⟨w5.heap.size, 0, none⟩ = some (.string s1) := by rw [rl.cellAt 0 (by omega)]; rfl
  go_wp2_with fail
  generalize w5.alloc (.cells #[.string s1, .string s2, .string s3] 9) = w6 at *
  generalize w5.heap.size = LB at *
  refine (QO.out _).mono ?_
  rintro e w7 ⟨rfl, hb7⟩
  have rl7 := own_below rl hb7
  have b8 := b7.trans (hb7.mono b7.size)
  have hd7 := hd6.under hb7 hd6.lt
  clear hb7 rl b7 hd6 hc0 QO
  go_upto_region 4 with fail
  go_cut [53] from 38 (fun s wx => ∃ b : Bool, s = .bool b ∧ (b = true → Made6 o) ∧ Hid (wx.ownsRow LB 9 1 (.slice (some ⟨LB, 0, none⟩) 3 3) 3 (([s1, s2, s3] : List ByteArray).map Value.string)) ∧ Below w.heap.size w wx)
  case first =>
    rcases HV.out with rfl | ⟨rfl, hm⟩
    · have RL7 := Lib.hid rl7
      clear rl7
      go_wp2_with fail
      go_meet
      exact ⟨false, rfl, (fun h => by cases h), RL7, b8⟩
    · have RL7 := Lib.hid rl7
      have HM := Lib.hid hm
      have j1 : (0 : Int) < (o.size : Int) := by have := hm.1; omega
      have j2 : (o.size : Int) ≤ 6 := by have := hm.2.1; omega
      clear rl7 hm
      go_wp2_with fail
      refine (Once_any D _ 2 _ hd7 (by decide) (by decide)).mono ?_
      rintro e w8 ⟨x, rfl, hd8, hg8⟩
      have RL8 := Lib.hid (own_kept RL7.out hg8 hDl)
      have b9 := b8.grown hg8 b8.size fun k hk => by cases hk; exact hD
      clear hd8 hg8
      go_wp2_with fail
      go_meet
      exact ⟨x, rfl, fun _ => HM.out, RL8, b9⟩
  case rest =>
    obtain ⟨b, rfl, hbo, hrow, hbw⟩ := hcut
    clear rl7 b8 hd7
    go_upto_if 53 with fail
    go_cut [] from 54 (fun wx => ∃ L : List ByteArray, Hid (ThreeAt wx LB L) ∧ Below w.heap.size w wx)
    case first =>
      obtain ⟨k1, k2, k3⟩ := K123.out
      cases b with
      | false =>
        have hT : Hid (ThreeAt wc LB [s1, s2, s3]) := by
          refine ⟨cells_own hrow.out, rfl, fun i h => ?_⟩
          match i, h with
          | 0, _ => exact k1
          | 1, _ => exact k2
          | 2, _ => exact k3
        clear k1 k2 k3 hbo
        go_wp2_with fail
        go_meet
        exact ⟨[s1, s2, s3], hT, hbw⟩
      | true =>
        have ho := hbo rfl
        have hst := (hrow.out.stored 1 (.string o)).1
        have hf := hrow.out.frozenAt 1
        have hc1 : wc.cell? ⟨LB, 1, none⟩ = some (.string s2) := by rw [hrow.out.cellAt 1 (by omega)]; rfl
        have hLB : w.heap.size ≤ LB := by have := (hrow.out.lt LB rfl).1; omega
        have hT : Hid (ThreeAt (wc.setCell ⟨LB, 1, none⟩ (.string o)) LB [s1, o, s3]) := by
          refine ⟨cells_own (xs := ([s1, o, s3] : List ByteArray).map Value.string) hst, rfl, fun i h => ?_⟩
          match i, h with
          | 0, _ => exact k1
          | 1, _ => exact ho
          | 2, _ => exact k3
        have hb2 := hbw.setCell (p := ⟨LB, 1, none⟩) hLB (.string o)
        clear k1 k2 k3 hbo ho hst
        go_wp2_with fail
        go_meet
        exact ⟨[s1, o, s3], hT, hb2⟩
    case rest =>
      obtain ⟨L, hT, hbw0⟩ := hcut
      clear hbo hrow hbw HV K123
      generalize hWW : wc = W0 at *
      clear hWW
      have hw0 := hbw0.size
      go_wp2_with fail
      go_loopw [7, 8, 9, 10, 11, 12, 13, 14, 15, 16, 17, 18, 19, 20, 21] (fun i _ _ _ _ _ _ _ _ _ _ _ _ _ _ wr => ∃ a : Nat, a ≤ 3 ∧ i = .int .i64 a ∧ Below W0.heap.size W0 wr) (fun i _ _ _ _ _ _ _ _ _ _ _ _ _ _ _ => 3 - (intOf i).toNat)
      case atStart => exact ⟨0, Nat.zero_le _, rfl, Below.refl _ _⟩
      case round =>
        obtain ⟨a, ha, rfl, t0⟩ := hrel
        by_cases hal : a < 3
        · have jd : decide ((a : Int) < 3) = true := decide_eq_true (by omega)
          go_wp2_with fail
          go_loopw [8, 9, 10, 11, 12, 13, 14, 15, 16, 17, 18, 19, 20, 21] (fun i _ _ _ _ _ _ _ _ _ _ _ _ _ wi => ∃ b : Nat, b ≤ 3 ∧ i = .int .i64 b ∧ Below W0.heap.size W0 wi) (fun i _ _ _ _ _ _ _ _ _ _ _ _ _ _ => 3 - (intOf i).toNat)
          case atStart => exact ⟨0, Nat.zero_le _, rfl, t0⟩
          case round =>
            obtain ⟨b, hb, rfl, t1⟩ := hrel
            clear t0
            by_cases hbl : b < 3
            · have la : a < L.length := by have := hT.out.2.1; omega
              have lb : b < L.length := by have := hT.out.2.1; omega
              obtain ⟨q1, q2, hv, li0⟩ := hT.out.1.str a la
              injection hv with hv
              injection hv with hv1 hv2
              subst hv1 hv2
              obtain ⟨q1, q2, hv, lk0⟩ := hT.out.1.str b lb
              injection hv with hv
              injection hv with hv1 hv2
              subst hv1 hv2
              rw [Nat.zero_add] at li0 lk0
              have li := (t1.cell (World.block_lt_of_cell? _ _ li0)).trans li0
              have lk := (t1.cell (World.block_lt_of_cell? _ _ lk0)).trans lk0
              have mi := hT.out.2.2 a la
              have mk := hT.out.2.2 b lb
              generalize L[a] = XI at *
              generalize L[b] = XK at *
              obtain ⟨nn, hnn⟩ : ∃ z, cmpSpell (spellOf XI) (spellOf XK) = z := ⟨_, rfl⟩
              obtain ⟨mm, hmm⟩ : ∃ z, cmpSpell (spellOf XK) (spellOf XI) = z := ⟨_, rfl⟩
              obtain ⟨PL, hPL⟩ : ∃ z, lat XI.data.toList = z := ⟨_, rfl⟩
              have Q1 := Lib.hid (cmp_call mi mk hnn)
              have Q2 := Lib.hid (cmp_call mk mi hmm)
              have Q3 := Lib.hid (key_call XI (made_check mi))
              have Q4 := Lib.hid (key_call XK (made_check mk))
              have Q5 := Lib.hid (latin_call XI PL (by have := mi.1; omega) hPL)
              have hlc := line_cases XI XK mi.2.2 mk.2.2 mi.1 mk.1
              rw [hnn, hmm, hPL] at hlc
              have HNN := Lib.hid hnn
              have MI := Lib.hid mi
              have HCI : Hid (∀ W, Below W0.heap.size W0 W → W.cell? ⟨LB, a, none⟩ = some (.string XI)) := Lib.hid fun W hW => (hW.cell (World.block_lt_of_cell? _ _ li0)).trans li0
              have HCK : Hid (∀ W, Below W0.heap.size W0 W → W.cell? ⟨LB, b, none⟩ = some (.string XK)) := Lib.hid fun W hW => (hW.cell (World.block_lt_of_cell? _ _ lk0)).trans lk0
              have MK := Lib.hid mk
              clear hnn hmm hPL mi mk la lb li0 lk0
              generalize keyS XI = KI at *
              generalize keyS XK = KK at *
              have i1 : (0 : Int) ≤ (a : Int) := by omega
              have i2 : (a : Int) < 3 := by omega
              have i3 : (0 : Int) ≤ (b : Int) := by omega
              have i4 : (b : Int) < 3 := by omega
              obtain ⟨T, g, hg0, hgd, hgb, hgi, hgk, hT1, hT2, hT3, hT4, hT5⟩ : ∃ (T : Type) (g : T → World), (∃ x, wr.drew = g x) ∧ (∀ x, ∃ y, (g x).drew = g y) ∧ (∀ x, Below wr.heap.size wr (g x)) ∧ (∀ x, (g x).cell? ⟨LB, a, none⟩ = some (.string XI)) ∧ (∀ x, (g x).cell? ⟨LB, b, none⟩ = some (.string XK)) ∧
                  (∀ x, Calls Tryz.prog 28 #[.string XI, .string XK] (g x) fun e w' => e = .returned (.tuple #[.int .i64 nn, .int .i64 0]) ∧ ∃ y, w' = g y) ∧
                  (∀ x, Calls Tryz.prog 28 #[.string XK, .string XI] (g x) fun e w' => e = .returned (.tuple #[.int .i64 mm, .int .i64 0]) ∧ ∃ y, w' = g y) ∧
                  (∀ x, Calls Tryz.prog 19 #[.string XI] (g x) fun e w' => e = .returned (.tuple #[.string KI, .int .i64 0]) ∧ ∃ y, w' = g y) ∧
                  (∀ x, Calls Tryz.prog 19 #[.string XK] (g x) fun e w' => e = .returned (.tuple #[.string KK, .int .i64 0]) ∧ ∃ y, w' = g y) ∧
                  (∀ x, Calls Tryz.prog 60 #[.string XI] (g x) fun e w' => e = .returned (.bool PL) ∧ ∃ y, w' = g y) :=
                ⟨Since wr, Subtype.val, Since.here wr, Since.drew, fun x => x.property, fun x => x.cell li, fun x => x.cell lk, fun x => x.calls (Q1.out _), fun x => x.calls (Q2.out _), fun x => x.calls (Q3.out _), fun x => x.calls (Q4.out _),
                  fun x => x.calls ((Q5.out _).mono fun _ _ h => ⟨h.1, by rw [← h.2]; exact Below.refl _ _⟩)⟩
              have hTne : Nonempty T := let ⟨x, _⟩ := hg0; ⟨x⟩
              have HT1 := Lib.hid hT1
              have HT2 := Lib.hid hT2
              have HT3 := Lib.hid hT3
              have HT4 := Lib.hid hT4
              have HT5 := Lib.hid hT5
              have HGB := Lib.hid hgb
              have HGD := Lib.hid hgd
              have HLC := Lib.hid hlc
              clear hT1 hT2 hT3 hT4 hT5 hgb hgd hlc li lk Q1 Q2 Q3 Q4 Q5
              go_wp2_with fail
              refine wp_region_class g hg0 (by kernel_rfl) (by kernel_rfl) ?_
              repeat (go_big_quiet_step (fail))
              go_big_quiet_step (exact HT1.out _)
              repeat (go_big_quiet_step (fail))
              refine wpQuiet_nil ?_
              rintro _ ⟨x1, rfl⟩
              clear hg0
              go_wp2_with fail
              refine wp_region_class g (HGD.out x1) (by kernel_rfl) (by kernel_rfl) ?_
              repeat (go_big_quiet_step (fail))
              go_big_quiet_step (exact HT2.out _)
              repeat (go_big_quiet_step (fail))
              refine wpQuiet_nil ?_
              rintro _ ⟨x2, rfl⟩
              go_wp2_with fail
              refine (HT3.out x2).mono ?_
              rintro e w' ⟨rfl, x3, rfl⟩
              go_wp2_with fail
              refine (HT4.out x3).mono ?_
              rintro e w' ⟨rfl, x4, rfl⟩
              go_upto_region 16 with fail
              go_cut [172] from 61 to 218 (fun s wx => s = .bool false ∧ Below W0.heap.size W0 wx)
              case first =>
                rcases HLC.out with ⟨rfl, rfl, m1, m2, m3⟩ | ⟨rfl, rfl, m1, m2, m3⟩ | ⟨rfl, rfl, m1, m2, m3, rfl⟩ | ⟨rfl, rfl, m1, m2, m3⟩ | ⟨rfl, rfl, m1, m2, m3⟩
                · as_aux_lemma =>
                    clear HLC
                    refine wp_region_class g (HGD.out x4) (by kernel_rfl) (by kernel_rfl) ?_
                    dsimp only [List.append]
                    repeat (go_big_quiet_step (fail))
                    refine wpQuiet_nil ?_
                    rintro _ ⟨x5, rfl⟩
                    have t5 := t1.trans ((HGB.out x5).mono t1.size)
                    clear hgi hgk
                    go_wp2_with fail
                    go_meet
                    exact ⟨rfl, t5⟩
                · as_aux_lemma =>
                    clear HLC
                    refine wp_region_class g (HGD.out x4) (by kernel_rfl) (by kernel_rfl) ?_
                    dsimp only [List.append]
                    repeat (go_big_quiet_step (fail))
                    refine wpQuiet_nil ?_
                    rintro _ ⟨x5, rfl⟩
                    have t5 := t1.trans ((HGB.out x5).mono t1.size)
                    clear hgi hgk
                    go_wp2_with fail
                    go_meet
                    exact ⟨rfl, t5⟩
                · as_aux_lemma =>
                    clear HLC
                    refine wp_region_class g (HGD.out x4) (by kernel_rfl) (by kernel_rfl) ?_
                    dsimp only [List.append]
                    repeat (go_big_quiet_step (fail))
                    go_big_quiet_step (exact HT5.out _)
                    repeat (go_big_quiet_step (fail))
                    refine wpQuiet_nil ?_
                    rintro _ ⟨x5, rfl⟩
                    have t5 := t1.trans ((HGB.out x5).mono t1.size)
                    clear hgi hgk
                    go_wp2_with fail
                    go_meet
                    exact ⟨rfl, t5⟩
                · as_aux_lemma =>
                    clear HLC
                    refine wp_region_class g (HGD.out x4) (by kernel_rfl) (by kernel_rfl) ?_
                    dsimp only [List.append]
                    repeat (go_big_quiet_step (fail))
                    refine wpQuiet_nil ?_
                    rintro _ ⟨x5, rfl⟩
                    have t5 := t1.trans ((HGB.out x5).mono t1.size)
                    clear hgi hgk
                    go_wp2_with fail
                    go_meet
                    exact ⟨rfl, t5⟩
                · as_aux_lemma =>
                    clear HLC
                    refine wp_region_class g (HGD.out x4) (by kernel_rfl) (by kernel_rfl) ?_
                    dsimp only [List.append]
                    repeat (go_big_quiet_step (fail))
                    refine wpQuiet_nil ?_
                    rintro _ ⟨x5, rfl⟩
                    have t5 := t1.trans ((HGB.out x5).mono t1.size)
                    clear hgi hgk
                    go_wp2_with fail
                    go_meet
                    exact ⟨rfl, t5⟩
              case rest =>
                as_aux_lemma =>
                  obtain ⟨rfl, t5⟩ := hcut
                  clear HLC HT1 HT2 HT3 HT4 HT5 HGB HGD hgi hgk hTne t1
                  go_wp2_with fail
                  go_loopw [17, 18, 19, 20, 21] (fun i _ _ _ _ wi => ∃ c : Nat, c ≤ 3 ∧ i = .int .i64 c ∧ Below W0.heap.size W0 wi) (fun i _ _ _ _ _ => 3 - (intOf i).toNat)
                  case atStart => exact ⟨0, Nat.zero_le _, rfl, t5⟩
                  case round =>
                    obtain ⟨c, hc, rfl, t2⟩ := hrel
                    clear t5
                    by_cases hcl : c < 3
                    · have lc : c < L.length := by have := hT.out.2.1; omega
                      have la : a < L.length := by have := hT.out.2.1; omega
                      have lb : b < L.length := by have := hT.out.2.1; omega
                      obtain ⟨q1, q2, hv, lj⟩ := (hT.out.1.below t2).str c lc
                      injection hv with hv
                      injection hv with hv1 hv2
                      subst hv1 hv2
                      have li := HCI.out _ t2
                      have lk := HCK.out _ t2
                      rw [Nat.zero_add] at lj
                      have mj := hT.out.2.2 c lc
                      generalize L[c] = XJ at *
                      obtain ⟨xx, hxx⟩ : ∃ z, cmpSpell (spellOf XK) (spellOf XJ) = z := ⟨_, rfl⟩
                      obtain ⟨yy, hyy⟩ : ∃ z, cmpSpell (spellOf XI) (spellOf XJ) = z := ⟨_, rfl⟩
                      have Q1 := Lib.hid (cmp_call MK.out mj hxx)
                      have Q2 := Lib.hid (cmp_call MI.out mj hyy)
                      have hd : (nn = -1 ∧ xx = -1 ∧ yy = -1) ∨ (nn = -1 ∧ xx = 0) ∨ (nn = -1 ∧ xx = 1) ∨ nn = 0 ∨ nn = 1 := by
                        rcases cmpS_vals (spellOf XI) (spellOf XK) with h0 | h0 | h0
                        · rcases cmpS_vals (spellOf XK) (spellOf XJ) with h | h | h
                          · exact .inl ⟨by rw [← HNN.out, h0], by rw [← hxx, h], by rw [← hyy]; exact cmpS_trans _ _ _ h0 h⟩
                          · exact .inr (.inl ⟨by rw [← HNN.out, h0], by rw [← hxx, h]⟩)
                          · exact .inr (.inr (.inl ⟨by rw [← HNN.out, h0], by rw [← hxx, h]⟩))
                        · exact .inr (.inr (.inr (.inl (by rw [← HNN.out, h0]))))
                        · exact .inr (.inr (.inr (.inr (by rw [← HNN.out, h0]))))
                      have HD := Lib.hid hd
                      clear hd
                      clear hxx hyy mj lc la lb
                      have i5 : (0 : Int) ≤ (c : Int) := by omega
                      have i6 : (c : Int) < 3 := by omega
                      obtain ⟨T, g, hg0, hgd, hgb, hgi, hgk, hgj, hT1, hT2⟩ : ∃ (T : Type) (g : T → World), (∃ x, wr.drew = g x) ∧ (∀ x, ∃ y, (g x).drew = g y) ∧ (∀ x, Below wr.heap.size wr (g x)) ∧ (∀ x, (g x).cell? ⟨LB, a, none⟩ = some (.string XI)) ∧ (∀ x, (g x).cell? ⟨LB, b, none⟩ = some (.string XK)) ∧ (∀ x, (g x).cell? ⟨LB, c, none⟩ = some (.string XJ)) ∧
                          (∀ x, Calls Tryz.prog 28 #[.string XK, .string XJ] (g x) fun e w' => e = .returned (.tuple #[.int .i64 xx, .int .i64 0]) ∧ ∃ y, w' = g y) ∧
                          (∀ x, Calls Tryz.prog 28 #[.string XI, .string XJ] (g x) fun e w' => e = .returned (.tuple #[.int .i64 yy, .int .i64 0]) ∧ ∃ y, w' = g y) :=
                        ⟨Since wr, Subtype.val, Since.here wr, Since.drew, fun x => x.property, fun x => x.cell li, fun x => x.cell lk, fun x => x.cell lj, fun x => x.calls (Q1.out _), fun x => x.calls (Q2.out _)⟩
                      have hTne : Nonempty T := let ⟨x, _⟩ := hg0; ⟨x⟩
                      have HU1 := Lib.hid hT1
                      have HU2 := Lib.hid hT2
                      have HVB := Lib.hid hgb
                      have HVD := Lib.hid hgd
                      clear hT1 hT2 hgb hgd li lk lj Q1 Q2
                      go_wp2_with fail
                      refine wp_region_class g hg0 (by kernel_rfl) (by kernel_rfl) ?_
                      repeat (go_big_quiet_step (fail))
                      go_big_quiet_step (exact HU1.out _)
                      repeat (go_big_quiet_step (fail))
                      refine wpQuiet_nil ?_
                      rintro _ ⟨y1, rfl⟩
                      clear hg0
                      go_wp2_with fail
                      refine wp_region_class g (HVD.out y1) (by kernel_rfl) (by kernel_rfl) ?_
                      repeat (go_big_quiet_step (fail))
                      go_big_quiet_step (exact HU2.out _)
                      repeat (go_big_quiet_step (fail))
                      refine wpQuiet_nil ?_
                      rintro _ ⟨y2, rfl⟩
                      have t6 := t2.trans ((HVB.out y2).mono t2.size)
                      clear hgi hgk hgj
                      rcases HD.out with ⟨rfl, rfl, rfl⟩ | ⟨rfl, rfl⟩ | ⟨rfl, rfl⟩ | rfl | rfl
                      all_goals
                        clear HD HNN
                        go_wp2_with fail
                        go_roundw
                        case rel => exact ⟨c + 1, by omega, by go_num, t6⟩
                        case measure => simp [intOf]; omega
                    · go_wp2
                      go_roundw
                      case rel => exact ⟨b + 1, by omega, by go_num, t2⟩
                      case measure => simp [intOf]; omega
            · go_wp2_with fail
              go_roundw
              case rel => exact ⟨a + 1, by omega, by go_num, t1⟩
              case measure => simp [intOf]; omega
        · go_wp2_with fail
          refine (spelling_at _ (hbw0.trans (t0.mono hbw0.size))).mono ?_
          rintro e wz ⟨rfl, hbz⟩
          go_wp2
          go_ret
          exact ⟨rfl, hbz⟩
end Go.Proofs.YtapagncaadjiaaaGreatDoor
