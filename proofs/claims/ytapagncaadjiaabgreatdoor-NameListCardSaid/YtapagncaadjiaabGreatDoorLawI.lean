/- One name more in a list never makes the shortest abbreviation shorter: the walk. -/
import Derived.Test.YtapagncaadjiaabGreatDoorLawF0
import Derived.Test.YtapagncaadjiaabGreatDoorPgR
import Derived.Test.YtapagncaadjiaabGreatDoorSpecV
namespace Go.Proofs.YtapagncaadjiaabGreatDoor
open Go.RowKit

theorem shortest_call {A : Option Addr} {n c i : Nat} {ss : List ByteArray} {W0 : World} {p : List UInt8 × Int} (hn : n = ss.length) (hb : n ≤ 6) (hv : AllOk ss) (hx : Cells W0 A (ss.map Value.string)) (hi : i < ss.length) (hp : shortestG ss i = p) (W : World) (hW : Below W0.heap.size W0 W) :
    Calls Tryz.prog 25 #[.slice A n c, .int .i64 i] W fun e w' => e = .returned (.tuple #[.string ⟨p.1.toArray⟩, .int .i64 p.2]) ∧ Below W.heap.size W w' := by
  subst hp
  refine (Shortest_ok A n c i ss W hn hb hv (hx.below hW) (by rw [hn]; exact hi)).mono ?_
  rintro e w' ⟨s', h1, rfl, hb⟩
  refine ⟨?_, hb⟩
  rw [← h1]
theorem made_all {L : List ByteArray} (h : ∀ i (h : i < L.length), Made6 L[i]) : AllOk L := by
  intro s hs
  obtain ⟨i, hi, rfl⟩ := List.mem_iff_getElem.1 hs
  exact made_check (h i hi)
theorem made_snoc {L : List ByteArray} {X : ByteArray} (h : ∀ i (h : i < L.length), Made6 L[i]) (hX : Made6 X) : ∀ i (h : i < (L ++ [X]).length), Made6 (L ++ [X])[i] := by
  intro i hi
  by_cases hl : i < L.length
  · rw [List.getElem_append_left hl]; exact h i hl
  · rw [List.getElem_append_right (by omega)]
    have : i - L.length = 0 := by simp at hi; omega
    simp only [this]
    exact hX
theorem grown_set (w : World) (B j : Nat) (v : Value) : w.grownBy (w.setCell ⟨B, j, none⟩ v) (some B) :=
  ⟨rfl, rfl, rfl, by simp [World.setCell], fun k _ hk => Below.heap_setCell _ _ _ _ (fun e => hk (by simp [e]))⟩
theorem set_last (L : List ByteArray) (X Y : ByteArray) : ((L ++ [X]).map Value.string).set L.length (.string Y) = (L ++ [Y]).map Value.string := by
  rw [List.map_append, List.map_append, List.set_append_right _ _ (by simp)]
  simp

set_option maxRecDepth 100000 in
set_option maxHeartbeats 6400000 in
theorem NameList_any (A : Option Addr) (n c : Nat) (w : World) (hn : n ≤ 1000000000000000000) (hx : NumsIn w A n) :
    Calls Tryz.prog 8 #[.slice A n c] w (TruePost w) := by
  obtain ⟨si, hi, hz0, hz1, hz2⟩ := info_parts infoStr
  have HX := Lib.hid hx
  clear hx
  go_enter Tryz.func8, Tryz.ntmps8
  go_wp2_with fail
  refine (NewDice_any A n c _ hn HX.out).mono ?_
  rintro e w2 ⟨rfl, hd2, b3⟩
  generalize hDD : w.heap.size = D at hd2
  have hD : w.heap.size ≤ D := Nat.le_of_eq hDD
  have hD2 := hd2.lt
  clear hDD
  go_wp2_with fail
  refine (NamesOf_any D _ 4 5 _ hd2 (by decide) (by decide) (by decide) (by decide)).mono ?_
  rintro e w4 ⟨o, sa, rfl, hl4, ho4, hlike4, hd4, hg4⟩
  have b5 := b3.grown hg4 b3.size fun k hk => by cases hk; exact hD
  obtain ⟨O, capo, rfl⟩ := own_form ho4
  have HL4 := Lib.hid hlike4
  clear hlike4
  go_wp2_with fail
  refine (NameOf_any D _ 5 _ hd4 (by decide) (by decide)).mono ?_
  rintro e w5 ⟨s4, rfl, hs5, hs5', hl5, hd5, hg5⟩
  have b6 := b5.grown hg5 b5.size fun k hk => by cases hk; exact hD
  have ho5 := own_kept ho4 hg5 hD2
  have hg25 := grownBy_trans hg4 hg5
  have hws : w2.heap.size ≤ w5.heap.size := hg25.size
  have HS5 : Hid (Like s4 5) := Lib.hid ⟨hs5, hs5', hl5⟩
  have hsa : sa.length ≤ 4 := by omega
  clear hl5 hs5 hs5' hd4 hg5 hg4 b5 ho4 hl4
  go_wp2_with (at_builtin; refine wpList_append_own _ rfl _ _ 27 rfl w2.heap.size 9 si (.string ByteArray.empty) 1 16 Tryz.underlying27 hi hz0 hz1 hz2 rfl (by decide) _ _ _ rfl (ho5.alloc _) ⟨w5.heap.size, 0, none⟩ 1 1 [.string s4] rfl rfl (cell_one_new _ _ _) (by simp [Value.oneCell']) (by unfold maxLen; omega) (by omega) (by simp; omega) ?_; intro v' w6 ho6 hg6 _; obtain ⟨G6, cap6, rfl⟩ := own_head ho6)
  obtain ⟨hd6, hg26⟩ := own_append2 (w := w2) (wl := w5) (ho5.alloc _) hD2 hg25 hd5 ((Below.refl _ _).alloc (Nat.le_refl _) _) hg6
  have b7 := b3.grown hg26 b3.size fun k hk => by cases hk; exact hD
  have e6 : (sa.map Value.string ++ [Value.string s4]) = (sa ++ [s4]).map Value.string := by simp
  rw [e6] at ho6
  have hLn : (sa ++ [s4]).length = sa.length + 1 := by simp
  have HLn := Lib.hid hLn
  have HM : Hid (∀ i (h : i < (sa ++ [s4]).length), Made6 (sa ++ [s4])[i]) := Lib.hid fun i h => by
    have hm : (sa ++ [s4])[i] ∈ sa ++ [s4] := List.getElem_mem h
    rw [List.mem_append, List.mem_singleton] at hm
    have hk : Like (sa ++ [s4])[i] 5 := by
      rcases hm with hm | hm
      · exact HL4.out _ hm
      · rw [hm]; exact HS5.out
    exact ⟨hk.1, by have := hk.2.1; omega, hk.2.2⟩
  generalize sa ++ [s4] = L at *
  clear ho5 hg25 b6 hd5 hws HL4 HS5 e6 hLn hg6 hd2 b3 hg26
  have hsl : (sa.length : Int) ≤ 1000 := by omega
  refine (To_any D _ (sa.length : Nat) _ hd6 (by omega)).mono ?_
  rintro e w7 ⟨x1, rfl, x0, x1', x2', hd7, hg7⟩
  obtain ⟨at_, rfl, hat⟩ : ∃ k : Nat, x1 = (k : Int) ∧ k ≤ sa.length := by
    refine ⟨x1.toNat, by omega, ?_⟩
    by_cases h : 1 ≤ sa.length
    · have := x1' (by omega); omega
    · have := x2' (by omega); omega
  have ho7 := own_kept ho6 hg7 hD2
  have b8 := b7.grown hg7 b7.size fun k hk => by cases hk; exact hD
  clear x0 x1' x2' hd6 hg7 b7 ho6
  generalize hNN : sa.length + 1 = N at *
  have hN5 : N ≤ 5 := by omega
  have hatN : at_ < N := by omega
  have hN0 : ((N : Nat) : Int) = (sa.length : Int) + 1 := by omega
  go_wp2_with fail
  refine (DupStrings_any _ N cap6 L w7 HLn.out.symm (by omega) (fun h => by cases h) (cells_own ho7)).mono ?_
  rintro e w8 ⟨o8, rfl, ho8, hb8⟩
  rw [HLn.out] at ho8
  obtain ⟨O8, cap8, rfl⟩ := own_form ho8
  have ho7' := own_below ho7 hb8
  have hd8 := hd7.under hb8 hd7.lt
  have b9 := b8.trans (hb8.mono b8.size)
  have hD7 := hd7.lt
  have hG6 : G6 < w7.heap.size := (ho7.lt G6 rfl).2
  have hw7 := hb8.size
  have hw07 := b8.size
  clear ho7 hd7 b8 hb8
  go_wp2_with fail
  refine (NameOf_any D _ 5 _ hd8 (by decide) (by decide)).mono ?_
  rintro e w9 ⟨s9, rfl, hs9, hs9', hl9, hd9, hg9⟩
  have b10 := b9.grown hg9 b9.size fun k hk => by cases hk; exact hD
  have ho9 := own_kept ho8 hg9 hD7
  have hol9 := own_kept ho7' hg9 hD2
  have hws9 : w7.heap.size ≤ w9.heap.size := Nat.le_trans hw7 hg9.size
  have M9 : Hid (Made6 s9) := Lib.hid ⟨hs9, by omega, hl9⟩
  clear ho8 ho7' hd8 b9 hs9 hs9' hl9
  go_wp2_with (at_builtin; refine wpList_append_own _ rfl _ _ 27 rfl w7.heap.size 9 si (.string ByteArray.empty) 1 16 Tryz.underlying27 hi hz0 hz1 hz2 rfl (by decide) _ _ _ rfl (ho9.alloc _) ⟨w9.heap.size, 0, none⟩ 1 1 [.string s9] rfl rfl (cell_one_new _ _ _) (by simp [Value.oneCell']) (by unfold maxLen; omega) (by omega) (by simp; omega) ?_; intro v' wa hoa hga _; obtain ⟨GA, capa, rfl⟩ := own_head hoa)
  have hbo := fun g (hg : (Value.slice O8 N cap8).ownBlock = some g) => (ho9.lt g hg).1
  have hba : Below w9.heap.size w9 (w9.alloc (.cells #[.string s9] 9)) := (Below.refl _ _).alloc (Nat.le_refl _) _
  have hDa : Below w7.heap.size w9 wa := (hba.mono hws9).grown hga (Nat.le_trans hws9 hba.size) hbo
  have hda := hd9.under hDa hD7
  have hla : wa.ownsRow w2.heap.size 9 1 (.slice (some ⟨G6, 0, none⟩) N cap6) N (L.map Value.string) := (hol9.alloc _).kept hga (.inr fun he => by
    have h2 := hbo G6 he.symm
    omega)
  have bb : Below w.heap.size w wa := b10.trans (hDa.mono hw07)
  have ea : (L.map Value.string ++ [Value.string s9]) = (L ++ [s9]).map Value.string := by simp
  rw [ea] at hoa
  clear ho9 hol9 hd9 b10 hga hba hDa ea hbo
  go_wp2_with fail
  refine (Once_any D _ 4 _ hda (by decide) (by decide)).mono ?_
  rintro e wb ⟨x, rfl, hdb, hgb⟩
  have hob := own_kept hoa hgb hD7
  have hlb := own_kept hla hgb hD2
  have bc := bb.grown hgb bb.size fun k hk => by cases hk; exact hD
  clear hoa hla bb hda hdb hgb
  go_upto_if 31 with fail
  go_cut [] from 32 (fun wx => ∃ X, Made6 X ∧ Hid (Cells wx (some ⟨G6, 0, none⟩) (L.map Value.string)) ∧ Hid (Cells wx (some ⟨GA, 0, none⟩) ((L ++ [X]).map Value.string)) ∧ Below w.heap.size w wx)
  case first =>
    cases x with
    | false =>
      have h1 := Lib.hid (cells_own hlb)
      have h2 := Lib.hid (cells_own hob)
      clear hlb hob
      go_wp2_with fail
      go_meet
      exact ⟨s9, M9.out, h1, h2, bc⟩
    | true =>
      have hal : at_ < L.length := by rw [HLn.out]; exact hatN
      obtain ⟨q1, q2, hv, c1⟩ := (cells_own hlb).str at_ hal
      injection hv with hv
      injection hv with hv1 hv2
      subst hv1 hv2
      rw [Nat.zero_add] at c1
      have hGA := (hob.lt GA rfl).1
      have hst := (hob.stored N (.string L[at_])).1
      have e2 : ((L ++ [s9]).map Value.string).set N (.string L[at_]) = (L ++ [L[at_]]).map Value.string := by
        rw [← HLn.out]; exact set_last L s9 L[at_]
      rw [e2] at hst
      have hc3 : wb.cell? ⟨GA, N, none⟩ = some (.string s9) := by
        rw [hob.cellAt N (by omega), List.getElem?_map, List.getElem?_append_right (by rw [HLn.out]; exact Nat.le_refl _), HLn.out]
        simp
      have hf3 := hob.frozenAt N
      have hl2 := hlb.kept (grown_set wb GA N (.string L[at_])) (.inr fun he => by
        have he' : some G6 = some GA := he
        injection he' with he'
        omega)
      have h1 := Lib.hid (cells_own hl2)
      have h2 := Lib.hid (cells_own hst)
      have h3 := HM.out at_ hal
      have h4 := bc.setCell (p := ⟨GA, N, none⟩) (by show w.heap.size ≤ GA; omega) (.string L[at_])
      have i1 : (0 : Int) ≤ (at_ : Int) := by omega
      have i2 : (at_ : Int) < (N : Int) := by omega
      have H3 := Lib.hid h3
      clear hlb hob hst hl2 e2 h3
      generalize L[at_] = Y at *
      go_wp2_with fail
      go_meet
      exact ⟨Y, H3.out, h1, h2, h4⟩
  case rest =>
    obtain ⟨X, hX, CL, CM, bx⟩ := hcut
    have HX := Lib.hid hX
    have hal : at_ < L.length := by rw [HLn.out]; exact hatN
    have hll : (L ++ [X]).length = N + 1 := by rw [List.length_append, HLn.out]; rfl
    have hbx := bx.size
    have QA := Lib.hid (fun p (hp : shortestG L at_ = p) => shortest_call (c := cap6) HLn.out.symm (by omega) (made_all HM.out) CL.out hal hp)
    have QB := Lib.hid (fun p (hp : shortestG (L ++ [X]) at_ = p) => shortest_call (c := capa) hll.symm (by omega) (made_all (made_snoc HM.out hX)) CM.out (by rw [hll]; omega) hp)
    have hlm := list_more L X at_ hal
    obtain ⟨q1, q2, hv, c1⟩ := CL.out.str at_ hal
    injection hv with hv
    injection hv with hv1 hv2
    subst hv1 hv2
    rw [Nat.zero_add] at c1
    obtain ⟨q1, q2, hv, c2⟩ := CM.out.str N (by rw [hll]; omega)
    injection hv with hv
    injection hv with hv1 hv2
    subst hv1 hv2
    have eX : (L ++ [X])[N]'(by rw [hll]; omega) = X := by
      rw [List.getElem_append_right (by rw [HLn.out]; exact Nat.le_refl _)]
      simp [HLn.out]
    rw [Nat.zero_add, eX] at c2
    have hky : X = L[at_] → Sp.key X.data.toList = Sp.key (at' L at_) := fun h => by rw [at_get L at_ hal, h]
    generalize L[at_] = Y at *
    clear hlb hob bc hX eX hll
    rcases hlm with ⟨h1, h2⟩ | ⟨a, h1, h2⟩
    · have R1 := Lib.hid (QA.out _ h1)
      have R2 := Lib.hid (QB.out _ h2)
      clear QA QB h1 h2 hky
      go_wp2_with fail
      refine (R1.out _ (Below.refl _ _)).mono ?_
      rintro e v1 ⟨rfl, hb1⟩
      go_wp2_with fail
      refine (R2.out _ hb1).mono ?_
      rintro e v2 ⟨rfl, hb2⟩
      have b3 := bx.trans ((hb1.trans (hb2.mono hb1.size)).mono bx.size)
      go_wp2_with fail
      refine (spelling_at _ b3).mono ?_
      rintro e wz ⟨rfl, hbz⟩
      go_wp2
      go_ret
      exact ⟨rfl, hbz⟩
    · have R1 := Lib.hid (QA.out _ h1)
      have i1 : (0 : Int) ≤ (at_ : Int) := by omega
      have i2 : (at_ : Int) < (N : Int) := by omega
      have i3 : (N : Int) < ((N + 1 : Nat) : Int) := by omega
      have i4 : (N : Int) < (N : Int) + 1 := by omega
      have i5 : (0 : Int) ≤ (N : Int) := by omega
      rcases h2 with ⟨hk, h2⟩ | ⟨b, h2, hlen, hk⟩
      · have R2 := Lib.hid (QB.out _ h2)
        have m1 : (X.toList == Y.toList) = false := by
          rw [beq_eq_false_iff_ne]
          exact fun h => hk (hky (bytes_inj h))
        clear QA QB h1 h2 hky hk
        go_wp2_with fail
        refine (R1.out _ (Below.refl _ _)).mono ?_
        rintro e v1 ⟨rfl, hb1⟩
        go_wp2_with fail
        refine (R2.out _ hb1).mono ?_
        rintro e v2 ⟨rfl, hb2⟩
        have b12 := hb1.trans (hb2.mono hb1.size)
        have b3 := bx.trans (b12.mono bx.size)
        have d1 := (b12.cell (World.block_lt_of_cell? _ _ c1)).trans c1
        have d2 := (b12.cell (World.block_lt_of_cell? _ _ c2)).trans c2
        clear c1 c2
        obtain ⟨T, g, hg0, hgb, hgx, hgy, hT1⟩ : ∃ (T : Type) (g : T → World), (∃ x, v2.drew = g x) ∧ (∀ x, Below v2.heap.size v2 (g x)) ∧ (∀ x, (g x).cell? ⟨GA, N, none⟩ = some (.string X)) ∧ (∀ x, (g x).cell? ⟨G6, at_, none⟩ = some (.string Y)) ∧
            (∀ x, Calls Tryz.prog 16 #[] (g x) fun e w' => e = .returned (.bool true) ∧ ∃ y, w' = g y) :=
          ⟨Since v2, Subtype.val, Since.here v2, fun x => x.property, fun x => x.cell d2, fun x => x.cell d1, fun x => x.calls (spelling_any _)⟩
        have hTne : Nonempty T := let ⟨x, _⟩ := hg0; ⟨x⟩
        have HT1 := Lib.hid hT1
        have HGB := Lib.hid hgb
        clear hT1 hgb d1 d2
        go_wp2_with fail
        refine wp_region_class g hg0 (by kernel_rfl) (by kernel_rfl) ?_
        try dsimp only [List.append]
        repeat (go_big_quiet_step (fail))
        go_big_quiet_step (exact HT1.out _)
        repeat (go_big_quiet_step (fail))
        refine wpQuiet_nil ?_
        rintro _ ⟨x5, rfl⟩
        have t5 := b3.trans ((HGB.out x5).mono b3.size)
        clear hg0 hgx hgy
        go_wp2
        go_ret
        exact ⟨rfl, t5⟩
      · have R2 := Lib.hid (QB.out _ h2)
        cases m1 : (X.toList == Y.toList) with
        | true =>
          have hXY := beq_iff_eq.1 m1
          obtain rfl := hk (hky (bytes_inj hXY))
          clear QA QB h1 h2 hky hk hXY hlen
          dsimp only at R1 R2
          generalize (⟨b.toArray⟩ : ByteArray) = SB at *
          go_wp2_with fail
          refine (R1.out _ (Below.refl _ _)).mono ?_
          rintro e v1 ⟨rfl, hb1⟩
          go_wp2_with fail
          refine (R2.out _ hb1).mono ?_
          rintro e v2 ⟨rfl, hb2⟩
          have b12 := hb1.trans (hb2.mono hb1.size)
          have b3 := bx.trans (b12.mono bx.size)
          have d1 := (b12.cell (World.block_lt_of_cell? _ _ c1)).trans c1
          have d2 := (b12.cell (World.block_lt_of_cell? _ _ c2)).trans c2
          clear c1 c2
          obtain ⟨T, g, hg0, hgb, hgx, hgy, hT1⟩ : ∃ (T : Type) (g : T → World), (∃ x, v2.drew = g x) ∧ (∀ x, Below v2.heap.size v2 (g x)) ∧ (∀ x, (g x).cell? ⟨GA, N, none⟩ = some (.string X)) ∧ (∀ x, (g x).cell? ⟨G6, at_, none⟩ = some (.string Y)) ∧
              (∀ x, Calls Tryz.prog 16 #[] (g x) fun e w' => e = .returned (.bool true) ∧ ∃ y, w' = g y) :=
            ⟨Since v2, Subtype.val, Since.here v2, fun x => x.property, fun x => x.cell d2, fun x => x.cell d1, fun x => x.calls (spelling_any _)⟩
          have hTne : Nonempty T := let ⟨x, _⟩ := hg0; ⟨x⟩
          have HT1 := Lib.hid hT1
          have HGB := Lib.hid hgb
          clear hT1 hgb d1 d2
          go_wp2_with fail
          refine wp_region_class g hg0 (by kernel_rfl) (by kernel_rfl) ?_
          try dsimp only [List.append]
          repeat (go_big_quiet_step (fail))
          go_big_quiet_step (exact HT1.out _)
          repeat (go_big_quiet_step (fail))
          refine wpQuiet_nil ?_
          rintro _ ⟨x5, rfl⟩
          have t5 := b3.trans ((HGB.out x5).mono b3.size)
          clear hg0 hgx hgy
          go_wp2
          go_ret
          exact ⟨rfl, t5⟩
        | false =>
          have hsz : ((⟨a.toArray⟩ : ByteArray).size : Int) ≤ ((⟨b.toArray⟩ : ByteArray).size : Int) := by
            show ((a.toArray.size : Nat) : Int) ≤ ((b.toArray.size : Nat) : Int)
            simp
            omega
          clear QA QB h1 h2 hky hk hlen
          dsimp only at R1 R2
          generalize (⟨a.toArray⟩ : ByteArray) = SA at *
          generalize (⟨b.toArray⟩ : ByteArray) = SB at *
          go_wp2_with fail
          refine (R1.out _ (Below.refl _ _)).mono ?_
          rintro e v1 ⟨rfl, hb1⟩
          go_wp2_with fail
          refine (R2.out _ hb1).mono ?_
          rintro e v2 ⟨rfl, hb2⟩
          have b12 := hb1.trans (hb2.mono hb1.size)
          have b3 := bx.trans (b12.mono bx.size)
          have d1 := (b12.cell (World.block_lt_of_cell? _ _ c1)).trans c1
          have d2 := (b12.cell (World.block_lt_of_cell? _ _ c2)).trans c2
          clear c1 c2
          obtain ⟨T, g, hg0, hgb, hgx, hgy, hT1⟩ : ∃ (T : Type) (g : T → World), (∃ x, v2.drew = g x) ∧ (∀ x, Below v2.heap.size v2 (g x)) ∧ (∀ x, (g x).cell? ⟨GA, N, none⟩ = some (.string X)) ∧ (∀ x, (g x).cell? ⟨G6, at_, none⟩ = some (.string Y)) ∧
              (∀ x, Calls Tryz.prog 16 #[] (g x) fun e w' => e = .returned (.bool true) ∧ ∃ y, w' = g y) :=
            ⟨Since v2, Subtype.val, Since.here v2, fun x => x.property, fun x => x.cell d2, fun x => x.cell d1, fun x => x.calls (spelling_any _)⟩
          have hTne : Nonempty T := let ⟨x, _⟩ := hg0; ⟨x⟩
          have HT1 := Lib.hid hT1
          have HGB := Lib.hid hgb
          clear hT1 hgb d1 d2
          go_wp2_with fail
          refine wp_region_class g hg0 (by kernel_rfl) (by kernel_rfl) ?_
          try dsimp only [List.append]
          repeat (go_big_quiet_step (fail))
          go_big_quiet_step (exact HT1.out _)
          repeat (go_big_quiet_step (fail))
          refine wpQuiet_nil ?_
          rintro _ ⟨x5, rfl⟩
          have t5 := b3.trans ((HGB.out x5).mono b3.size)
          clear hg0 hgx hgy
          go_wp2
          go_ret
          exact ⟨rfl, t5⟩
end Go.Proofs.YtapagncaadjiaabGreatDoor
