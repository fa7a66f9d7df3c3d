/- What is set in a column has at most its width, and a wider one never has fewer letters: the walk. -/
import Derived.Test.YtlhiekeolmgilaaGreatDoorLawM0
import Derived.Test.YtlhiekeolmgilaaGreatDoorLawI
import Derived.Test.YtlhiekeolmgilaaGreatDoorPzD
namespace Go.Proofs.YtlhiekeolmgilaaGreatDoor
open Go.RowKit

theorem list_ok {ss : List ByteArray} (h6 : ss.length ≤ 6) (hv : AllOk ss) : listErr ss = 0 := by
  unfold listErr
  rw [if_neg (by omega)]
  have : ∀ t : List ByteArray, AllOk t → firstErr t = 0 := by
    intro t
    induction t with
    | nil => intro _; rfl
    | cons s t ih =>
      intro h
      unfold firstErr
      rw [if_pos (h s (by simp))]
      exact ih fun x hx => h x (by simp [hx])
  exact this ss hv
theorem fit_call {A : Option Addr} {n c i wd : Nat} {ss : List ByteArray} {W0 : World} {p : List UInt8 × Int} (hL : LaidErr W0) (hn : n = ss.length) (h6 : ss.length ≤ 6) (hv : AllOk ss) (hx : Cells W0 A (ss.map Value.string)) (hi : i < ss.length) (hp : fitG ss i (wd + 1) = p) (W : World) (hW : Below W0.heap.size W0 W) :
    Calls Tryz.prog 46 #[.slice A n c, .int .i64 i, .int .i64 ((wd : Int) + 1)] W fun e w' => e = .returned (.tuple #[.string ⟨p.1.toArray⟩, .int .i64 p.2]) ∧ Below W.heap.size W w' := by
  subst hp
  have q := pFit_any A n c ss (i : Int) ((wd : Int) + 1) W (hL.below hW) hn (hx.below hW)
  have e := fit_eq ss i (wd + 1) hi (list_ok h6 hv) (by omega)
  rw [show ((wd + 1 : Nat) : Int) = (wd : Int) + 1 from by omega] at e
  rw [e] at q
  exact q
theorem mis_call {A : Option Addr} {n c i : Nat} {ss : List ByteArray} {W0 : World} {a : List UInt8} {A0 : ByteArray} (hL : LaidErr W0) (hn : n = ss.length) (h6 : ss.length ≤ 6) (hv : AllOk ss) (hx : Cells W0 A (ss.map Value.string)) (hi : i < ss.length)
    (hab : abbrB a (Sp.key (at' ss i)) = true) (h1 : 1 ≤ a.length) (h12 : a.length ≤ 12) (hlat : ∀ c, c ∈ a → Sp.latin c = true) (hA : A0.data.toList = a ++ [46]) (W : World) (hW : Below W0.heap.size W0 W) :
    Calls Tryz.prog 55 #[.string A0, .slice A n c, .int .i64 i] W fun e w' => e = .returned (.tuple #[.bool (!fineG (othersK ss i) a), .bool true]) ∧ Below W.heap.size W w' := by
  have hz : A0.size = a.length + 1 := by
    have h : A0.data.toList.length = A0.size := by simp
    rw [← h, hA]; simp
  have q := mistaken_any A n c i ss A0 W (hL.below hW) hn (by omega) hv (hx.below hW) (by omega) (by omega) (by rw [hA]; exact short_of h1 h12 hlat)
  rw [hA, mis_fine ss i hi a hab] at q
  exact q
theorem point_len {a : List UInt8} : ((⟨(a ++ [46]).toArray⟩ : ByteArray).size) = a.length + 1 := by
  show (a ++ [46]).toArray.size = _
  simp
theorem point_ne {a : List UInt8} {K : ByteArray} (h : ∀ c, c ∈ K.data.toList → Sp.latin c = true) : ((⟨(a ++ [46]).toArray⟩ : ByteArray).toList == K.toList) = false := by
  rw [beq_eq_false_iff_ne, ByteArray.toList_eq, ByteArray.toList_eq]
  intro e
  have h1 : (46 : UInt8) ∈ K.data.toList := by rw [← e]; simp
  have := h 46 h1
  exact absurd this (by decide)

set_option maxRecDepth 100000 in
set_option maxHeartbeats 6400000 in
theorem NameColumn_any (A : Option Addr) (n c : Nat) (w : World) (hL : LaidErr w) (hn : n ≤ 1000000000000000000) (hx : NumsIn w A n) :
    Calls Tryz.prog 10 #[.slice A n c] w (TruePost w) := by
  obtain ⟨si, hi, hz0, hz1, hz2⟩ := info_parts infoStr
  have HX := Lib.hid hx
  have HLE := Lib.hid hL
  clear hx hL
  go_enter Tryz.func10, Tryz.ntmps10
  go_wp2_with fail
  refine (NewDice_any A n c _ hn HX.out).mono ?_
  rintro e w2 ⟨rfl, hd2, b3⟩
  generalize hDD : w.heap.size = D at hd2
  have hD : w.heap.size ≤ D := Nat.le_of_eq hDD
  have hD2 := hd2.lt
  clear hDD
  go_wp2_with fail
  refine (NamesOf_any D _ 4 5 _ hd2 (by decide) (by decide) (by decide) (by decide)).mono ?_
  rintro e w4 ⟨o, sa, rfl, hl4, ho4, hlike4, hd4, hg4⟩
  have b5 := b3.grown hg4 b3.size fun k hk => by cases hk; exact hD
  obtain ⟨O, capo, rfl⟩ := own_form ho4
  have HL4 := Lib.hid hlike4
  clear hlike4
  go_wp2_with fail
  refine (NameOf_any D _ 5 _ hd4 (by decide) (by decide)).mono ?_
  rintro e w5 ⟨s4, rfl, hs5, hs5', hl5, hd5, hg5⟩
  have b6 := b5.grown hg5 b5.size fun k hk => by cases hk; exact hD
  have ho5 := own_kept ho4 hg5 hD2
  have hg25 := grownBy_trans hg4 hg5
  have hws : w2.heap.size ≤ w5.heap.size := hg25.size
  have HS5 : Hid (Like s4 5) := Lib.hid ⟨hs5, hs5', hl5⟩
  have hsa : sa.length ≤ 4 := by omega
  clear hl5 hs5 hs5' hd4 hg5 hg4 b5 ho4 hl4
  go_wp2_with (at_builtin; refine wpList_append_own _ rfl _ _ 22 rfl w2.heap.size 9 si (.string ByteArray.empty) 1 16 Tryz.underlying22 hi hz0 hz1 hz2 rfl (by decide) _ _ _ rfl (ho5.alloc _) ⟨w5.heap.size, 0, none⟩ 1 1 [.string s4] rfl rfl (cell_one_new _ _ _) (by simp [Value.oneCell']) (by unfold maxLen; omega) (by omega) (by simp; omega) ?_; intro v' w6 ho6 hg6 _; obtain ⟨G6, cap6, rfl⟩ := own_head ho6)
  obtain ⟨hd6, hg26⟩ := own_append2 (w := w2) (wl := w5) (ho5.alloc _) hD2 hg25 hd5 ((Below.refl _ _).alloc (Nat.le_refl _) _) hg6
  have b7 := b3.grown hg26 b3.size fun k hk => by cases hk; exact hD
  have e6 : (sa.map Value.string ++ [Value.string s4]) = (sa ++ [s4]).map Value.string := by simp
  rw [e6] at ho6
  have hLn : (sa ++ [s4]).length = sa.length + 1 := by simp
  have HLn := Lib.hid hLn
  have HM : Hid (∀ i (h : i < (sa ++ [s4]).length), Made6 (sa ++ [s4])[i]) := Lib.hid fun i h => by
    have hm : (sa ++ [s4])[i] ∈ sa ++ [s4] := List.getElem_mem h
    rw [List.mem_append, List.mem_singleton] at hm
    have hk : Like (sa ++ [s4])[i] 5 := by
      rcases hm with hm | hm
      · exact HL4.out _ hm
      · rw [hm]; exact HS5.out
    exact ⟨hk.1, by have := hk.2.1; omega, hk.2.2⟩
  generalize sa ++ [s4] = L at *
  clear ho5 hg25 b6 hd5 hws HL4 HS5 e6 hLn hg6 hd2 b3 hg26
  have hsl : (sa.length : Int) ≤ 1000 := by omega
  refine (To_any D _ (sa.length : Nat) _ hd6 (by omega)).mono ?_
  rintro e w7 ⟨x1, rfl, x0, x1', x2', hd7, hg7⟩
  obtain ⟨at_, rfl, hat⟩ : ∃ k : Nat, x1 = (k : Int) ∧ k ≤ sa.length := by
    refine ⟨x1.toNat, by omega, ?_⟩
    by_cases h : 1 ≤ sa.length
    · have := x1' (by omega); omega
    · have := x2' (by omega); omega
  have ho7 := own_kept ho6 hg7 hD2
  have b8 := b7.grown hg7 b7.size fun k hk => by cases hk; exact hD
  clear x0 x1' x2' hd6 hg7 b7 ho6 hd7
  generalize hNN : sa.length + 1 = N at *
  have hN6 : N ≤ 6 := by omega
  have hatN : at_ < N := by omega
  have CL := Lib.hid (cells_own ho7)
  have LE := Lib.hid (HLE.out.below b8)
  have hal : at_ < L.length := by rw [HLn.out]; exact hatN
  have HV := Lib.hid (made_all HM.out)
  obtain ⟨q1, q2, hv, c1⟩ := CL.out.str at_ hal
  injection hv with hv
  injection hv with hv1 hv2
  subst hv1 hv2
  rw [Nat.zero_add] at c1
  have hck := made_check (HM.out at_ hal)
  have QK := Lib.hid (refKey_call hck)
  have HKL := Lib.hid (key_latin hck)
  have hk12 := (keyS_key12 hck).2
  have hk1 : 1 ≤ (keyS L[at_]).size := (keyS_key12 hck).1
  have eK : Sp.key (at' L at_) = (keyS L[at_]).data.toList := by rw [at_get L at_ hal]; rfl
  have hkz : (keyS L[at_]).data.toList.length = (keyS L[at_]).size := by simp
  have hcol := fun k => col_step L at_ k
  have QF := Lib.hid (fun wd p (hp : fitG L at_ (wd + 1) = p) => fit_call (c := cap6) LE.out HLn.out.symm (by rw [HLn.out]; exact hN6) HV.out CL.out hal hp)
  have QM := Lib.hid (fun a A0 hab h1 h12 hlat hA => mis_call (c := cap6) (a := a) (A0 := A0) LE.out HLn.out.symm (by rw [HLn.out]; exact hN6) HV.out CL.out hal hab h1 h12 hlat hA)
  have QS := Lib.hid (fun p (hp : shortestG L at_ = p) => shortest_call (c := cap6) HLn.out.symm hN6 HV.out CL.out hal hp)
  have hsc : shortestG L at_ = ([], 11) ∨ ∃ a, shortestG L at_ = (a, 0) := by
    unfold shortestG
    rcases firstG_code (othersK L at_) ((List.range ((Sp.key (at' L at_)).length - 1)).map fun m => cutsG (Sp.key (at' L at_)) (m + 1)) with ⟨h, _⟩ | ⟨a, h, _⟩
    · exact .inl h
    · exact .inr ⟨_, h⟩
  have hset0 : setW L at_ 0 = 0 := by
    unfold setW
    rw [eK, hkz, if_neg (by omega)]
    rfl
  rw [eK] at hcol QM
  rw [hkz] at hcol
  have HCOL := Lib.hid hcol
  generalize keyS L[at_] = KY at *
  generalize L[at_] = Y at *
  have i1 : (0 : Int) ≤ (at_ : Int) := by omega
  have i2 : (at_ : Int) < (N : Int) := by omega
  generalize hWW : w7 = W0 at *
  have hw0s := b8.size
  clear hWW ho7 hcol eK hkz hck
  obtain ⟨F, SS, hF, hSS, hsg⟩ : ∃ F SS, (F = 0 ∨ F = 11) ∧ shortestG L at_ = (SS, F) ∧ (F = 0 → ∀ k b, (∀ b', shortestG L at_ = (b', 0) → k < b'.length) → b = SS.length → k < b) := by
    rcases hsc with h | ⟨a, h⟩
    · exact ⟨11, [], .inr rfl, h, fun h => by cases h⟩
    · exact ⟨0, a, .inl rfl, h, fun _ k b hb e => by rw [e]; exact hb _ h⟩
  have R1 := Lib.hid (QS.out _ hSS)
  have HSG := Lib.hid hsg
  clear QS hsc hSS hsg
  dsimp only at R1
  have hSz : (⟨SS.toArray⟩ : ByteArray).size = SS.length := by show SS.toArray.size = _; simp
  generalize (⟨SS.toArray⟩ : ByteArray) = SB at *
  generalize SS.length = SL at *
  go_wp2_with fail
  refine (QK.out _).mono ?_
  rintro e v1 ⟨rfl, hb1⟩
  go_wp2_with fail
  refine (R1.out _ hb1).mono ?_
  rintro e v2 ⟨rfl, hb2⟩
  have t0 := hb1.trans (hb2.mono hb1.size)
  clear hb1 hb2 QK R1 c1
  rcases hF with rfl | rfl
  all_goals
    go_wp2_with fail
    go_loopw [10, 11, 12, 13, 14, 15, 16] (fun bv iv _ _ _ _ _ wr => ∃ k : Nat, k ≤ 12 ∧ iv = .int .i64 ((k : Int) + 1) ∧ bv = .int .i64 (setW L at_ k : Nat) ∧ Below W0.heap.size W0 wr) (fun _ iv _ _ _ _ _ _ => 14 - (intOf iv).toNat)
    case atStart => exact ⟨0, by omega, rfl, by rw [hset0]; rfl, t0⟩
    case round =>
      obtain ⟨k, hk, rfl, rfl, t1⟩ := hrel
      clear t0 hset0
      by_cases hkl : k < 12
      · have j1 : (k : Int) + 1 ≤ 12 := by omega
        rcases HCOL.out k with ⟨h1, h2, h3, h4, h5⟩ | ⟨h1, h2, h3, h4⟩ | ⟨a, h1, h2, h3, h4, h5, h6, h7, h8, h9⟩
        · have RF := Lib.hid (QF.out k _ h1 _ t1)
          have z1 : ¬ ((KY.size : Int) ≤ (k : Int) + 1) := by omega
          try (have z2 : ¬ ((SB.size : Int) ≤ (k : Int) + 1) := (by have := HSG.out (by first | trivial | rfl) (k + 1) _ (fun b' hb => h4 b' hb) rfl; omega))
          have H5 := Lib.hid h5
          have Z1 := Lib.hid z1
          try (have Z2 := Lib.hid z2)
          rw [h2]
          clear h1 h2 h3 h4 h5
          go_wp2_with fail
          refine RF.out.mono ?_
          rintro e w1 ⟨rfl, hb1⟩
          have t2 := t1.trans (hb1.mono t1.size)
          go_wp2_with fail
          all_goals first
            | (exfalso; have y1 := Z1.out; have y2 := Z2.out; omega)
            | exact ⟨⟨k + 1, by omega, by go_num, by rw [H5.out]; rfl, t2⟩, by simp [intOf]; omega⟩
        · have RF := QF.out k _ h1 _ t1
          have eKY : (⟨KY.data.toList.toArray⟩ : ByteArray) = KY := by simp
          dsimp only at RF
          rw [eKY] at RF
          have RF := Lib.hid RF
          have z1 : ((KY.size : Int) == 0) = false := by rw [beq_eq_false_iff_ne]; omega
          have z2 : ¬ ((k : Int) + 1 < (KY.size : Int)) := by omega
          have z3 : ¬ ((KY.size : Int) < (setW L at_ k : Int)) := by omega
          have H4 := Lib.hid h4
          generalize setW L at_ k = B at *
          clear h1 h2 h3 h4 eKY
          go_wp2_with fail
          refine RF.out.mono ?_
          rintro e w1 ⟨rfl, hb1⟩
          have t2 := t1.trans (hb1.mono t1.size)
          go_wp2_with fail
          go_roundw
          case rel => exact ⟨k + 1, by omega, by go_num, by rw [H4.out], t2⟩
          case measure => simp [intOf]; omega
        · have RF := QF.out k _ h1 _ t1
          dsimp only at RF
          have a12 : a.length ≤ 12 := by omega
          have QMM := QM.out a ⟨(a ++ [46]).toArray⟩ h7 h3 a12 (fun c hc => HKL.out c (h9 c hc)) rfl
          rw [h8, Bool.not_true] at QMM
          have hSz2 := point_len (a := a)
          have hne := point_ne (a := a) HKL.out
          generalize (⟨(a ++ [46]).toArray⟩ : ByteArray) = S at *
          have RF := Lib.hid RF
          have QMM := Lib.hid QMM
          have z1 : ((S.size : Int) == 0) = false := by rw [beq_eq_false_iff_ne]; omega
          have z2 : ¬ ((k : Int) + 1 < (S.size : Int)) := by omega
          have z3 : IntKind.i64.wrap ((S.size : Int) - 1) = (a.length : Int) := by
            rw [show (S.size : Int) - 1 = (a.length : Int) from by omega]
            exact IntWalk.i64_in _ (by omega)
          have z4 : ¬ ((a.length : Int) < (setW L at_ k : Int)) := by omega
          have z5 : ¬ ((KY.size : Int) ≤ (k : Int) + 1) := by omega
          have H6 := Lib.hid h6
          generalize setW L at_ k = B at *
          generalize a.length = AL at *
          clear h1 h2 h3 h4 h5 h6 h7 h8 h9 hSz2 a12
          go_wp2_with fail
          refine RF.out.mono ?_
          rintro e w1 ⟨rfl, hb1⟩
          have t2 := t1.trans (hb1.mono t1.size)
          go_wp2_with fail
          refine (QMM.out _ t2).mono ?_
          rintro e w3 ⟨rfl, hb3⟩
          have t3 := t2.trans (hb3.mono t2.size)
          go_wp2_with fail
          go_roundw
          case rel => exact ⟨k + 1, by omega, by go_num, by rw [H6.out], t3⟩
          case measure => simp [intOf]; omega
      · have j1 : ¬ ((k : Int) + 1 ≤ 12) := by omega
        clear HCOL QF QM
        go_wp2_with fail
        refine (spelling_at _ (b8.trans (t1.mono b8.size))).mono ?_
        rintro e wz ⟨rfl, hbz⟩
        go_wp2
        go_ret
        exact ⟨rfl, hbz⟩
end Go.Proofs.YtlhiekeolmgilaaGreatDoor
