/- No abbreviation with fewer letters, or as many that comes before, is unmistaken: the walk. -/
import Derived.Test.YtlhiekeolmgilaaGreatDoorLawM
import Derived.Test.YtlhiekeolmgilaaGreatDoorLawP0
namespace Go.Proofs.YtlhiekeolmgilaaGreatDoor
open Go.RowKit

theorem point_app (Y : ByteArray) : (Y ++ ⟨#[46]⟩ : ByteArray).data.toList = Y.data.toList ++ [46] := by
  rw [ByteArray.data_append, Array.toList_append]
theorem point_eq (Y : ByteArray) : (⟨(Y.data.toList ++ [46]).toArray⟩ : ByteArray) = Y ++ ⟨#[46]⟩ := bz_inj (by rw [point_app])
theorem up_zero (q : List UInt8 → Bool) (k : List UInt8) (m : Nat) : findUp q k 0 m = none := rfl
theorem up_some {q : List UInt8 → Bool} {k a : List UInt8} {f m : Nat} (h : (cutsG k (m + 1)).find? q = some a) : findUp q k (f + 1) m = some a := by
  unfold findUp; rw [h]
theorem up_none {q : List UInt8 → Bool} {k : List UInt8} {f m : Nat} (h : (cutsG k (m + 1)).find? q = none) : findUp q k (f + 1) m = findUp q k f (m + 1) := by
  rw [findUp, h]
theorem shortest_up (ss : List ByteArray) (i : Nat) : shortestG ss i = match findUp (fineG (othersK ss i)) (Sp.key (at' ss i)) ((Sp.key (at' ss i)).length - 1) 0 with | none => ([], 11) | some a => (a ++ [46], 0) := by
  unfold shortestG firstG
  rw [List.range_eq_range', flat_up]
  cases findUp (fineG (othersK ss i)) (Sp.key (at' ss i)) ((Sp.key (at' ss i)).length - 1) 0 <;> rfl

set_option maxRecDepth 100000 in
set_option maxHeartbeats 6400000 in
theorem NameLeast_any (A : Option Addr) (n c : Nat) (w : World) (hL : LaidErr w) (hn : n ≤ 1000000000000000000) (hx : NumsIn w A n) :
    Calls Tryz.prog 9 #[.slice A n c] w (TruePost w) := by
  obtain ⟨si, hi, hz0, hz1, hz2⟩ := info_parts infoStr
  have HX := Lib.hid hx
  have HLE := Lib.hid hL
  clear hx hL
  go_enter Tryz.func9, Tryz.ntmps9
  go_wp2_with fail
  refine (NewDice_any A n c _ hn HX.out).mono ?_
  rintro e w2 ⟨rfl, hd2, b3⟩
  generalize hDD : w.heap.size = D at hd2
  have hD : w.heap.size ≤ D := Nat.le_of_eq hDD
  have hD2 := hd2.lt
  clear hDD
  go_wp2_with fail
  refine (NamesOf_any D _ 4 4 _ hd2 (by decide) (by decide) (by decide) (by decide)).mono ?_
  rintro e w4 ⟨o, sa, rfl, hl4, ho4, hlike4, hd4, hg4⟩
  have b5 := b3.grown hg4 b3.size fun k hk => by cases hk; exact hD
  obtain ⟨O, capo, rfl⟩ := own_form ho4
  have HL4 := Lib.hid hlike4
  clear hlike4
  go_wp2_with fail
  refine (NameOf_any D _ 4 _ hd4 (by decide) (by decide)).mono ?_
  rintro e w5 ⟨s4, rfl, hs5, hs5', hl5, hd5, hg5⟩
  have b6 := b5.grown hg5 b5.size fun k hk => by cases hk; exact hD
  have ho5 := own_kept ho4 hg5 hD2
  have hg25 := grownBy_trans hg4 hg5
  have hws : w2.heap.size ≤ w5.heap.size := hg25.size
  have HS5 : Hid (Like s4 4) := Lib.hid ⟨hs5, hs5', hl5⟩
  have hsa : sa.length ≤ 4 := by omega
  clear hl5 hs5 hs5' hd4 hg5 hg4 b5 ho4 hl4
  go_wp2_with (at_builtin; refine wpList_append_own _ rfl _ _ 22 rfl w2.heap.size 9 si (.string ByteArray.empty) 1 16 Tryz.underlying22 hi hz0 hz1 hz2 rfl (by decide) _ _ _ rfl (ho5.alloc _) ⟨w5.heap.size, 0, none⟩ 1 1 [.string s4] rfl rfl (cell_one_new _ _ _) (by simp [Value.oneCell']) (by unfold maxLen; omega) (by omega) (by simp; omega) ?_; intro v' w6 ho6 hg6 _; obtain ⟨G6, cap6, rfl⟩ := own_head ho6)
  obtain ⟨hd6, hg26⟩ := own_append2 (w := w2) (wl := w5) (ho5.alloc _) hD2 hg25 hd5 ((Below.refl _ _).alloc (Nat.le_refl _) _) hg6
  have b7 := b3.grown hg26 b3.size fun k hk => by cases hk; exact hD
  have e6 : (sa.map Value.string ++ [Value.string s4]) = (sa ++ [s4]).map Value.string := by simp
  rw [e6] at ho6
  have hLn : (sa ++ [s4]).length = sa.length + 1 := by simp
  have HLn := Lib.hid hLn
  have HM : Hid (∀ i (h : i < (sa ++ [s4]).length), Made6 (sa ++ [s4])[i]) := Lib.hid fun i h => by
    have hm : (sa ++ [s4])[i] ∈ sa ++ [s4] := List.getElem_mem h
    rw [List.mem_append, List.mem_singleton] at hm
    have hk : Like (sa ++ [s4])[i] 4 := by
      rcases hm with hm | hm
      · exact HL4.out _ hm
      · rw [hm]; exact HS5.out
    exact ⟨hk.1, by have := hk.2.1; omega, hk.2.2⟩
  generalize sa ++ [s4] = L at *
  clear ho5 hg25 b6 hd5 hws HL4 HS5 e6 hLn hg6 hd2 b3 hg26
  have hsl : (sa.length : Int) ≤ 1000 := by omega
  refine (To_any D _ (sa.length : Nat) _ hd6 (by omega)).mono ?_
  rintro e w7 ⟨x1, rfl, x0, x1', x2', hd7, hg7⟩
  obtain ⟨at_, rfl, hat⟩ : ∃ k : Nat, x1 = (k : Int) ∧ k ≤ sa.length := by
    refine ⟨x1.toNat, by omega, ?_⟩
    by_cases h : 1 ≤ sa.length
    · have := x1' (by omega); omega
    · have := x2' (by omega); omega
  have ho7 := own_kept ho6 hg7 hD2
  have b8 := b7.grown hg7 b7.size fun k hk => by cases hk; exact hD
  clear x0 x1' x2' hd6 hg7 b7 ho6 hd7
  generalize hNN : sa.length + 1 = N at *
  have hN6 : N ≤ 6 := by omega
  have hatN : at_ < N := by omega
  have CL := Lib.hid (cells_own ho7)
  have LE := Lib.hid (HLE.out.below b8)
  have hal : at_ < L.length := by rw [HLn.out]; exact hatN
  have HV := Lib.hid (made_all HM.out)
  obtain ⟨q1, q2, hv, c1⟩ := CL.out.str at_ hal
  injection hv with hv
  injection hv with hv1 hv2
  subst hv1 hv2
  rw [Nat.zero_add] at c1
  have hck := made_check (HM.out at_ hal)
  have QK := Lib.hid (refKey_call hck)
  have HKL := Lib.hid (key_latin hck)
  have hk12 := (keyS_key12 hck).2
  have hk1 : 1 ≤ (keyS L[at_]).size := (keyS_key12 hck).1
  have eK : Sp.key (at' L at_) = (keyS L[at_]).data.toList := by rw [at_get L at_ hal]; rfl
  have hkz : (keyS L[at_]).data.toList.length = (keyS L[at_]).size := by simp
  have QM := (fun a A0 hab h1 h12 hlat hA => mis_call (c := cap6) (a := a) (A0 := A0) LE.out HLn.out.symm (by rw [HLn.out]; exact hN6) HV.out CL.out hal hab h1 h12 hlat hA)
  have QS := Lib.hid (fun p (hp : shortestG L at_ = p) => shortest_call (c := cap6) HLn.out.symm hN6 HV.out CL.out hal hp)
  have hsu := shortest_up L at_
  rw [eK] at QM hsu
  rw [hkz] at hsu
  obtain ⟨q, hq⟩ : ∃ q, fineG (othersK L at_) = q := ⟨_, rfl⟩
  rw [hq] at QM hsu
  have QM := Lib.hid QM
  generalize keyS L[at_] = KY at *
  generalize L[at_] = Y at *
  have i1 : (0 : Int) ≤ (at_ : Int) := by omega
  have i2 : (at_ : Int) < (N : Int) := by omega
  generalize hWW : w7 = W0 at *
  have hw0s := b8.size
  clear hWW ho7 eK hkz hck hq
  obtain ⟨R, hR⟩ : ∃ R, findUp q KY.data.toList (KY.size - 1) 0 = R := ⟨_, rfl⟩
  rw [hR] at hsu
  obtain ⟨F, SB, HF, HN, hR1⟩ : ∃ (F : Int) (SB : ByteArray), Hid (∀ a, R = some a → F = 0 ∧ SB = ⟨(a ++ [46]).toArray⟩) ∧ Hid (R = none → F = 11 ∧ SB = ⟨#[]⟩) ∧ ∀ W, Below W0.heap.size W0 W → Calls Tryz.prog 45 #[.slice (some ⟨G6, 0, none⟩) N cap6, .int .i64 (at_ : Nat)] W fun e w' => e = .returned (.tuple #[.string SB, .int .i64 F]) ∧ Below W.heap.size W w' := by
    cases R with
    | none => exact ⟨11, ⟨#[]⟩, Lib.hid (fun a h => by cases h), Lib.hid (fun _ => ⟨rfl, rfl⟩), fun W hW => QS.out _ hsu W hW⟩
    | some a => exact ⟨0, ⟨(a ++ [46]).toArray⟩, Lib.hid (fun b h => by injection h with h; subst h; exact ⟨rfl, rfl⟩), Lib.hid (fun h => by cases h), fun W hW => QS.out _ hsu W hW⟩
  have R1 := Lib.hid hR1
  have HR0 := Lib.hid hR
  clear QS hsu hR1 hR
  go_wp2_with fail
  refine (R1.out _ (Below.refl _ _)).mono ?_
  rintro e v1 ⟨rfl, hb1⟩
  have c2 := (hb1.cell (World.block_lt_of_cell? _ _ c1)).trans c1
  go_wp2_with fail
  refine (QK.out _).mono ?_
  rintro e v2 ⟨rfl, hb2⟩
  have t0 := hb1.trans (hb2.mono hb1.size)
  clear hb1 hb2 QK R1 c1 c2
  go_wp2_with fail
  go_loopw [10, 11, 12, 13, 14] (fun mv _ _ _ _ wr => ∃ m : Nat, m + 1 ≤ KY.size ∧ mv = .int .i64 ((m : Int) + 1) ∧ Hid (findUp q KY.data.toList (KY.size - 1 - m) m = R) ∧ Below W0.heap.size W0 wr) (fun mv _ _ _ _ _ => 14 - (intOf mv).toNat)
  case atStart => exact ⟨0, hk1, rfl, HR0, t0⟩
  case round =>
    obtain ⟨m, hm, rfl, hup, t1⟩ := hrel
    generalize hWW : wr = W1 at *
    clear t0 HR0 hWW
    by_cases hml : m + 1 < KY.size
    · have j1 : (m : Int) + 1 < (KY.size : Int) := by omega
      obtain ⟨f, hf⟩ : ∃ f, KY.size - 1 - m = f + 1 := ⟨KY.size - 1 - m - 1, by omega⟩
      have hf2 : KY.size - 1 - (m + 1) = f := by omega
      have hup2 := hup.out
      rw [hf] at hup2
      have HUP := Lib.hid hup2
      have HF2 := Lib.hid hf2
      have QA := Lib.hid (fun W => abbreviations_any KY m W hml hk12)
      unfold AbbrsPost at QA
      clear hf hf2 hup2 hup
      go_wp2_with fail
      refine (QA.out _).mono ?_
      rintro e w8 ⟨o, xs, rfl, hox, hris, hmem, hx4, hb8⟩
      obtain ⟨AX, cx, rfl⟩ := own_form hox
      have CX := Lib.hid (cells_own hox)
      have HRIS := Lib.hid hris
      have HMEM := Lib.hid hmem
      have t2 := t1.trans (hb8.mono t1.size)
      clear hox hris hmem hb8 QA
      have hs2 := t2.size
      go_wp2_with fail
      go_loopw [12, 13, 14] (fun jv _ _ wi => ∃ j : Nat, j ≤ xs.length ∧ jv = .int .i64 j ∧ Hid (∀ y, y ∈ xs.take j → q y.data.toList = false) ∧ Below w8.heap.size w8 wi) (fun jv _ _ _ => xs.length - (intOf jv).toNat)
      case atStart => exact ⟨0, Nat.zero_le _, rfl, Lib.hid (fun y hy => by simp at hy), Below.refl _ _⟩
      case round =>
        obtain ⟨j, hj, rfl, hbad, t3⟩ := hrel
        by_cases hjl : j < xs.length
        · obtain ⟨q1, q2, rfl, cj⟩ := (CX.out.below t3).str j hjl
          have hcut := (HMEM.out xs[j]).1 (List.getElem_mem hjl)
          obtain ⟨hab, hal2, hal3, hal4⟩ := cuts_abbr (by omega) hcut
          have qm := QM.out (xs[j]).data.toList (xs[j] ++ ⟨#[46]⟩) hab (by omega) (by omega) (fun c hc => HKL.out c (hal4 c hc)) (point_app _) wr (t2.trans (t3.mono hs2))
          have HFST := Lib.hid (fun hq => rises_first HRIS.out HMEM.out hjl hbad.out hq)
          have hb2 : q (xs[j]).data.toList = false → Hid (∀ y, y ∈ xs.take (j + 1) → q y.data.toList = false) := fun h => Lib.hid fun y hy => by
            rw [List.take_succ_eq_append_getElem hjl] at hy
            rcases List.mem_append.1 hy with hy | hy
            · exact hbad.out y hy
            · rw [List.mem_singleton.1 hy]; exact h
          have hyz : (xs[j]).size = m + 1 := by
            have : (xs[j]).data.toList.length = (xs[j]).size := by simp
            omega
          have hys : (xs[j]).size ≤ 100 := by omega
          have HB2 := Lib.hid hb2
          have QMM := Lib.hid qm
          generalize xs[j] = X at *
          have j2 : (0 : Int) ≤ (j : Int) := by omega
          have j3 : (j : Int) < (xs.length : Int) := by omega
          have j4 : X.size + 1 ≤ 9223372036854775807 := by omega
          have j5 : ¬ (9223372036854775807 < X.size + 1) := by omega
          clear qm hb2 hcut hab hal2 hal3 hal4 hyz hbad
          cases hqx : q X.data.toList with
          | true =>
            have hfst := HFST.out hqx
            have hRa := (up_some (f := f) hfst).symm.trans HUP.out
            obtain ⟨rfl, rfl⟩ := HF.out _ hRa.symm
            rw [point_eq]
            have QM2 := QMM.out
            rw [hqx] at QM2
            have QM3 := Lib.hid (show Calls Tryz.prog 55 #[.string (X ++ ⟨#[46]⟩), .slice (some ⟨G6, 0, none⟩) N cap6, .int .i64 (at_ : Nat)] wr fun e w' => e = .returned (.tuple #[.bool false, .bool true]) ∧ Below wr.heap.size wr w' from QM2)
            clear QMM QM2 HFST hfst hRa hqx HB2 HF HN
            go_wp2_with fail
            refine QM3.out.mono ?_
            rintro e w9 ⟨rfl, hb9⟩
            have t4 := t3.trans (hb9.mono t3.size)
            have cj9 := (hb9.cell (World.block_lt_of_cell? _ _ cj)).trans cj
            go_wp2_with fail
            refine (spelling_at _ (b8.trans ((t2.trans (t4.mono hs2)).mono b8.size))).mono ?_
            rintro e wz ⟨rfl, hbz⟩
            go_wp2
            go_ret
            exact ⟨rfl, hbz⟩
          | false =>
            have hb3 := HB2.out hqx
            have QM2 := QMM.out
            rw [hqx] at QM2
            have QM3 := Lib.hid (show Calls Tryz.prog 55 #[.string (X ++ ⟨#[46]⟩), .slice (some ⟨G6, 0, none⟩) N cap6, .int .i64 (at_ : Nat)] wr fun e w' => e = .returned (.tuple #[.bool true, .bool true]) ∧ Below wr.heap.size wr w' from QM2)
            clear QMM QM2 HFST hqx HB2
            go_wp2_with fail
            refine QM3.out.mono ?_
            rintro e w9 ⟨rfl, hb9⟩
            have t4 := t3.trans (hb9.mono t3.size)
            go_wp2_with fail
            go_roundw
            case rel => exact ⟨j + 1, by omega, by go_num, hb3, t4⟩
            case measure => simp [intOf]; omega
        · have hjx : j = xs.length := by omega
          have hno : Hid (findUp q KY.data.toList (KY.size - 1 - (m + 1)) (m + 1) = R) := Lib.hid (by
            have h1 := hbad.out
            rw [hjx, List.take_length] at h1
            rw [HF2.out, ← HUP.out, up_none (rises_none HMEM.out h1)])
          clear hbad
          go_wp2_with fail
          go_roundw
          case rel => exact ⟨m + 1, by omega, by go_num, hno, t2.trans (t3.mono hs2)⟩
          case measure => simp [intOf]; omega
    · have j1 : ¬ ((m : Int) + 1 < (KY.size : Int)) := by omega
      have hRn : R = none := by
        have h := hup.out
        rw [show KY.size - 1 - m = 0 from by omega, up_zero] at h
        exact h.symm
      obtain ⟨rfl, rfl⟩ := HN.out hRn
      clear HF HN hRn hup
      go_wp2_with fail
      refine (spelling_at _ (b8.trans (t1.mono b8.size))).mono ?_
      rintro e wz ⟨rfl, hbz⟩
      go_wp2
      go_ret
      exact ⟨rfl, hbz⟩
end Go.Proofs.YtlhiekeolmgilaaGreatDoor
