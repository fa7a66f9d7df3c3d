/- Abbreviations that can be mistaken, as the laws ask. -/
import Derived.Test.YtlhiekeolmgilaaGreatDoorLawL
import Derived.Test.YtlhiekeolmgilaaGreatDoorSpecC
namespace Go.Proofs.YtlhiekeolmgilaaGreatDoor
open Go.RowKit

theorem any_take' {α : Type} (p : α → Bool) (l : List α) (k : Nat) (hk : k < l.length) : (l.take (k + 1)).any p = ((l.take k).any p || p l[k]) := by
  rw [List.take_succ_eq_append_getElem hk, List.any_append]; simp

def BoolsPost (b : Bool) (w : World) (e : Ending) (w' : World) : Prop := e = .returned (.tuple #[.bool b, .bool true]) ∧ Below w.heap.size w w'

set_option maxRecDepth 100000 in
set_option maxHeartbeats 3200000 in
theorem mistaken_any (A : Option Addr) (n c i : Nat) (ss : List ByteArray) (a : ByteArray) (w : World) (hL : LaidErr w) (hn : n = ss.length) (h6 : n ≤ 6) (hv : AllOk ss) (hx : Cells w A (ss.map Value.string)) (hi : i < n) (ha : a.size ≤ 2000) (hs : shortErr a.data.toList = 0) :
    Calls Tryz.prog 55 #[.string a, .slice A n c, .int .i64 i] w (BoolsPost (misB (standsFrom a.data.toList 0 ss) ss i) w) := by
  have hiL : i < ss.length := by rw [← hn]; exact hi
  have QS := Lib.hid (stands_call (c := c) hL hn (by omega) hv hx ha hs w (Below.refl _ _))
  obtain ⟨b1, o1, rfl, c1⟩ := hx.str i hiL
  have hxl : (standsFrom a.data.toList 0 ss).length ≤ n := by rw [hn]; exact stands_len _ _ _
  have HXM : Hid (∀ x, x ∈ standsFrom a.data.toList 0 ss → ∃ q, ∃ _ : q < ss.length, x = (q : Int)) := Lib.hid fun x hx => by
    obtain ⟨q, hq, e, _⟩ := (stands_mem _ _ _ _).1 hx
    exact ⟨q, hq, by rw [e]; omega⟩
  unfold misB
  generalize standsFrom a.data.toList 0 ss = X at *
  have HX := Lib.hid hx
  have HV := Lib.hid hv
  have HN := Lib.hid hn
  have QO := Lib.hid (key_call ss[i] (hv _ (List.getElem_mem hiL)))
  have HOT : Hid (∀ q, ∀ hq : q < ss.length, decide (Sp.key (at' ss (q : Int).toNat) ≠ Sp.key (at' ss i)) = !((keyS ss[q]).toList == (keyS ss[i]).toList)) := Lib.hid fun q hq => by
    rw [Int.toNat_natCast, at_get ss q hq, at_get ss i hiL]
    have e : ((keyS ss[q]).toList == (keyS ss[i]).toList) = decide (Sp.key ss[q].data.toList = Sp.key ss[i].data.toList) := by
      rw [Bool.eq_iff_iff, beq_iff_eq, ByteArray.toList_eq, ByteArray.toList_eq, decide_eq_true_eq]
      exact Iff.rfl
    rw [e]
    by_cases h : Sp.key ss[q].data.toList = Sp.key ss[i].data.toList <;> simp [h]
  have i0 : (0 : Int) ≤ (i : Int) := by omega
  have i1 : (i : Int) < (n : Int) := by omega
  generalize ss[i] = Y at *
  generalize keyS Y = KY at *
  unfold BoolsPost
  clear hL hx hv hn hs
  go_enter Tryz.func55, Tryz.ntmps55
  go_wp2_with fail
  refine QS.out.mono ?_
  rintro e w1 ⟨oa, rfl, hoa, hb1⟩
  obtain ⟨AX, cx, rfl⟩ := own_form hoa
  have CX := Lib.hid (cells_own hoa)
  have CL := Lib.hid (HX.out.below hb1)
  have d1 := (hb1.cell (World.block_lt_of_cell? _ _ c1)).trans c1
  have hxb : decide ((X.length : Int) > (n : Int)) = false := decide_eq_false (by omega)
  clear QS hoa c1 HX
  go_wp2_with fail
  refine (QO.out _).mono ?_
  rintro e w2 ⟨rfl, hb2⟩
  have hb := hb1.trans (hb2.mono hb1.size)
  have CX2 := Lib.hid (CX.out.below hb2)
  have CL2 := Lib.hid (CL.out.below hb2)
  clear CX CL d1 hb1 hb2 QO
  go_wp2_with fail
  go_loopw [12, 13, 14, 15, 16] (fun m o iv _ _ wr => ∃ (k : Nat) (mb ob : Bool), k ≤ X.length ∧ iv = .int .i64 k ∧ m = .bool mb ∧ o = .bool ob ∧ Hid (mb = (X.take k).any fun x => decide (x = (i : Int))) ∧ Hid (ob = (X.take k).any fun x => decide (Sp.key (at' ss x.toNat) ≠ Sp.key (at' ss i))) ∧ Below w2.heap.size w2 wr) (fun _ _ iv _ _ _ => X.length - (intOf iv).toNat)
  case atStart => exact ⟨0, false, false, Nat.zero_le _, rfl, rfl, rfl, Lib.hid (by simp), Lib.hid (by simp), Below.refl _ _⟩
  case round =>
    obtain ⟨k, mb, ob, hk, rfl, rfl, rfl, hm, ho, t0⟩ := hrel
    by_cases hkl : k < X.length
    · have am := any_take' (fun x => decide (x = (i : Int))) X k hkl
      have ao := any_take' (fun x => decide (Sp.key (at' ss x.toNat) ≠ Sp.key (at' ss i))) X k hkl
      rw [← hm.out] at am
      rw [← ho.out] at ao
      obtain ⟨q, hq, eq⟩ := HXM.out X[k] (List.getElem_mem hkl)
      obtain ⟨bx, ox, rfl, cxk⟩ := ints_at (CX2.out.below t0) k hkl
      have hot := HOT.out q hq
      rw [eq] at cxk am ao
      obtain ⟨q1, q2, hv, lq⟩ := (CL2.out.below t0).str q hq
      injection hv with hv
      injection hv with hv1 hv2
      subst hv1 hv2
      have QK := Lib.hid (key_call ss[q] (HV.out _ (List.getElem_mem hq)))
      have hqn : q < n := by rw [HN.out]; exact hq
      rw [hot] at ao
      clear eq hot
      generalize ss[q] = Z at *
      generalize keyS Z = KZ at *
      have j1 : (0 : Int) ≤ (k : Int) := by omega
      have j2 : (k : Int) < (X.length : Int) := by omega
      have j3 : (0 : Int) ≤ (q : Int) := by omega
      have j4 : (q : Int) < (n : Int) := by omega
      have AM := Lib.hid am
      have AO := Lib.hid ao
      clear am ao hm ho
      have he1 : ((q : Int) == (i : Int)) = decide ((q : Int) = (i : Int)) := rfl
      generalize decide ((q : Int) = (i : Int)) = b1 at *
      have he2 : (KZ.toList == KY.toList) = (KZ.toList == KY.toList) := rfl
      generalize hb2e : (KZ.toList == KY.toList) = b2 at *
      clear he2
      go_wp2_with fail
      refine (QK.out _).mono ?_
      rintro e w3 ⟨rfl, hb3⟩
      have t1 := t0.trans (hb3.mono t0.size)
      have cxk3 := (hb3.cell (World.block_lt_of_cell? _ _ cxk)).trans cxk
      clear cxk lq t0 QK hb3
      cases mb <;> cases ob <;> cases b1 <;> cases b2
      all_goals
        go_wp2_with fail
        go_roundw
        case rel => exact ⟨k + 1, _, _, by omega, by go_num, rfl, rfl, Lib.hid AM.out.symm, Lib.hid AO.out.symm, t1⟩
        case measure => simp [intOf]; omega
    · have ek : k = X.length := by omega
      subst ek
      rw [List.take_length] at hm ho
      clear HXM HOT
      cases mb <;> cases ob
      all_goals
        go_wp2_with fail
        go_ret2
        exact ⟨ret_two (bool_val (by rw [← hm.out, ← ho.out]; rfl)) rfl, hb.trans (t0.mono hb.size)⟩
end Go.Proofs.YtlhiekeolmgilaaGreatDoor
