/- What is set in columns; abbreviations that can be mistaken. Nothing of the program's code. -/
import Derived.Test.YtlhiekeolmgilaaGreatDoorSpecX
import Derived.Test.YtlhiekeolmgilaaGreatDoorSpecV
import Derived.Test.YtlhiekeolmgilaaGreatDoorLawL
namespace Go.Proofs.YtlhiekeolmgilaaGreatDoor

/-- Whether an abbreviation that stands for some names of a list can be mistaken for another one than the name at i. -/
def misB (xs : List Int) (ss : List ByteArray) (i : Nat) : Bool := !(xs.any fun x => decide (x = (i : Int))) || xs.any fun x => decide (Sp.key (at' ss x.toNat) ≠ Sp.key (at' ss i))
theorem mis_fine (ss : List ByteArray) (i : Nat) (hi : i < ss.length) (a : List UInt8) (h : abbrB a (Sp.key (at' ss i)) = true) : misB (standsFrom (a ++ [46]) 0 ss) ss i = !fineG (othersK ss i) a := by
  have hm : ∀ x, x ∈ standsFrom (a ++ [46]) 0 ss ↔ ∃ j, ∃ _ : j < ss.length, x = (j : Int) ∧ abbrB a (Sp.key (at' ss j)) = true := fun x => by
    rw [stands_mem]
    constructor
    · rintro ⟨j, hj, e, hb⟩
      refine ⟨j, hj, by rw [e]; omega, ?_⟩
      rw [short_letters] at hb
      rw [at_get ss j hj]; exact hb
    · rintro ⟨j, hj, e, hb⟩
      refine ⟨j, hj, by rw [e]; omega, ?_⟩
      rw [short_letters]
      rw [at_get ss j hj] at hb; exact hb
  have h1 : (standsFrom (a ++ [46]) 0 ss).any (fun x => decide (x = (i : Int))) = true := by
    rw [List.any_eq_true]; exact ⟨(i : Int), (hm _).2 ⟨i, hi, rfl, h⟩, by simp⟩
  unfold misB
  rw [h1, Bool.not_true, Bool.false_or, Bool.eq_iff_iff]
  rw [List.any_eq_true, Bool.not_eq_true', ← Bool.not_eq_true]
  unfold fineG othersK
  rw [List.all_eq_true]
  constructor
  · rintro ⟨x, hx, hne⟩ hall
    obtain ⟨j, hj, rfl, hb⟩ := (hm x).1 hx
    have hne := of_decide_eq_true hne
    rw [Int.toNat_natCast] at hne
    have := hall (Sp.key (at' ss j)) (List.mem_filter.2 ⟨List.mem_map.2 ⟨ss[j], List.getElem_mem hj, by rw [at_get ss j hj]⟩, decide_eq_true hne⟩)
    rw [hb] at this; cases this
  · intro hall
    apply Classical.byContradiction
    intro hno
    refine hall fun o ho => ?_
    obtain ⟨ho1, ho2⟩ := List.mem_filter.1 ho
    obtain ⟨s, hs, rfl⟩ := List.mem_map.1 ho1
    obtain ⟨j, hj, rfl⟩ := List.mem_iff_getElem.1 hs
    cases hb : abbrB a (Sp.key ss[j].data.toList) with
    | false => rfl
    | true =>
      exfalso
      refine hno ⟨(j : Int), (hm _).2 ⟨j, hj, rfl, by rw [at_get ss j hj]; exact hb⟩, decide_eq_true ?_⟩
      rw [Int.toNat_natCast, at_get ss j hj]
      exact of_decide_eq_true ho2

theorem cuts_abbr {k : List UInt8} {n : Nat} (h1 : 1 ≤ n) {x : List UInt8} (hx : x ∈ cutsG k n) : abbrB x k = true ∧ x.length = n ∧ n < k.length ∧ ∀ c, c ∈ x → c ∈ k := by
  cases k with
  | nil => unfold cutsG at hx; simp at hx
  | cons c t =>
    obtain ⟨h2, y, rfl, hy, hs⟩ := (cuts_mem c t n h1 x).1 hx
    have hs2 : (c :: y).Sublist (c :: t) := List.cons_sublist_cons.2 hs
    refine ⟨?_, hy, h2, fun d hd => hs2.subset hd⟩
    unfold abbrB
    simp only [Bool.and_eq_true, decide_eq_true_eq]
    refine ⟨?_, rfl, ?_⟩
    · rw [List.length_cons, hy]; exact h2
    · rw [part_sub]; exact hs2

theorem down_some (q : List UInt8 → Bool) (k : List UInt8) : ∀ n a, findDown q k n = some a → ∃ m, 1 ≤ m ∧ m ≤ n ∧ a ∈ cutsG k m ∧ q a = true
  | 0, a, h => by cases h
  | n + 1, a, h => by
    unfold findDown at h
    cases hf : (cutsG k (n + 1)).find? q with
    | none =>
      rw [hf] at h
      obtain ⟨m, h1, h2, h3⟩ := down_some q k n a h
      exact ⟨m, h1, by omega, h3⟩
    | some b =>
      rw [hf] at h
      injection h with h
      subst h
      exact ⟨n + 1, by omega, by omega, List.mem_of_find?_eq_some hf, by have := List.find?_some hf; exact this⟩
theorem down_none (q : List UInt8 → Bool) (k : List UInt8) : ∀ n, findDown q k n = none → ∀ m, 1 ≤ m → m ≤ n → ∀ a, a ∈ cutsG k m → q a = false
  | 0, _, m, h1, h2, a, ha => by omega
  | n + 1, h, m, h1, h2, a, ha => by
    unfold findDown at h
    cases hf : (cutsG k (n + 1)).find? q with
    | none =>
      rw [hf] at h
      by_cases e : m = n + 1
      · subst e
        have := List.find?_eq_none.1 hf a ha
        simpa using this
      · exact down_none q k n h m h1 (by omega) a ha
    | some b => rw [hf] at h; cases h
theorem down_mono (q : List UInt8 → Bool) (k : List UInt8) (n : Nat) (b : List UInt8) (h : findDown q k n = some b) : ∃ a, findDown q k (n + 1) = some a ∧ b.length ≤ a.length := by
  obtain ⟨m, h1, h2, h3, _⟩ := down_some q k n b h
  have hl := (cuts_abbr h1 h3).2.1
  unfold findDown
  cases hf : (cutsG k (n + 1)).find? q with
  | none => exact ⟨b, h, Nat.le_refl _⟩
  | some a =>
    refine ⟨a, rfl, ?_⟩
    have := (cuts_abbr (by omega) (List.mem_of_find?_eq_some hf)).2.1
    omega

/-- How many letters are set in a column. -/
def setW (ss : List ByteArray) (i w : Nat) : Nat :=
  if (Sp.key (at' ss i)).length ≤ w then (Sp.key (at' ss i)).length
  else match findDown (fineG (othersK ss i)) (Sp.key (at' ss i)) (w - 1) with | none => 0 | some a => a.length

/-- What is set in a column of w + 1 bytes. -/
theorem col_step (ss : List ByteArray) (i w : Nat) :
    (fitG ss i (w + 1) = ([], 11) ∧ setW ss i w = 0 ∧ w + 1 < (Sp.key (at' ss i)).length ∧ (∀ b, shortestG ss i = (b, 0) → w + 1 < b.length) ∧ setW ss i (w + 1) = 0) ∨
    (fitG ss i (w + 1) = (Sp.key (at' ss i), 0) ∧ (Sp.key (at' ss i)).length ≤ w + 1 ∧ setW ss i w ≤ (Sp.key (at' ss i)).length ∧ setW ss i (w + 1) = (Sp.key (at' ss i)).length) ∨
    (∃ a, fitG ss i (w + 1) = (a ++ [46], 0) ∧ w + 1 < (Sp.key (at' ss i)).length ∧ 1 ≤ a.length ∧ a.length ≤ w ∧ setW ss i w ≤ a.length ∧ setW ss i (w + 1) = a.length ∧ abbrB a (Sp.key (at' ss i)) = true ∧ fineG (othersK ss i) a = true ∧ ∀ c, c ∈ a → c ∈ Sp.key (at' ss i)) := by
  have e1 : fitG ss i (w + 1) = if (Sp.key (at' ss i)).length ≤ w + 1 then (Sp.key (at' ss i), 0) else firstG (othersK ss i) ((List.range w).map fun m => cutsG (Sp.key (at' ss i)) (w - m)) := rfl
  have e2 : shortestG ss i = firstG (othersK ss i) ((List.range ((Sp.key (at' ss i)).length - 1)).map fun m => cutsG (Sp.key (at' ss i)) (m + 1)) := rfl
  generalize hk : Sp.key (at' ss i) = k at *
  generalize ho : othersK ss i = o at *
  have s0 : setW ss i w = if k.length ≤ w then k.length else match findDown (fineG o) k (w - 1) with | none => 0 | some a => a.length := by unfold setW; rw [hk, ho]
  have s1 : setW ss i (w + 1) = if k.length ≤ w + 1 then k.length else match findDown (fineG o) k w with | none => 0 | some a => a.length := by unfold setW; rw [hk, ho]; rfl
  by_cases hw : k.length ≤ w + 1
  · rw [if_pos hw] at e1 s1
    refine .inr (.inl ⟨e1, hw, ?_, s1⟩)
    rw [s0]
    split
    · exact Nat.le_refl _
    · cases hd : findDown (fineG o) k (w - 1) with
      | none => exact Nat.zero_le _
      | some b =>
        obtain ⟨m, h1, _, h3, _⟩ := down_some _ _ _ _ hd
        have := cuts_abbr h1 h3
        show b.length ≤ k.length
        omega
  · rw [if_neg hw] at e1 s1
    rw [if_neg (by omega)] at s0
    rcases firstG_code o ((List.range w).map fun m => cutsG k (w - m)) with ⟨h1, h2⟩ | ⟨a, h1, h2⟩
    · rw [flat_down] at h2
      refine .inl ⟨by rw [e1, h1], ?_, by omega, fun b hb => ?_, by rw [s1, h2]⟩
      · rw [s0]
        cases hd : findDown (fineG o) k (w - 1) with
        | none => rfl
        | some b =>
          exfalso
          cases w with
          | zero => cases hd
          | succ v =>
            obtain ⟨a, h3, _⟩ := down_mono _ _ _ _ hd
            have h4 : findDown (fineG o) k (v + 1) = some a := h3
            rw [h2] at h4; cases h4
      · rcases firstG_code o ((List.range (k.length - 1)).map fun m => cutsG k (m + 1)) with ⟨h3, _⟩ | ⟨a, h3, h4⟩
        · rw [e2, h3] at hb; cases hb
        · rw [e2, h3] at hb
          injection hb with hb _
          subst hb
          have hq := List.find?_some h4
          have hm := List.mem_of_find?_eq_some h4
          rw [List.mem_flatten] at hm
          obtain ⟨l, hl, hal⟩ := hm
          obtain ⟨m, hm, rfl⟩ := List.mem_map.1 hl
          have hc := cuts_abbr (by omega) hal
          by_cases hle : m + 1 ≤ w
          · have := down_none _ _ _ h2 (m + 1) (by omega) hle a hal
            rw [this] at hq; cases hq
          · rw [List.length_append, hc.2.1]
            show w + 1 < m + 1 + 1
            omega
    · rw [flat_down] at h2
      obtain ⟨m, h3, h4, h5, h6⟩ := down_some _ _ _ _ h2
      have hc := cuts_abbr h3 h5
      refine .inr (.inr ⟨a, by rw [e1, h1], by omega, by omega, by omega, ?_, ?_, hc.1, h6, hc.2.2.2⟩)
      · rw [s0]
        cases hd : findDown (fineG o) k (w - 1) with
        | none => exact Nat.zero_le _
        | some b =>
          cases w with
          | zero => cases hd
          | succ v =>
            obtain ⟨a', h7, h8⟩ := down_mono _ _ _ _ hd
            have h9 : findDown (fineG o) k (v + 1) = some a' := h7
            rw [h2] at h9
            injection h9 with h9
            subst h9
            exact h8
      · rw [s1, h2]
end Go.Proofs.YtlhiekeolmgilaaGreatDoor

/- Abbreviations that can be mistaken, as the laws ask. -/
namespace Go.Proofs.YtlhiekeolmgilaaGreatDoor
open Go.RowKit

theorem any_take' {α : Type} (p : α → Bool) (l : List α) (k : Nat) (hk : k < l.length) : (l.take (k + 1)).any p = ((l.take k).any p || p l[k]) := by
  rw [List.take_succ_eq_append_getElem hk, List.any_append]; simp

def BoolsPost (b : Bool) (w : World) (e : Ending) (w' : World) : Prop := e = .returned (.tuple #[.bool b, .bool true]) ∧ Below w.heap.size w w'

set_option maxRecDepth 100000 in
set_option maxHeartbeats 3200000 in
theorem mistaken_any (A : Option Addr) (n c i : Nat) (ss : List ByteArray) (a : ByteArray) (w : World) (hL : LaidErr w) (hn : n = ss.length) (h6 : n ≤ 6) (hv : AllOk ss) (hx : Cells w A (ss.map Value.string)) (hi : i < n) (ha : a.size ≤ 2000) (hs : shortErr a.data.toList = 0) :
    Calls Tryz.prog 55 #[.string a, .slice A n c, .int .i64 i] w (BoolsPost (misB (standsFrom a.data.toList 0 ss) ss i) w) := by
  have hiL : i < ss.length := by rw [← hn]; exact hi
  have QS := Lib.hid (stands_call (c := c) hL hn (by omega) hv hx ha hs w (Below.refl _ _))
  obtain ⟨b1, o1, rfl, c1⟩ := hx.str i hiL
  have hxl : (standsFrom a.data.toList 0 ss).length ≤ n := by rw [hn]; exact stands_len _ _ _
  have HXM : Hid (∀ x, x ∈ standsFrom a.data.toList 0 ss → ∃ q, ∃ _ : q < ss.length, x = (q : Int)) := Lib.hid fun x hx => by
    obtain ⟨q, hq, e, _⟩ := (stands_mem _ _ _ _).1 hx
    exact ⟨q, hq, by rw [e]; omega⟩
  unfold misB
  generalize standsFrom a.data.toList 0 ss = X at *
  have HX := Lib.hid hx
  have HV := Lib.hid hv
  have HN := Lib.hid hn
  have QO := Lib.hid (key_call ss[i] (hv _ (List.getElem_mem hiL)))
  have HOT : Hid (∀ q, ∀ hq : q < ss.length, decide (Sp.key (at' ss (q : Int).toNat) ≠ Sp.key (at' ss i)) = !((keyS ss[q]).toList == (keyS ss[i]).toList)) := Lib.hid fun q hq => by
    rw [Int.toNat_natCast, at_get ss q hq, at_get ss i hiL]
    have e : ((keyS ss[q]).toList == (keyS ss[i]).toList) = decide (Sp.key ss[q].data.toList = Sp.key ss[i].data.toList) := by
      rw [Bool.eq_iff_iff, beq_iff_eq, ByteArray.toList_eq, ByteArray.toList_eq, decide_eq_true_eq]
      exact Iff.rfl
    rw [e]
    by_cases h : Sp.key ss[q].data.toList = Sp.key ss[i].data.toList <;> simp [h]
  have i0 : (0 : Int) ≤ (i : Int) := by omega
  have i1 : (i : Int) < (n : Int) := by omega
  generalize ss[i] = Y at *
  generalize keyS Y = KY at *
  unfold BoolsPost
  clear hL hx hv hn hs
  go_enter Tryz.func55, Tryz.ntmps55
  go_wp2_with fail
  refine QS.out.mono ?_
  rintro e w1 ⟨oa, rfl, hoa, hb1⟩
  obtain ⟨AX, cx, rfl⟩ := own_form hoa
  have CX := Lib.hid (cells_own hoa)
  have CL := Lib.hid (HX.out.below hb1)
  have d1 := (hb1.cell (World.block_lt_of_cell? _ _ c1)).trans c1
  have hxb : decide ((X.length : Int) > (n : Int)) = false := decide_eq_false (by omega)
  clear QS hoa c1 HX
  go_wp2_with fail
  refine (QO.out _).mono ?_
  rintro e w2 ⟨rfl, hb2⟩
  have hb := hb1.trans (hb2.mono hb1.size)
  have CX2 := Lib.hid (CX.out.below hb2)
  have CL2 := Lib.hid (CL.out.below hb2)
  clear CX CL d1 hb1 hb2 QO
  go_wp2_with fail
  go_loopw [12, 13, 14, 15, 16] (fun m o iv _ _ wr => ∃ (k : Nat) (mb ob : Bool), k ≤ X.length ∧ iv = .int .i64 k ∧ m = .bool mb ∧ o = .bool ob ∧ Hid (mb = (X.take k).any fun x => decide (x = (i : Int))) ∧ Hid (ob = (X.take k).any fun x => decide (Sp.key (at' ss x.toNat) ≠ Sp.key (at' ss i))) ∧ Below w2.heap.size w2 wr) (fun _ _ iv _ _ _ => X.length - (intOf iv).toNat)
  case atStart => exact ⟨0, false, false, Nat.zero_le _, rfl, rfl, rfl, Lib.hid (by simp), Lib.hid (by simp), Below.refl _ _⟩
  case round =>
    obtain ⟨k, mb, ob, hk, rfl, rfl, rfl, hm, ho, t0⟩ := hrel
    by_cases hkl : k < X.length
    · have am := any_take' (fun x => decide (x = (i : Int))) X k hkl
      have ao := any_take' (fun x => decide (Sp.key (at' ss x.toNat) ≠ Sp.key (at' ss i))) X k hkl
      rw [← hm.out] at am
      rw [← ho.out] at ao
      obtain ⟨q, hq, eq⟩ := HXM.out X[k] (List.getElem_mem hkl)
      obtain ⟨bx, ox, rfl, cxk⟩ := ints_at (CX2.out.below t0) k hkl
      have hot := HOT.out q hq
      rw [eq] at cxk am ao
      obtain ⟨q1, q2, hv, lq⟩ := (CL2.out.below t0).str q hq
      injection hv with hv
      injection hv with hv1 hv2
      subst hv1 hv2
      have QK := Lib.hid (key_call ss[q] (HV.out _ (List.getElem_mem hq)))
      have hqn : q < n := by rw [HN.out]; exact hq
      rw [hot] at ao
      clear eq hot
      generalize ss[q] = Z at *
      generalize keyS Z = KZ at *
      have j1 : (0 : Int) ≤ (k : Int) := by omega
      have j2 : (k : Int) < (X.length : Int) := by omega
      have j3 : (0 : Int) ≤ (q : Int) := by omega
      have j4 : (q : Int) < (n : Int) := by omega
      have AM := Lib.hid am
      have AO := Lib.hid ao
      clear am ao hm ho
      have he1 : ((q : Int) == (i : Int)) = decide ((q : Int) = (i : Int)) := rfl
      generalize decide ((q : Int) = (i : Int)) = b1 at *
      have he2 : (KZ.toList == KY.toList) = (KZ.toList == KY.toList) := rfl
      generalize hb2e : (KZ.toList == KY.toList) = b2 at *
      clear he2
      go_wp2_with fail
      refine (QK.out _).mono ?_
      rintro e w3 ⟨rfl, hb3⟩
      have t1 := t0.trans (hb3.mono t0.size)
      have cxk3 := (hb3.cell (World.block_lt_of_cell? _ _ cxk)).trans cxk
      clear cxk lq t0 QK hb3
      cases mb <;> cases ob <;> cases b1 <;> cases b2
      all_goals
        go_wp2_with fail
        go_roundw
        case rel => exact ⟨k + 1, _, _, by omega, by go_num, rfl, rfl, Lib.hid AM.out.symm, Lib.hid AO.out.symm, t1⟩
        case measure => simp [intOf]; omega
    · have ek : k = X.length := by omega
      subst ek
      rw [List.take_length] at hm ho
      clear HXM HOT
      cases mb <;> cases ob
      all_goals
        go_wp2_with fail
        go_ret2
        exact ⟨ret_two (bool_val (by rw [← hm.out, ← ho.out]; rfl)) rfl, hb.trans (t0.mono hb.size)⟩
end Go.Proofs.YtlhiekeolmgilaaGreatDoor
