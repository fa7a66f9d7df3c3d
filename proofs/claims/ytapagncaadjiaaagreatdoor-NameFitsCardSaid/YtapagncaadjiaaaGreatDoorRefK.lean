/- The reference of names: the names of a list that an abbreviation stands for. -/
import Derived.Test.YtapagncaadjiaaaGreatDoorRefI
import Derived.Test.YtapagncaadjiaaaGreatDoorDiceF
import Derived.Deep.DeepCutAuto
namespace Go.Proofs.YtapagncaadjiaaaGreatDoor
open Go.RowKit

theorem infoInt : (Tryz.prog.info? 3).map (fun i => (i.zero, i.size, i.bytes)) = some (some (.int .i64 0), 1, 8) := by kernel_rfl

theorem own_below {w w' : World} {base n size : Nat} {e : TypeId} {o : Value} {xs : List Value} (h : w.ownsRow base e size o n xs) (hb : Below w.heap.size w w') :
    w'.ownsRow base e size o n xs := by
  refine h.kept (row := none) ⟨hb.os, hb.tape, hb.output, hb.size, fun k hk _ => hb.block k hk⟩ ?_
  cases h2 : o.ownBlock with
  | none => exact .inl rfl
  | some g => exact .inr fun e => by cases e

/-- An append to a row of the call's own writes nothing below. -/
theorem below_append {w wl wa wn : World} {n size : Nat} {e : TypeId} {o : Value} {xs : List Value} (hown : wa.ownsRow w.heap.size e size o n xs) (hb : Below w.heap.size w wl)
    (ha : Below wl.heap.size wl wa) (hn : wa.grownBy wn o.ownBlock) : Below w.heap.size w wn :=
  (hb.trans (ha.mono hb.size)).grown hn (Nat.le_trans hb.size ha.size) fun k hk => (hown.lt k hk).1

/-- The indices, from one on, of the names that an abbreviation stands for. -/
def standsFrom (a : List UInt8) : Nat → List ByteArray → List Int
  | _, [] => []
  | k, s :: t => if shortB a s.data.toList then (k : Int) :: standsFrom a (k + 1) t else standsFrom a (k + 1) t
def standsErr (a : List UInt8) (ss : List ByteArray) : Int := if shortErr a = 0 then listErr ss else shortErr a
def standsL (a : List UInt8) (ss : List ByteArray) : List Int := if standsErr a ss = 0 then standsFrom a 0 ss else []

theorem standsFrom_drop (a : List UInt8) (ss : List ByteArray) (k : Nat) (hk : k < ss.length) :
    standsFrom a k (ss.drop k) = (if shortB a ss[k].data.toList then [(k : Int)] else []) ++ standsFrom a (k + 1) (ss.drop (k + 1)) := by
  rw [List.drop_eq_getElem_cons hk]
  show (if _ then _ else _) = _
  split <;> rfl

def IntsPost (xs : List Int) (err : Int) (w : World) (e : Ending) (w' : World) : Prop :=
  ∃ o : Value, e = .returned (.tuple #[o, .int .i64 err]) ∧ w'.ownsRow w.heap.size 3 1 o xs.length (xs.map (Value.int .i64)) ∧ Below w.heap.size w w'

set_option maxRecDepth 100000 in
set_option maxHeartbeats 3200000 in
theorem Stands_any (a : ByteArray) (A : Option Addr) (n c : Nat) (ss : List ByteArray) (w : World) (ha : a.size ≤ 1000000000000000000) (hn : n = ss.length) (hx : Cells w A (ss.map Value.string)) :
    Calls Tryz.prog 52 #[.string a, .slice A n c] w (IntsPost (standsL a.data.toList ss) (standsErr a.data.toList ss) w) := by
  have HA := Lib.hid (size_list a)
  have HN := Lib.hid hn
  have HX := Lib.hid hx
  obtain ⟨si, hi, hz0, hz1, hz2⟩ := info_parts infoInt
  by_cases h1 : shortErr a.data.toList = 0
  · have m1 : (shortErr a.data.toList != 0) = false := by simp [h1]
    have hs2 := shortErr_zero h1
    rw [HA.out] at hs2
    obtain ⟨a2, a13⟩ := hs2
    by_cases h2 : listErr ss = 0
    · have m2 : (listErr ss != 0) = false := by simp [h2]
      have hv := listErr_zero h2
      have n6 : n ≤ 6 := by rw [hn]; exact hv.1
      have HV := Lib.hid hv.2
      have e : standsErr a.data.toList ss = 0 := by unfold standsErr; rw [if_pos h1, h2]
      have e2 : standsL a.data.toList ss = standsFrom a.data.toList 0 ss := by unfold standsL; rw [if_pos e]
      have E := Lib.hid e
      have E2 := Lib.hid e2
      have hdrop : (a.extract 0 (a.size - 1)).data.toList = a.data.toList.dropLast := by rw [take_extract, List.dropLast_eq_take, HA.out]
      have HD := Lib.hid hdrop
      clear e e2 h1 h2 hv hn hx hdrop
      have hz1' : 1 ≤ (a.extract 0 (a.size - 1)).size := by rw [ByteArray.size_extract]; omega
      have hz2' : (a.extract 0 (a.size - 1)).size ≤ 1000000000000000000 := by rw [ByteArray.size_extract]; omega
      go_enter Tryz.func52, Tryz.ntmps52
      go_wp2_with fail
      refine (CheckShort_any _ _ ha).mono ?_
      rintro e w1 ⟨rfl, rfl⟩
      go_wp2_with fail
      refine (checkList_any A n c ss _ HN.out HX.out).mono ?_
      rintro e w2 ⟨rfl, hb2⟩
      go_wp2_with fail
      go_loopw [8, 9] (fun o i wr => ∃ (k : Nat) (xs : List Int), k ≤ n ∧ xs.length ≤ k ∧ i = .int .i64 k ∧ xs ++ standsFrom a.data.toList k (ss.drop k) = standsFrom a.data.toList 0 ss ∧ wr.ownsRow w.heap.size 3 1 o xs.length (xs.map (Value.int .i64)) ∧ Below w.heap.size w wr) (fun _ i _ => n - (intOf i).toNat)
      case atStart => exact ⟨0, [], Nat.zero_le _, Nat.le_refl _, rfl, rfl, World.ownsRow_nil _ _ _ _, hb2⟩
      case round =>
        obtain ⟨k, xs, hk, hxk, rfl, hf, hown, hb⟩ := hrel
        have HF := Lib.hid hf
        clear hf hb2
        obtain ⟨O, cap, rfl⟩ := own_form hown
        by_cases hlt : k < n
        · have hks : k < ss.length := by rw [← HN.out]; exact hlt
          obtain ⟨b1, o1, rfl, c1⟩ := HX.out.str k hks
          have c2 := (hb.cell (World.block_lt_of_cell? w _ c1)).trans c1
          have ed := standsFrom_drop a.data.toList ss k hks
          obtain ⟨x1, x6⟩ := HV.out ss[k] (List.getElem_mem _)
          generalize hX : ss[k] = X at *
          have ED := Lib.hid ed
          have hks2 := key_size x6
          have j1 : IntKind.i64.wrap ((a.size : Int) - 1) = (a.size : Int) - 1 := IntWalk.i64_in _ (by omega)
          have j2 : ((a.size : Int) - 1).toNat = a.size - 1 := by omega
          have j3 : (0 : Int) ≤ (a.size : Int) - 1 := by omega
          have j4 : (a.size : Int) - 1 ≤ (a.size : Int) := by omega
          have j5 : (0 : Int) ≤ (k : Int) := by omega
          have j6 : (k : Int) < (n : Int) := by omega
          clear c1 hX ed
          go_upto_region 11 with fail
          go_cut [36] (fun s wx => s = .bool (shortB a.data.toList X.data.toList) ∧ Below wr.heap.size wr wx)
          case first =>
            go_region_with (first | (go_at_call 71; refine (key_any _ _ x1 x6).mono ?_; rintro e w3 ⟨rfl, hb3⟩) | (go_at_call 106; refine (Abbreviates_any _ _ _ hz1' hz2' (by show (Sp.key X.data.toList).toArray.size ≤ _; simp; omega)).mono ?_; rintro e w4 ⟨rfl, q, rfl⟩))
            all_goals
              go_wp2_with fail
              go_meet
              exact ⟨bool_val rfl, hb3.os, hb3.tape, hb3.output, hb3.size, hb3.block⟩
          case rest =>
            obtain ⟨rfl, hb3⟩ := hcut
            have hb4 := hb.trans (hb3.mono hb.size)
            have hown2 := own_below hown hb3
            clear hb3 hown
            cases hB : shortB a.data.toList X.data.toList with
            | true =>
              have e5 : xs ++ [(k : Int)] ++ standsFrom a.data.toList (k + 1) (ss.drop (k + 1)) = standsFrom a.data.toList 0 ss := by
                rw [← HF.out, ED.out, hB, if_pos rfl, List.append_assoc]
              have E5 := Lib.hid e5
              clear e5 hB
              have hws := hb4.size
              go_wp2_with (at_builtin; refine wpList_append_own _ rfl _ _ 22 rfl w.heap.size 3 si (.int .i64 0) 1 8 Tryz.underlying22 hi hz0 hz1 hz2 rfl (by decide) _ _ _ rfl (hown2.alloc _) ⟨wc.heap.size, 0, none⟩ 1 1 [.int .i64 k] rfl rfl (cell_one_new _ _ _) (by simp [Value.oneCell']) (by unfold maxLen; omega) (by omega) (by simp; omega) ?_; intro v' wn hownN hgN _)
              have hbN := below_append (hown2.alloc _) hb4 ((Below.refl _ _).alloc (Nat.le_refl _) _) hgN
              go_wp2
              go_roundw
              case rel => exact ⟨k + 1, xs ++ [(k : Int)], by omega, by simp; omega, by go_num, E5.out, by simpa using hownN, hbN⟩
              case measure => simp [intOf]; omega
            | false =>
              have e5 : xs ++ standsFrom a.data.toList (k + 1) (ss.drop (k + 1)) = standsFrom a.data.toList 0 ss := by
                rw [← HF.out, ED.out, hB]; rfl
              have E5 := Lib.hid e5
              clear e5 hB
              go_wp2
              go_roundw
              case rel => exact ⟨k + 1, xs, by omega, by omega, by go_num, E5.out, hown2, hb4⟩
              case measure => simp [intOf]; omega
        · have e0 : standsFrom a.data.toList 0 ss = xs := by
            rw [← HF.out, List.drop_eq_nil_of_le (by rw [← HN.out]; omega)]; simp [standsFrom]
          have E0 := Lib.hid e0
          clear e0
          go_wp2
          go_ret2
          exact ⟨_, ret_two rfl (int_val E.out.symm), by rw [E2.out, E0.out]; exact hown, hb⟩
    · have m2 : (listErr ss != 0) = true := by simp [h2]
      have e : standsErr a.data.toList ss = listErr ss := by unfold standsErr; rw [if_pos h1]
      have e2 : standsL a.data.toList ss = [] := by unfold standsL; rw [if_neg (by rw [e]; exact h2)]
      have E := Lib.hid e
      have E2 := Lib.hid e2
      clear e e2 h1 h2 hn hx
      go_enter Tryz.func52, Tryz.ntmps52
      go_wp2_with fail
      refine (CheckShort_any _ _ ha).mono ?_
      rintro e w1 ⟨rfl, rfl⟩
      go_wp2_with fail
      refine (checkList_any A n c ss _ HN.out HX.out).mono ?_
      rintro e w2 ⟨rfl, hb2⟩
      go_wp2
      go_ret2
      exact ⟨_, ret_two rfl (int_val E.out.symm), by rw [E2.out]; exact World.ownsRow_nil _ _ _ _, hb2⟩
  · have m1 : (shortErr a.data.toList != 0) = true := by simp [h1]
    have e : standsErr a.data.toList ss = shortErr a.data.toList := by unfold standsErr; rw [if_neg h1]
    have e2 : standsL a.data.toList ss = [] := by unfold standsL; rw [if_neg (by rw [e]; exact h1)]
    have E := Lib.hid e
    have E2 := Lib.hid e2
    clear e e2 h1 hn hx
    go_enter Tryz.func52, Tryz.ntmps52
    go_wp2_with fail
    refine (CheckShort_any _ _ ha).mono ?_
    rintro e w1 ⟨rfl, rfl⟩
    go_wp2
    go_ret2
    exact ⟨_, ret_two rfl (int_val E.out.symm), by rw [E2.out]; exact World.ownsRow_nil _ _ _ _, Below.refl _ _⟩
end Go.Proofs.YtapagncaadjiaaaGreatDoor
