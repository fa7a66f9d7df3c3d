/- The reference of names: what abbreviations stand for. -/
import Derived.Test.YtljlkhaolfihjaaGreatDoorRefG
import Derived.Deep.RegionWith
namespace Go.Proofs.YtljlkhaolfihjaaGreatDoor
open Go.RowKit

theorem take_extract (s : ByteArray) (n : Nat) : (s.extract 0 n).data.toList = s.data.toList.take n := by
  rw [ByteArray.data_extract, Array.toList_extract, List.extract_eq_take_drop]; simp

/-- The error of an abbreviation. -/
def shortErr (l : List UInt8) : Int := if l.getLast? = some 46 ∧ lettersB l.dropLast 1 12 = true then 0 else 2

def ShortErrPost (s : ByteArray) (w : World) (e : Ending) (w' : World) : Prop :=
  e = .returned (.int .i64 (shortErr s.data.toList)) ∧ w = w'

/-- Whether an abbreviation stands for a name, both valid. -/
def shortB (a n : List UInt8) : Bool := abbrB a.dropLast (Sp.key n)
def shortPairErr (a n : List UInt8) : Int := if shortErr a = 0 then Sp.check n else shortErr a

def ShortPost (a n : ByteArray) (w : World) (e : Ending) (w' : World) : Prop :=
  e = .returned (.tuple #[.bool (decide (shortPairErr a.data.toList n.data.toList = 0) && shortB a.data.toList n.data.toList), .int .i64 (shortPairErr a.data.toList n.data.toList)]) ∧ Below w.heap.size w w'

theorem key_size {s : ByteArray} (h6 : s.size ≤ 6) : (Sp.key s.data.toList).length ≤ 12 := by
  have h1 := flat_le s.data.toList
  have h2 := size_list s
  unfold Sp.key; split <;> omega

theorem shortErr_zero {l : List UInt8} (h : shortErr l = 0) : 2 ≤ l.length ∧ l.length ≤ 13 := by
  unfold shortErr at h
  split at h
  · rename_i h2
    have h3 := h2.2
    unfold lettersB at h3
    simp only [Bool.and_eq_true, decide_eq_true_eq] at h3
    have h4 := h3.1
    rw [List.length_dropLast] at h4
    omega
  · omega

end Go.Proofs.YtljlkhaolfihjaaGreatDoor

/- The reference of names: places in lists. -/
namespace Go.Proofs.YtljlkhaolfihjaaGreatDoor
open Go.RowKit

theorem firstErr_zero (ss : List ByteArray) (h : firstErr ss = 0) : Valid ss := by
  induction ss with
  | nil => intro s hs; cases hs
  | cons a t ih =>
    unfold firstErr at h
    split at h
    · rename_i ha
      intro s hs
      rcases List.mem_cons.1 hs with rfl | hs
      · exact check_size ha
      · exact ih h s hs
    · rename_i ha; exact absurd h ha

theorem listErr_zero {ss : List ByteArray} (h : listErr ss = 0) : ss.length ≤ 6 ∧ Valid ss := by
  unfold listErr at h
  split at h
  · omega
  · exact ⟨by omega, firstErr_zero ss h⟩

/-- How many names of a list come before one. -/
def placeN (ss : List ByteArray) (m : ByteArray) : Nat := ss.countP (fun s => beforeB s.data.toList m.data.toList)
def placeErr (ss : List ByteArray) (m : ByteArray) : Int :=
  if listErr ss = 0 then (if Sp.check m.data.toList = 0 then (if orderedB ss then 0 else 5) else Sp.check m.data.toList) else listErr ss
def placeB (ss : List ByteArray) (m : ByteArray) : Int := if placeErr ss m = 0 then placeN ss m else 0

theorem placeN_drop (ss : List ByteArray) (m : ByteArray) (k : Nat) (hk : k < ss.length) : placeN (ss.drop k) m = placeN (ss.drop (k + 1)) m + (if beforeB ss[k].data.toList m.data.toList then 1 else 0) := by
  unfold placeN; rw [List.drop_eq_getElem_cons hk, List.countP_cons]

def PlacePost (ss : List ByteArray) (m : ByteArray) (w : World) (e : Ending) (w' : World) : Prop :=
  e = .returned (.tuple #[.int .i64 (placeB ss m), .int .i64 (placeErr ss m)]) ∧ Below w.heap.size w w'

set_option maxRecDepth 100000 in
set_option maxHeartbeats 1600000 in
theorem Place_any (A : Option Addr) (n c : Nat) (ss : List ByteArray) (m : ByteArray) (w : World) (hn : n = ss.length) (hx : Cells w A (ss.map Value.string)) :
    Calls Tryz.prog 19 #[.slice A n c, .string m] w (PlacePost ss m w) := by
  have HN := Lib.hid hn
  have HX := Lib.hid hx
  by_cases h1 : listErr ss = 0
  · have hv := listErr_zero h1
    have n6 : n ≤ 6 := by rw [hn]; exact hv.1
    have HV := Lib.hid hv.2
    have m1 : (listErr ss != 0) = false := by simp [h1]
    by_cases h2 : Sp.check m.data.toList = 0
    · have m2 : (Sp.check m.data.toList != 0) = false := by simp [h2]
      obtain ⟨b1, b6⟩ := check_size h2
      cases h3 : orderedB ss with
      | true =>
        have e : placeErr ss m = 0 := by unfold placeErr; rw [if_pos h1, if_pos h2, h3]; rfl
        have e2 : placeB ss m = placeN ss m := by unfold placeB; rw [if_pos e]
        have E := Lib.hid e
        have E2 := Lib.hid e2
        have E3 := Lib.hid h3
        clear e e2 h3 h1 h2 hv hn hx
        go_enter Tryz.func19, Tryz.ntmps19
        go_wp2_with fail
        refine (checkList_any A n c ss _ HN.out HX.out).mono ?_
        rintro e w1 ⟨rfl, hb1⟩
        go_wp2_with fail
        refine (Check_any _ _).mono ?_
        rintro e w2 ⟨rfl, hb2⟩
        have g2 := hb1.trans (hb2.mono hb1.size)
        go_wp2_with fail
        refine (ordered_any A n c ss _ HN.out (by omega) HV.out (HX.out.below g2)).mono ?_
        rintro e w3 ⟨rfl, hb3⟩
        have g3 := g2.trans (hb3.mono g2.size)
        rw [E3.out]
        go_wp2_with fail
        go_loopw [8, 9] (fun v i wr => ∃ k t : Nat, k ≤ n ∧ t ≤ k ∧ v = .int .i64 t ∧ i = .int .i64 k ∧ t + placeN (ss.drop k) m = placeN ss m ∧ Below w.heap.size w wr) (fun _ i _ => n - (intOf i).toNat)
        case atStart => exact ⟨0, 0, Nat.zero_le _, Nat.le_refl _, rfl, rfl, by rw [List.drop_zero, Nat.zero_add], g3⟩
        case round =>
          obtain ⟨k, t, hk, ht, rfl, rfl, hf, hb⟩ := hrel
          have HF := Lib.hid hf
          clear hf
          by_cases hlt : k < n
          · have hks : k < ss.length := by rw [← HN.out]; exact hlt
            obtain ⟨b1', o1, rfl, c1⟩ := HX.out.str k hks
            have c2 := (hb.cell (World.block_lt_of_cell? w _ c1)).trans c1
            have ed := placeN_drop ss m k hks
            obtain ⟨x1, x6⟩ := HV.out ss[k] (List.getElem_mem _)
            generalize hX : ss[k] = X at *
            have ED := Lib.hid ed
            clear c1 hX ed
            go_wp2_with fail
            refine (before_any _ _ _ x1 x6 b1 b6).mono ?_
            rintro e w4 ⟨rfl, hb4⟩
            cases hB : beforeB X.data.toList m.data.toList with
            | true =>
              have H := Lib.hid hB
              clear hB
              go_wp2
              go_roundw
              case rel => exact ⟨k + 1, t + 1, by omega, by omega, by go_num, by go_num, by rw [← HF.out, ED.out, H.out, if_pos rfl]; omega, hb.trans (hb4.mono hb.size)⟩
              case measure => simp [intOf]; omega
            | false =>
              have H := Lib.hid hB
              clear hB
              go_wp2
              go_roundw
              case rel => exact ⟨k + 1, t, by omega, by omega, rfl, by go_num, by rw [← HF.out, ED.out, H.out]; rfl, hb.trans (hb4.mono hb.size)⟩
              case measure => simp [intOf]; omega
          · have e0 : placeN ss m = t := by
              rw [← HF.out, List.drop_eq_nil_of_le (by rw [← HN.out]; omega)]; rfl
            have E0 := Lib.hid e0
            clear e0
            go_wp2
            go_ret2
            exact ⟨ret_two (int_val (by rw [E2.out, E0.out])) (int_val E.out.symm), hb⟩
      | false =>
        have e : placeErr ss m = 5 := by unfold placeErr; rw [if_pos h1, if_pos h2, h3]; rfl
        have e2 : placeB ss m = 0 := by unfold placeB; rw [if_neg (by rw [e]; decide)]
        have E := Lib.hid e
        have E2 := Lib.hid e2
        have E3 := Lib.hid h3
        clear e e2 h3 h1 h2 hv hn hx
        go_enter Tryz.func19, Tryz.ntmps19
        go_wp2_with fail
        refine (checkList_any A n c ss _ HN.out HX.out).mono ?_
        rintro e w1 ⟨rfl, hb1⟩
        go_wp2_with fail
        refine (Check_any _ _).mono ?_
        rintro e w2 ⟨rfl, hb2⟩
        have g2 := hb1.trans (hb2.mono hb1.size)
        go_wp2_with fail
        refine (ordered_any A n c ss _ HN.out (by omega) HV.out (HX.out.below g2)).mono ?_
        rintro e w3 ⟨rfl, hb3⟩
        have g3 := g2.trans (hb3.mono g2.size)
        rw [E3.out]
        go_wp2
        go_ret2
        exact ⟨ret_two (int_val E2.out.symm) (int_val E.out.symm), g3⟩
    · have m2 : (Sp.check m.data.toList != 0) = true := by simp [h2]
      have e : placeErr ss m = Sp.check m.data.toList := by unfold placeErr; rw [if_pos h1, if_neg h2]
      have e2 : placeB ss m = 0 := by unfold placeB; rw [if_neg (by rw [e]; exact h2)]
      have E := Lib.hid e
      have E2 := Lib.hid e2
      clear e e2 h1 h2 hv hn hx
      go_enter Tryz.func19, Tryz.ntmps19
      go_wp2_with fail
      refine (checkList_any A n c ss _ HN.out HX.out).mono ?_
      rintro e w1 ⟨rfl, hb1⟩
      go_wp2_with fail
      refine (Check_any _ _).mono ?_
      rintro e w2 ⟨rfl, hb2⟩
      go_wp2
      go_ret2
      exact ⟨ret_two (int_val E2.out.symm) (int_val E.out.symm), hb1.trans (hb2.mono hb1.size)⟩
  · have m1 : (listErr ss != 0) = true := by simp [h1]
    have e : placeErr ss m = listErr ss := by unfold placeErr; rw [if_neg h1]
    have e2 : placeB ss m = 0 := by unfold placeB; rw [if_neg (by rw [e]; exact h1)]
    have E := Lib.hid e
    have E2 := Lib.hid e2
    clear e e2 h1 hn hx
    go_enter Tryz.func19, Tryz.ntmps19
    go_wp2_with fail
    refine (checkList_any A n c ss _ HN.out HX.out).mono ?_
    rintro e w1 ⟨rfl, hb1⟩
    go_wp2
    go_ret2
    exact ⟨ret_two (int_val E2.out.symm) (int_val E.out.symm), hb1⟩
end Go.Proofs.YtljlkhaolfihjaaGreatDoor
