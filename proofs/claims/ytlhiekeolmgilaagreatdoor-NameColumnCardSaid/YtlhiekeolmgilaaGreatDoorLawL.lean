/- Where a number stands first in a list. -/
import Derived.Test.YtlhiekeolmgilaaGreatDoorRefK
import Derived.Test.YtlhiekeolmgilaaGreatDoorDiceC
import Derived.Test.YtlhiekeolmgilaaGreatDoorLawI
import Derived.Test.YtlhiekeolmgilaaGreatDoorPgV
import Derived.Test.YtlhiekeolmgilaaGreatDoorPzC
import Derived.Test.YtlhiekeolmgilaaGreatDoorSpecW
import Derived.Deep.RegionHeld3
namespace Go.Proofs.YtlhiekeolmgilaaGreatDoor
open Go.RowKit

def IndexPost (xs : List Int) (x : Int) (w : World) (e : Ending) (w' : World) : Prop :=
  ∃ v : Int, e = .returned (.int .i64 v) ∧ ((0 ≤ v ∧ x ∈ xs) ∨ (v = -1 ∧ x ∉ xs)) ∧ w' = w
set_option maxHeartbeats 800000 in
theorem Index_any (A : Option Addr) (n c : Nat) (xs : List Int) (x : Int) (w : World) (hn : n = xs.length) (hb : n ≤ 1000) (hx : Cells w A (xs.map (Value.int .i64))) :
    Calls Tryz.prog 47 #[.slice A n c, .int .i64 x] w (IndexPost xs x w) := by
  have HN := Lib.hid hn
  have HX := Lib.hid hx
  clear hn hx
  unfold IndexPost
  go_enter Tryz.func47, Tryz.ntmps47
  go_wp2_with fail
  go_loop [5] (fun i => ∃ k : Nat, k ≤ n ∧ i = .int .i64 k ∧ Hid (x ∉ xs.take k)) (fun i => n - (intOf i).toNat)
  case atStart => exact ⟨0, Nat.zero_le _, rfl, Lib.hid (by simp)⟩
  case round =>
    obtain ⟨k, hk, rfl, hno⟩ := hrel
    by_cases hlt : k < n
    · have hks : k < xs.length := by rw [← HN.out]; exact hlt
      obtain ⟨b, off, rfl, hc⟩ := HX.out k (by simpa using hks)
      have hv : (xs.map (Value.int .i64)).getD k undef = .int .i64 xs[k] := by
        rw [List.getD_eq_getElem?_getD, List.getElem?_map, List.getElem?_eq_getElem hks]; rfl
      rw [hv] at hc
      have hmem : xs[k] ∈ xs := List.getElem_mem hks
      have htk := List.take_succ_eq_append_getElem hks
      generalize xs[k] = y at *
      by_cases hy : y = x
      · subst hy
        have m1 : (y == y) = true := by simp
        have HM := Lib.hid hmem
        clear hmem hv htk
        go_wp2_with fail
        go_ret
        exact ⟨_, rfl, .inl ⟨by omega, HM.out⟩, rfl⟩
      · have m1 : (y == x) = false := by simp [hy]
        have hno2 : Hid (x ∉ xs.take (k + 1)) := Lib.hid (by
          rw [htk, List.mem_append, List.mem_singleton]
          rintro (h | h)
          · exact hno.out h
          · exact hy h.symm)
        clear hmem hv htk hy hno
        go_wp2_with fail
        go_round
        case rel => exact ⟨k + 1, by omega, by go_num, hno2⟩
        case measure => simp [intOf]; omega
    · have hall : Hid (x ∉ xs) := Lib.hid (by
        have := hno.out
        rwa [List.take_of_length_le (by rw [← HN.out]; omega)] at this)
      clear hno
      go_wp2_with fail
      go_ret
      exact ⟨_, rfl, .inr ⟨rfl, hall.out⟩, rfl⟩
end Go.Proofs.YtlhiekeolmgilaaGreatDoor

/- Dice: abbreviations of few letters. -/
namespace Go.Proofs.YtlhiekeolmgilaaGreatDoor
open Go.RowKit

/-- An abbreviation that dice make of a string: some of its letters, and a point. -/
def ShortOfPost (d : Nat) (v : Value) (key : ByteArray) (w : World) (e : Ending) (w' : World) : Prop :=
  ∃ l : List UInt8, e = .returned (str (l ++ [46])) ∧ l.length ≤ key.size ∧ (1 ≤ key.size → 1 ≤ l.length) ∧ (∀ c, c ∈ l → c ∈ key.data.toList) ∧
    Dice w' d v ∧ w.grownBy w' (some d)

end Go.Proofs.YtlhiekeolmgilaaGreatDoor

/- An abbreviation stands for all names for which one with a letter more stands: the walk. -/
namespace Go.Proofs.YtlhiekeolmgilaaGreatDoor
open Go.RowKit

theorem key_latin {s : ByteArray} (h : Sp.check s.data.toList = 0) : ∀ c, c ∈ (keyS s).data.toList → Sp.latin c = true := by
  intro c hc
  have h1 : (keyS s).data.toList = s.data.toList.flatMap latP := (latP_flat h).symm
  rw [h1, List.mem_flatMap] at hc
  obtain ⟨x, _, hx⟩ := hc
  have hall : ∀ n : Fin 256, (latP (UInt8.ofNat n.val)).all Sp.latin = true := by decide +kernel
  exact List.all_eq_true.1 (byte_all (p := fun x => (latP x).all Sp.latin = true) hall x) c hx
theorem refKey_call {s : ByteArray} (h : Sp.check s.data.toList = 0) (W : World) : Calls Tryz.prog 53 #[.string s] W fun e w' => e = .returned (.tuple #[.string (keyS s), .int .i64 0]) ∧ Below W.heap.size W w' := by
  refine (Key_any s W).mono ?_
  rintro e w' ⟨rfl, hb⟩
  refine ⟨?_, hb⟩
  rw [h]
  unfold Sp.keyR
  rw [if_pos h]
  rfl
theorem cut_list {A0 : ByteArray} {l : List UInt8} (hA : A0.data.toList = l ++ [46]) {i : Nat} (hi : i < l.length) : (A0.extract 0 i ++ A0.extract (i + 1) A0.size).data.toList = l.eraseIdx i ++ [46] := by
  have hz : A0.size = A0.data.toList.length := by simp
  rw [ByteArray.data_append, Array.toList_append, ByteArray.data_extract, ByteArray.data_extract, Array.toList_extract, Array.toList_extract, List.extract_eq_take_drop, List.extract_eq_take_drop, hz, hA]
  rw [List.eraseIdx_eq_take_drop_succ, List.append_assoc, List.drop_zero, Nat.sub_zero, List.take_append_of_le_length (by omega)]
  congr 1
  rw [List.drop_append_of_le_length (by omega), List.take_of_length_le (by simp; omega)]
theorem stands_call {A : Option Addr} {n c : Nat} {ss : List ByteArray} {a : ByteArray} {W0 : World} (hL : LaidErr W0) (hn : n = ss.length) (h6 : ss.length ≤ 6) (hv : AllOk ss) (hx : Cells W0 A (ss.map Value.string)) (ha : a.size ≤ 2000) (hs : shortErr a.data.toList = 0) (W : World) (hW : Below W0.heap.size W0 W) :
    Calls Tryz.prog 43 #[.string a, .slice A n c] W fun e w' => ∃ o, e = .returned (.tuple #[o, .int .i64 0]) ∧ w'.ownsRow W.heap.size 3 1 o (standsFrom a.data.toList 0 ss).length ((standsFrom a.data.toList 0 ss).map (Value.int .i64)) ∧ Below W.heap.size W w' := by
  have hle : listErr ss = 0 := by
    unfold listErr
    rw [if_neg (by omega)]
    have : ∀ t : List ByteArray, AllOk t → firstErr t = 0 := by
      intro t
      induction t with
      | nil => intro _; rfl
      | cons s t ih =>
        intro h
        unfold firstErr
        rw [if_pos (h s (by simp))]
        exact ih fun x hx => h x (by simp [hx])
    exact this ss hv
  have he : standsErr a.data.toList ss = 0 := by unfold standsErr; rw [if_pos hs, hle]
  have hl : standsL a.data.toList ss = standsFrom a.data.toList 0 ss := by unfold standsL; rw [if_pos he]
  have q := pStands_any a A n c ss W (hL.below hW) ha hn (hx.below hW)
  rw [he, hl] at q
  exact q
theorem short_call {a s : ByteArray} {W0 : World} (hL : LaidErr W0) (ha : a.size ≤ 2000) (hs : shortErr a.data.toList = 0) (hc : Sp.check s.data.toList = 0) (W : World) (hW : Below W0.heap.size W0 W) :
    Calls Tryz.prog 42 #[.string a, .string s] W fun e w' => e = .returned (.tuple #[.bool (shortB a.data.toList s.data.toList), .int .i64 0]) ∧ Below W.heap.size W w' := by
  have e1 : shortPairErr a.data.toList s.data.toList = 0 := by unfold shortPairErr; rw [if_pos hs, hc]
  have q := pShort_any a s W (hL.below hW) ha
  unfold ShortPost at q
  rw [e1] at q
  simpa using q

def ShortOf2 (d : Nat) (v : Value) (key : ByteArray) (w : World) (e : Ending) (w' : World) : Prop :=
  ∃ (l : List UInt8) (A0 : ByteArray), e = .returned (.string A0) ∧ A0.data.toList = l ++ [46] ∧ l.length ≤ key.size ∧ (1 ≤ key.size → 1 ≤ l.length) ∧ (∀ c, c ∈ l → c ∈ key.data.toList) ∧ Dice w' d v ∧ w.grownBy w' (some d)
theorem ints_at {w : World} {A : Option Addr} {xs : List Int} (h : Cells w A (xs.map (Value.int .i64))) (k : Nat) (hk : k < xs.length) : ∃ b off : Nat, A = some ⟨b, off, none⟩ ∧ w.cell? ⟨b, off + k, none⟩ = some (.int .i64 xs[k]) := by
  obtain ⟨b, off, e, hc⟩ := h k (by simpa using hk)
  refine ⟨b, off, e, ?_⟩
  rw [hc, List.getD_eq_getElem?_getD, List.getElem?_map, List.getElem?_eq_getElem hk]
  rfl

end Go.Proofs.YtlhiekeolmgilaaGreatDoor
