/- The reference of names: what abbreviations stand for. -/
import Derived.Test.YtapagncaadjiaabGreatDoorRefG
import Derived.Deep.RegionWith
namespace Go.Proofs.YtapagncaadjiaabGreatDoor
open Go.RowKit

theorem take_extract (s : ByteArray) (n : Nat) : (s.extract 0 n).data.toList = s.data.toList.take n := by
  rw [ByteArray.data_extract, Array.toList_extract, List.extract_eq_take_drop]; simp

/-- The error of an abbreviation. -/
def shortErr (l : List UInt8) : Int := if l.getLast? = some 46 ∧ lettersB l.dropLast 1 12 = true then 0 else 2

def ShortErrPost (s : ByteArray) (w : World) (e : Ending) (w' : World) : Prop :=
  e = .returned (.int .i64 (shortErr s.data.toList)) ∧ w = w'

/-- Whether an abbreviation stands for a name, both valid. -/
def shortB (a n : List UInt8) : Bool := abbrB a.dropLast (Sp.key n)
def shortPairErr (a n : List UInt8) : Int := if shortErr a = 0 then Sp.check n else shortErr a

def ShortPost (a n : ByteArray) (w : World) (e : Ending) (w' : World) : Prop :=
  e = .returned (.tuple #[.bool (decide (shortPairErr a.data.toList n.data.toList = 0) && shortB a.data.toList n.data.toList), .int .i64 (shortPairErr a.data.toList n.data.toList)]) ∧ Below w.heap.size w w'

theorem key_size {s : ByteArray} (h6 : s.size ≤ 6) : (Sp.key s.data.toList).length ≤ 12 := by
  have h1 := flat_le s.data.toList
  have h2 := size_list s
  unfold Sp.key; split <;> omega

theorem shortErr_zero {l : List UInt8} (h : shortErr l = 0) : 2 ≤ l.length ∧ l.length ≤ 13 := by
  unfold shortErr at h
  split at h
  · rename_i h2
    have h3 := h2.2
    unfold lettersB at h3
    simp only [Bool.and_eq_true, decide_eq_true_eq] at h3
    have h4 := h3.1
    rw [List.length_dropLast] at h4
    omega
  · omega

end Go.Proofs.YtapagncaadjiaabGreatDoor

/- The reference of names: places in lists. -/
namespace Go.Proofs.YtapagncaadjiaabGreatDoor
open Go.RowKit

theorem firstErr_zero (ss : List ByteArray) (h : firstErr ss = 0) : Valid ss := by
  induction ss with
  | nil => intro s hs; cases hs
  | cons a t ih =>
    unfold firstErr at h
    split at h
    · rename_i ha
      intro s hs
      rcases List.mem_cons.1 hs with rfl | hs
      · exact check_size ha
      · exact ih h s hs
    · rename_i ha; exact absurd h ha

theorem listErr_zero {ss : List ByteArray} (h : listErr ss = 0) : ss.length ≤ 6 ∧ Valid ss := by
  unfold listErr at h
  split at h
  · omega
  · exact ⟨by omega, firstErr_zero ss h⟩

/-- How many names of a list come before one. -/
def placeN (ss : List ByteArray) (m : ByteArray) : Nat := ss.countP (fun s => beforeB s.data.toList m.data.toList)
def placeErr (ss : List ByteArray) (m : ByteArray) : Int :=
  if listErr ss = 0 then (if Sp.check m.data.toList = 0 then (if orderedB ss then 0 else 5) else Sp.check m.data.toList) else listErr ss
def placeB (ss : List ByteArray) (m : ByteArray) : Int := if placeErr ss m = 0 then placeN ss m else 0

theorem placeN_drop (ss : List ByteArray) (m : ByteArray) (k : Nat) (hk : k < ss.length) : placeN (ss.drop k) m = placeN (ss.drop (k + 1)) m + (if beforeB ss[k].data.toList m.data.toList then 1 else 0) := by
  unfold placeN; rw [List.drop_eq_getElem_cons hk, List.countP_cons]

def PlacePost (ss : List ByteArray) (m : ByteArray) (w : World) (e : Ending) (w' : World) : Prop :=
  e = .returned (.tuple #[.int .i64 (placeB ss m), .int .i64 (placeErr ss m)]) ∧ Below w.heap.size w w'

end Go.Proofs.YtapagncaadjiaabGreatDoor
