/- The program's name of the other alphabet. -/
import Derived.Test.YtapagncaadjiaabGreatDoorPgC
namespace Go.Proofs.YtapagncaadjiaabGreatDoor
open Go.RowKit

def letV : Option Nat → Int
  | none => 0
  | some j => 65 + (j : Int)

theorem lets_facts (k : Nat) (hk : k < 26) : (kindP (65 + (k : Int)) = 0 ↔ lets k = []) ∧ latP (letterAt k) = lets k ∧ (lets k).length ≤ 2 := by
  have h : ∀ n : Fin 26, (kindP (65 + (n.val : Int)) = 0 ↔ lets n.val = []) ∧ latP (letterAt n.val) = lets n.val ∧ (lets n.val).length ≤ 2 := by decide +kernel
  exact h ⟨k, hk⟩
theorem lat_call (k : Nat) (hk : k < 26) (W : World) : Calls Tryz.prog 62 #[.int .i32 (65 + (k : Int))] W fun e w' => e = .returned (str (lets k)) ∧ W = w' := by
  have h := latinP_any (letterAt k) W (by rw [letterAt_nat k (by omega)]; omega)
  rw [letterAt_nat k (by omega), (lets_facts k hk).2.1] at h
  rw [show ((65 + k : Nat) : Int) = 65 + (k : Int) by omega] at h
  exact h
def LetPost (t : List UInt8) (w : World) (e : Ending) (w' : World) : Prop :=
  e = .returned (.tuple #[.int .i32 (letV (bestT t 26)), .bool (bestT t 26).isSome]) ∧ w = w'

/-- How long a string in a slot is. -/
def strLen : Value → Nat
  | .string s => s.size
  | _ => 0
theorem extract_drop (s : ByteArray) (n : Nat) : (s.extract n s.size).data.toList = s.data.toList.drop n := by
  rw [ByteArray.data_extract, Array.toList_extract]
  simp [List.take_of_length_le]

def DecPost (t : List UInt8) (w : World) (e : Ending) (w' : World) : Prop :=
  e = .returned (.tuple #[.string ⟨((dec t).getD []).toArray⟩, .bool (dec t).isSome]) ∧ Below w.heap.size w w'

def OtherOk (s : ByteArray) (w : World) (e : Ending) (w' : World) : Prop :=
  e = .returned (.tuple #[.string (otherP s).1, .int .i64 (otherP s).2]) ∧ Below w.heap.size w w'

end Go.Proofs.YtapagncaadjiaabGreatDoor
