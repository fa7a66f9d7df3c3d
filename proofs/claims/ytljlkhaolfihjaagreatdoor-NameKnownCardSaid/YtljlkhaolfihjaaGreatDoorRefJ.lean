/- The reference of names: rules that are valid. -/
import Derived.Test.YtljlkhaolfihjaaGreatDoorRefI
import Derived.Test.YtljlkhaolfihjaaGreatDoorDiceF
namespace Go.Proofs.YtljlkhaolfihjaaGreatDoor
open Go.RowKit

theorem ruleCells_get (rs : List (ByteArray × ByteArray)) (k : Nat) (hk : k < rs.length) :
    (ruleCells rs).getD (k * 2) undef = .string rs[k].1 ∧ (ruleCells rs).getD (k * 2 + 1) undef = .string rs[k].2 ∧ k * 2 + 1 < (ruleCells rs).length := by
  induction rs generalizing k with
  | nil => simp at hk
  | cons r t ih =>
    cases k with
    | zero => exact ⟨rfl, rfl, by simp [ruleCells]⟩
    | succ k =>
      obtain ⟨h1, h2, h3⟩ := ih k (by simpa using hk)
      have e : ruleCells (r :: t) = .string r.1 :: .string r.2 :: ruleCells t := rfl
      refine ⟨?_, ?_, ?_⟩
      · rw [e]; exact (by rw [show (k + 1) * 2 = k * 2 + 1 + 1 from by omega]; rfl : _ = (ruleCells t).getD (k * 2) undef).trans h1
      · rw [e]; exact (by rw [show (k + 1) * 2 + 1 = k * 2 + 1 + 1 + 1 from by omega]; rfl : _ = (ruleCells t).getD (k * 2 + 1) undef).trans h2
      · rw [e]; simp; omega

theorem Cells.rule {w : World} {A : Option Addr} {rs : List (ByteArray × ByteArray)} (h : Cells w A (ruleCells rs)) (k : Nat) (hk : k < rs.length) :
    ∃ b off : Nat, A = some ⟨b, off, none⟩ ∧ w.cell? ⟨b, off + k * 2, none⟩ = some (.string rs[k].1) ∧ w.cell? ⟨b, off + k * 2 + 1, none⟩ = some (.string rs[k].2) := by
  obtain ⟨g1, g2, g3⟩ := ruleCells_get rs k hk
  obtain ⟨b, off, e, h1⟩ := h (k * 2) (by omega)
  obtain ⟨b', off', e', h2⟩ := h (k * 2 + 1) g3
  rw [e] at e'
  injection e' with e'
  injection e' with e1 e2 _
  subst e1 e2
  exact ⟨b, off, e, by rw [h1, g1], by rw [← g2, ← h2, Nat.add_assoc]⟩

def ruleOk (r : ByteArray × ByteArray) : Bool := lettersB r.1.data.toList 1 2 && lettersB r.2.data.toList 0 2 && !decide (r.1.data.toList = r.2.data.toList)
def rulesErr (rs : List (ByteArray × ByteArray)) : Int := if 4 < rs.length then 6 else if rs.all ruleOk then 0 else 2

theorem all_drop {α : Type} (p : α → Bool) (xs : List α) (k : Nat) (hk : k < xs.length) : (xs.drop k).all p = (p xs[k] && (xs.drop (k + 1)).all p) := by
  rw [List.drop_eq_getElem_cons hk]; rfl

def RulesErrPost (rs : List (ByteArray × ByteArray)) (w : World) (e : Ending) (w' : World) : Prop :=
  e = .returned (.int .i64 (rulesErr rs)) ∧ ∃ j, w' = w.drewN j

/-- Rules whose strings are not endless. -/
def Fine (rs : List (ByteArray × ByteArray)) : Prop := ∀ r, r ∈ rs → r.1.size ≤ 1000000000000000000 ∧ r.2.size ≤ 1000000000000000000

theorem list_eq {a b : ByteArray} : a.toList = b.toList ↔ a.data.toList = b.data.toList := by
  rw [ByteArray.toList_eq, ByteArray.toList_eq]

/-- A world that has drawn and done nothing else. -/
def Drew (w w' : World) : Prop := ∃ j, w' = w.drewN j
theorem Drew.cell {w w' : World} (h : Drew w w') (p : Addr) : w'.cell? p = w.cell? p := by obtain ⟨j, rfl⟩ := h; simp
theorem Drew.on {w w' : World} (h : Drew w w') (n : Nat) : Drew w (w'.drewN n) := by
  obtain ⟨j, rfl⟩ := h; exact ⟨j + n, World.drewN_drewN _ _ _⟩

end Go.Proofs.YtljlkhaolfihjaaGreatDoor
