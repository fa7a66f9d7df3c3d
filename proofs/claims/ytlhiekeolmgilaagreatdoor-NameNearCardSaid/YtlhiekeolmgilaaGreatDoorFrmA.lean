/- What a frame is told of slices that came in. -/
import Derived.Test.YtlhiekeolmgilaaGreatDoorLawB0
import Derived.Test.YtlhiekeolmgilaaGreatDoorRows
import Derived.Test.YtlhiekeolmgilaaGreatDoorTie
import Derived.Test.YtlhiekeolmgilaaGreatDoorCards
import Derived.LaidLaws
import Derived.LaidHandle
import Derived.Stop.Joined
import Derived.JoinedOf
import Derived.ChangeVars
import Derived.RowKitTokens
import Derived.Handed
import Derived.SevenTiedAt
import Derived.ProofKit
import Derived.OpenShut
import Derived.ShutString
import Derived.ChangeOld
import Derived.ChangeMaps5
import Derived.Deep.Slices
import Derived.SizedLaws
namespace Go.Proofs.YtlhiekeolmgilaaGreatDoor
open Go.ChangeShapes Go.WideShapes Go.ChangeAt Go.RowKit Go.Deep

/-- Cells from an address on, as the laws name them. -/
theorem add_flat {b off : Nat} (i : Nat) : ((⟨b, off, none⟩ : Addr).add i) = ⟨b, off + i, none⟩ := by
  unfold Addr.add
  split
  · rename_i h; subst h; rfl
  · simp
theorem flat_addr {w : World} {a : Addr} {v : Value} (h : w.cell? (a.add 0) = some v) : a = ⟨a.block, a.off, none⟩ := by
  obtain ⟨b, off, spot⟩ := a
  have hs : spot = none := by simpa [Addr.add] using World.cell?_spot h
  rw [hs]

/-- A slice of strings that came in. -/
theorem strs_in {H : Type} {enc : TypeId × Value → H} {W : World} {base fuel len cap : Nat} {spare : Nat → Bool} {held : Bool} {a : Option Addr} {x : DataW H × List MemPlace}
    (hf : DataW.trod enc Tryz.prog W base spare held fuel 22 [.slice a len cap] = some x) :
    ∃ ss : List ByteArray, len = ss.length ∧ (a = none → cap = 0) ∧ Cells W a (ss.map Value.string) ∧ (len = 0 ∨ ∃ el sp, x.1 = .slice el sp ∧ el.length = len) := by
  rcases open_slice1 Tryz.underlying22 (by kernel_rfl) hf with ⟨hcs, _⟩ | ⟨ad, l, c, m, n, V, D, Pl, hcs, _, hl, _, hm, hx, hi⟩
  · simp at hcs
    obtain ⟨rfl, rfl, rfl⟩ := hcs
    exact ⟨[], rfl, (fun _ => rfl), (fun i h => nomatch h), .inl rfl⟩
  · simp at hcs
    obtain ⟨rfl, rfl, rfl⟩ := hcs
    have hml : len ≤ m := by rw [hm]; split <;> omega
    have hs : ∀ i, i < len → ∃ s : ByteArray, V i = .string s := fun i h => by
      obtain ⟨_, h2⟩ := hi i (by omega)
      obtain ⟨s, hs, _⟩ := DataW.trod_string Tryz.underlying9 h2
      exact ⟨s, by simpa using hs⟩
    refine ⟨(List.range len).map fun i => match V i with | .string s => s | _ => ByteArray.empty, by simp, (fun h => nomatch h), (fun i h => ?_), .inr ⟨_, _, by rw [hx], by simp⟩⟩
    have hil : i < len := by simpa using h
    obtain ⟨h1, _⟩ := hi i (by omega)
    obtain ⟨h0, _⟩ := hi 0 (by omega)
    have hfl := flat_addr h0
    refine ⟨ad.block, ad.off, by rw [← hfl], ?_⟩
    rw [hfl, add_flat] at h1
    rw [h1]
    obtain ⟨s, hs⟩ := hs i hil
    rw [hs, List.getD_eq_getElem?_getD, List.getElem?_eq_getElem h]
    simp [hs]

/-- A slice of integers that came in. -/
theorem nums_in {H : Type} {enc : TypeId × Value → H} {W : World} {base fuel len cap : Nat} {spare : Nat → Bool} {held : Bool} {a : Option Addr} {x : DataW H × List MemPlace}
    (hf : DataW.trod enc Tryz.prog W base spare held fuel 23 [.slice a len cap] = some x) :
    NumsIn W a len ∧ (len = 0 ∨ ∃ el sp, x.1 = .slice el sp ∧ el.length = len) := by
  rcases open_ints Tryz.underlying23 Tryz.underlying3 (by kernel_rfl) hf with ⟨hcs, _⟩ | ⟨ad, l, c, zs, hcs, _, hl, _, hz, hx, hcell, _⟩
  · simp at hcs
    obtain ⟨rfl, rfl, rfl⟩ := hcs
    exact ⟨(fun i h => nomatch h), .inl rfl⟩
  · simp at hcs
    obtain ⟨rfl, rfl, rfl⟩ := hcs
    have hml : len ≤ zs.length := by rw [hz]; split <;> omega
    refine ⟨(fun i h => ?_), .inr ⟨_, _, by rw [hx], by simp [lits]; omega⟩⟩
    have h1 := hcell i (by omega)
    have hfl := flat_addr (hcell 0 (by omega))
    refine ⟨ad.block, ad.off, zs.getD i 0, by rw [← hfl], ?_⟩
    rw [hfl, add_flat] at h1
    exact h1

/-- What the rows list as laid. -/
abbrev laidL : List (String × DataW Unit) := [("errors.errorType", Rows.laid_errors_errorType)]
/-- A world that meets the condition: the settled one, the variable's cell laid. -/
noncomputable def laidWorld (os : Os) : World :=
  let w0 := World.holding Tryz.prog os ⟨#[], #[], []⟩
  { w0 with heap := w0.heap.modify 0 fun
      | .cells _ t frozen => .cells #[.iface 200 (.agg #[.pointer (some ⟨2, 86, none⟩)])] t frozen
      | o => o }
theorem laidWorld_met (os : Os) (args : Array Value) : laidMetH Tryz.prog laidL ((laidWorld os).forCall (fun _ _ => 0) ⟨#[], args, []⟩).memory :=
  laidMetH_of_parts (laidMet_nil _ _) (by kernel_rfl)
end Go.Proofs.YtlhiekeolmgilaaGreatDoor
