/- What a frame is told of slices that came in. -/
import Derived.Test.YtlhiekeolmgilaaGreatDoorLawF0
import Derived.Test.YtlhiekeolmgilaaGreatDoorRows
import Derived.Test.YtlhiekeolmgilaaGreatDoorTie
import Derived.Test.YtlhiekeolmgilaaGreatDoorCards
import Derived.LaidLaws
import Derived.LaidHandle
import Derived.Stop.Joined
import Derived.JoinedOf
import Derived.ChangeVars
import Derived.RowKitTokens
import Derived.Handed
import Derived.SevenTiedAt
import Derived.ProofKit
import Derived.OpenShut
import Derived.ShutString
import Derived.ChangeOld
import Derived.ChangeMaps5
import Derived.Deep.Slices
import Derived.SizedLaws
import Derived.Test.YtlhiekeolmgilaaGreatDoorPgZ
import Derived.Test.YtlhiekeolmgilaaGreatDoorKitV
import Derived.Deep.SlicePairs
namespace Go.Proofs.YtlhiekeolmgilaaGreatDoor
open Go.ChangeShapes Go.WideShapes Go.ChangeAt Go.RowKit Go.Deep

/-- Cells from an address on, as the laws name them. -/
theorem add_flat {b off : Nat} (i : Nat) : ((⟨b, off, none⟩ : Addr).add i) = ⟨b, off + i, none⟩ := by
  unfold Addr.add
  split
  · rename_i h; subst h; rfl
  · simp
theorem flat_addr {w : World} {a : Addr} {v : Value} (h : w.cell? (a.add 0) = some v) : a = ⟨a.block, a.off, none⟩ := by
  obtain ⟨b, off, spot⟩ := a
  have hs : spot = none := by simpa [Addr.add] using World.cell?_spot h
  rw [hs]

/-- A slice of strings that came in. -/
theorem strs_in {H : Type} {enc : TypeId × Value → H} {W : World} {base fuel len cap : Nat} {spare : Nat → Bool} {held : Bool} {a : Option Addr} {x : DataW H × List MemPlace}
    (hf : DataW.trod enc Tryz.prog W base spare held fuel 22 [.slice a len cap] = some x) :
    ∃ ss : List ByteArray, len = ss.length ∧ (a = none → cap = 0) ∧ Cells W a (ss.map Value.string) ∧ (len = 0 ∨ ∃ el sp, x.1 = .slice el sp ∧ el.length = len) := by
  rcases open_slice1 Tryz.underlying22 (by kernel_rfl) hf with ⟨hcs, _⟩ | ⟨ad, l, c, m, n, V, D, Pl, hcs, _, hl, _, hm, hx, hi⟩
  · simp at hcs
    obtain ⟨rfl, rfl, rfl⟩ := hcs
    exact ⟨[], rfl, (fun _ => rfl), (fun i h => nomatch h), .inl rfl⟩
  · simp at hcs
    obtain ⟨rfl, rfl, rfl⟩ := hcs
    have hml : len ≤ m := by rw [hm]; split <;> omega
    have hs : ∀ i, i < len → ∃ s : ByteArray, V i = .string s := fun i h => by
      obtain ⟨_, h2⟩ := hi i (by omega)
      obtain ⟨s, hs, _⟩ := DataW.trod_string Tryz.underlying9 h2
      exact ⟨s, by simpa using hs⟩
    refine ⟨(List.range len).map fun i => match V i with | .string s => s | _ => ByteArray.empty, by simp, (fun h => nomatch h), (fun i h => ?_), .inr ⟨_, _, by rw [hx], by simp⟩⟩
    have hil : i < len := by simpa using h
    obtain ⟨h1, _⟩ := hi i (by omega)
    obtain ⟨h0, _⟩ := hi 0 (by omega)
    have hfl := flat_addr h0
    refine ⟨ad.block, ad.off, by rw [← hfl], ?_⟩
    rw [hfl, add_flat] at h1
    rw [h1]
    obtain ⟨s, hs⟩ := hs i hil
    rw [hs, List.getD_eq_getElem?_getD, List.getElem?_eq_getElem h]
    simp [hs]

/-- A slice of integers that came in. -/
theorem nums_in {H : Type} {enc : TypeId × Value → H} {W : World} {base fuel len cap : Nat} {spare : Nat → Bool} {held : Bool} {a : Option Addr} {x : DataW H × List MemPlace}
    (hf : DataW.trod enc Tryz.prog W base spare held fuel 23 [.slice a len cap] = some x) :
    NumsIn W a len ∧ (len = 0 ∨ ∃ el sp, x.1 = .slice el sp ∧ el.length = len) := by
  rcases open_ints Tryz.underlying23 Tryz.underlying3 (by kernel_rfl) hf with ⟨hcs, _⟩ | ⟨ad, l, c, zs, hcs, _, hl, _, hz, hx, hcell, _⟩
  · simp at hcs
    obtain ⟨rfl, rfl, rfl⟩ := hcs
    exact ⟨(fun i h => nomatch h), .inl rfl⟩
  · simp at hcs
    obtain ⟨rfl, rfl, rfl⟩ := hcs
    have hml : len ≤ zs.length := by rw [hz]; split <;> omega
    refine ⟨(fun i h => ?_), .inr ⟨_, _, by rw [hx], by simp [lits]; omega⟩⟩
    have h1 := hcell i (by omega)
    have hfl := flat_addr (hcell 0 (by omega))
    refine ⟨ad.block, ad.off, zs.getD i 0, by rw [← hfl], ?_⟩
    rw [hfl, add_flat] at h1
    exact h1

/-- What the rows list as laid. -/
abbrev laidL : List (String × DataW Unit) := [("errors.errorType", Rows.laid_errors_errorType)]
/-- A world that meets the condition: the settled one, the variable's cell laid. -/
noncomputable def laidWorld (os : Os) : World :=
  let w0 := World.holding Tryz.prog os ⟨#[], #[], []⟩
  { w0 with heap := w0.heap.modify 0 fun
      | .cells _ t frozen => .cells #[.iface 200 (.agg #[.pointer (some ⟨2, 86, none⟩)])] t frozen
      | o => o }
theorem laidWorld_met (os : Os) (args : Array Value) : laidMetH Tryz.prog laidL ((laidWorld os).forCall (fun _ _ => 0) ⟨#[], args, []⟩).memory :=
  laidMetH_of_parts (laidMet_nil _ _) (by kernel_rfl)
end Go.Proofs.YtlhiekeolmgilaaGreatDoor

/- What a frame is told of the one listed variable of the library. -/
namespace Go.Proofs.YtlhiekeolmgilaaGreatDoor
open Go.ChangeShapes Go.WideShapes Go.ChangeAt Go.RowKit

theorem et : Tryz.prog.globalNamed "errors.errorType" = some 0 := by kernel_rfl
theorem rt : (Tryz.prog.cutTypes.find? (·.1 == "internal/reflectlite.rtype")).map (·.2) = some 200 := by kernel_rfl
theorem oneRow : ((List.range 261).filter fun t => Tryz.prog.rowNamed t [101, 114, 114, 111, 114]) = [86] := by kernel_rfl
theorem typesSize : Tryz.prog.types.size = 261 := by kernel_rfl

/-- What the condition gives a walk: the variable's one cell. -/
theorem handle_of_laid {W : World} (h : laidMetH Tryz.prog laidL W) : LaidErr W := by
  have h' : laidMet Tryz.prog [] W ∧ handlesMet Tryz.prog laidL W := h
  obtain ⟨name, u, ty, e1, e2, e3, e4, e5⟩ := h'.2 _ (List.mem_singleton.2 rfl)
  have en : name = [101, 114, 114, 111, 114] := (Option.some.inj e1).symm
  subst en
  obtain rfl := Option.some.inj (rt.symm.trans e2)
  have hm : ty ∈ (List.range 261).filter fun t => Tryz.prog.rowNamed t [101, 114, 114, 111, 114] := List.mem_filter.2 ⟨List.mem_range.2 (by rw [← typesSize]; exact e3), e4⟩
  rw [oneRow] at hm
  obtain rfl := List.mem_singleton.1 hm
  have hh : typeHandle Tryz.prog 86 = .pointer (some ⟨2, 86, none⟩) := by kernel_rfl
  rw [hh] at e5
  have := World.var?_cell et e5 0
  simpa [LaidErr] using this
end Go.Proofs.YtlhiekeolmgilaaGreatDoor

/- What a frame is told of a slice of rules that came in. -/
namespace Go.Proofs.YtlhiekeolmgilaaGreatDoor
open Go.ChangeShapes Go.WideShapes Go.ChangeAt Go.RowKit Go.Deep

theorem weights_all_mem {H : Type} {P : Program} {e : TypeId} : ∀ {ds : List (DataW H)} {d : DataW H}, d ∈ ds → ∀ n ∈ d.weights P e, n ∈ DataW.weightsAll P e ds
  | [], _, hd, _, _ => nomatch hd
  | d0 :: ds, d, hd, n, hn => by
    simp only [DataW.weightsAll, List.mem_append]
    rcases List.mem_cons.1 hd with rfl | hd
    · exact .inl hn
    · exact .inr (weights_all_mem hd n hn)
/-- A slice of rules that came in. -/
theorem rules_in {H : Type} {enc : TypeId × Value → H} {W : World} {base fuel len cap : Nat} {spare : Nat → Bool} {held : Bool} {a : Option Addr} {x : DataW H × List MemPlace} {ts : List TypeId} {ds : List (DataW H)} {j : Nat}
    (hsz : (DataW.weightsEach Tryz.prog ts ds).all (· ≤ reachBytes) = true) (ht : ts[j]? = some 41) (hd : ds[j]? = some x.1)
    (hf : DataW.trod enc Tryz.prog W base spare held fuel 41 [.slice a len cap] = some x) :
    ∃ rs : List (ByteArray × ByteArray), len = rs.length ∧ (a = none → cap = 0) ∧ Cells W a (ruleCells rs) ∧ len ≤ 1000000000000000000 ∧ Fine rs := by
  rcases open_slice_pairs Tryz.underlying41 Tryz.underlying76 (by kernel_rfl) rfl rfl (by kernel_rfl) (by kernel_rfl) hf with ⟨hcs, _⟩ | ⟨ad, l, c, m, n, V0, V1, D0, D1, P0, P1, hcs, _, hl, _, hm, hx, hi⟩
  · simp at hcs
    obtain ⟨rfl, rfl, rfl⟩ := hcs
    exact ⟨[], rfl, (fun _ => rfl), (fun i h => nomatch h), by decide, fun r h => nomatch h⟩
  · simp at hcs
    obtain ⟨rfl, rfl, rfl⟩ := hcs
    have hml : len ≤ m := by rw [hm]; split <;> omega
    have hw : ∀ z ∈ DataW.weights Tryz.prog 41 x.1, z ≤ reachBytes := fun z hz => by
      have := List.all_eq_true.1 hsz _ (DataW.weights_mem_each ht hd z hz)
      simpa using this
    have hx1 : x.1 = .slice ((List.range len).map fun i => .agg [D0 i, D1 i]) ((List.range (m - len)).map fun j => .agg [D0 (len + j), D1 (len + j)]) := by rw [hx]
    rw [hx1] at hw
    have hin : ∀ i, i < len → ∀ z ∈ DataW.weights Tryz.prog 76 (.agg [D0 i, D1 i]), z ≤ reachBytes := fun i h z hz => by
      refine hw z ?_
      have h1 := weights_all_mem (ds := (List.range len).map fun i => .agg [D0 i, D1 i]) (List.mem_map.2 ⟨i, List.mem_range.2 h, rfl⟩) z hz
      simp only [DataW.weights, Tryz.underlying41, List.mem_cons, List.mem_append]
      exact .inr (.inl h1)
    have hR : reachBytes = 140737488351232 := rfl
    have hs0 : ∀ i, i < len → ∃ s : ByteArray, V0 i = .string s ∧ s.size ≤ 1000000000000000000 := fun i h => by
      obtain ⟨_, _, h2, _⟩ := hi i (by omega)
      obtain ⟨s, hs, hv, _⟩ := DataW.trod_string Tryz.underlying9 h2
      have hv1 : D0 i = .lit (.string s.data.toList) := congrArg Prod.fst hv
      refine ⟨s, by simpa using hs, ?_⟩
      have h3 := hin i h s.data.toList.length (by
        simp only [DataW.weights, Tryz.underlying76]
        rw [hv1]
        simp [DataW.weightsEach, DataW.weights])
      have h4 : s.data.toList.length = s.size := by rw [Array.length_toList]; rfl
      omega
    have hs1 : ∀ i, i < len → ∃ s : ByteArray, V1 i = .string s ∧ s.size ≤ 1000000000000000000 := fun i h => by
      obtain ⟨_, _, _, h2⟩ := hi i (by omega)
      obtain ⟨s, hs, hv, _⟩ := DataW.trod_string Tryz.underlying9 h2
      have hv1 : D1 i = .lit (.string s.data.toList) := congrArg Prod.fst hv
      refine ⟨s, by simpa using hs, ?_⟩
      have h3 := hin i h s.data.toList.length (by
        simp only [DataW.weights, Tryz.underlying76]
        rw [hv1]
        simp [DataW.weightsEach, DataW.weights])
      have h4 : s.data.toList.length = s.size := by rw [Array.length_toList]; rfl
      omega
    have hstr : ∀ v : Value, (∃ s : ByteArray, v = .string s ∧ s.size ≤ 1000000000000000000) → v = .string (match v with | .string s => s | _ => ByteArray.empty) ∧ (match v with | .string s => s | _ => ByteArray.empty).size ≤ 1000000000000000000 := by
      rintro v ⟨s, rfl, h⟩
      exact ⟨rfl, h⟩
    refine ⟨(List.range len).map fun i => (match V0 i with | .string s => s | _ => ByteArray.empty, match V1 i with | .string s => s | _ => ByteArray.empty), by simp, (fun h => nomatch h), (fun k hk => ?_), ?_, fun r hr => ?_⟩
    · rw [ruleCells_len] at hk
      simp at hk
      have hil : k / 2 < len := by omega
      obtain ⟨h1, h2, _⟩ := hi (k / 2) (by omega)
      obtain ⟨h0, _⟩ := hi 0 (by omega)
      have hfl := flat_addr (by simpa using h0)
      obtain ⟨g1, g2, _⟩ := ruleCells_get ((List.range len).map fun i => ((match V0 i with | .string s => s | _ => ByteArray.empty), (match V1 i with | .string s => s | _ => ByteArray.empty))) (k / 2) (by simpa using hil)
      refine ⟨ad.block, ad.off, by rw [← hfl], ?_⟩
      rw [hfl, add_flat] at h1 h2
      rcases Nat.mod_two_eq_zero_or_one k with hk2 | hk2
      · have e : k = k / 2 * 2 := by omega
        rw [show (⟨ad.block, ad.off + k, none⟩ : Addr) = ⟨ad.block, ad.off + k / 2 * 2, none⟩ from by rw [← e], h1]
        rw [e, g1]
        simp only [List.getElem_map, List.getElem_range]
        rw [← e]
        exact congrArg some (hstr _ (hs0 _ hil)).1
      · have e : k = k / 2 * 2 + 1 := by omega
        rw [show (⟨ad.block, ad.off + k, none⟩ : Addr) = ⟨ad.block, ad.off + (k / 2 * 2 + 1), none⟩ from by rw [← e], h2]
        rw [e, g2]
        simp only [List.getElem_map, List.getElem_range]
        rw [← e]
        exact congrArg some (hstr _ (hs1 _ hil)).1
    · have hs := hw ((((List.range len).map fun i => (DataW.agg [D0 i, D1 i] : DataW H)).length + ((List.range (m - len)).map fun j => (DataW.agg [D0 (len + j), D1 (len + j)] : DataW H)).length) * Tryz.prog.bytesOf 76) (by simp [DataW.weights, Tryz.underlying41])
      rw [show Tryz.prog.bytesOf 76 = 32 from by kernel_rfl, List.length_map, List.length_range] at hs
      omega
    · obtain ⟨i, hir, rfl⟩ := List.mem_map.1 hr
      have hil := List.mem_range.1 hir
      exact ⟨(hstr _ (hs0 i hil)).2, (hstr _ (hs1 i hil)).2⟩
end Go.Proofs.YtlhiekeolmgilaaGreatDoor
