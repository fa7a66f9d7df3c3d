/- The numbers of a slice; the examples at any world. -/
import Derived.Test.YtlhiekeolmgilaaGreatDoorLawA
import Derived.Test.YtlhiekeolmgilaaGreatDoorKitE
import Derived.Test.YtlhiekeolmgilaaGreatDoorDiceF
import Derived.Test.YtlhiekeolmgilaaGreatDoorRows
import Derived.Test.YtlhiekeolmgilaaGreatDoorTie
import Derived.Test.YtlhiekeolmgilaaGreatDoorCards
import Derived.LaidLaws
import Derived.LaidHandle
import Derived.Stop.Joined
import Derived.JoinedOf
import Derived.ChangeVars
import Derived.RowKitTokens
import Derived.Handed
import Derived.SevenTiedAt
import Derived.ProofKit
import Derived.OpenShut
import Derived.ShutString
import Derived.ChangeOld
import Derived.ChangeMaps5
import Derived.Deep.Slices
import Derived.SizedLaws
import Derived.Test.YtlhiekeolmgilaaGreatDoorPgZ
import Derived.Test.YtlhiekeolmgilaaGreatDoorKitB
import Derived.Test.YtlhiekeolmgilaaGreatDoorKitD
import Derived.Test.YtlhiekeolmgilaaGreatDoorPgD
import Derived.Test.YtlhiekeolmgilaaGreatDoorSpecO
import Derived.Test.YtlhiekeolmgilaaGreatDoorPgJ
import Derived.Test.YtlhiekeolmgilaaGreatDoorPgE
import Derived.Test.YtlhiekeolmgilaaGreatDoorPgS
import Derived.Test.YtlhiekeolmgilaaGreatDoorSpecV
namespace Go.Proofs.YtlhiekeolmgilaaGreatDoor
open Go.RowKit

/-- The numbers of a slice that came in. -/
def NumsIn (w : World) (A : Option Addr) (n : Nat) : Prop := ∀ i, i < n → ∃ (b off : Nat) (x : Int), A = some ⟨b, off, none⟩ ∧ w.cell? ⟨b, off + i, none⟩ = some (.int .i64 x)
theorem NumsIn.below {w w' : World} {A : Option Addr} {n : Nat} (h : NumsIn w A n) (hb : Below w.heap.size w w') : NumsIn w' A n := fun i hi => by
  obtain ⟨b, off, x, e, hc⟩ := h i hi
  exact ⟨b, off, x, e, (hb.cell (World.block_lt_of_cell? w _ hc)).trans hc⟩
def TruePost (w : World) (e : Ending) (w' : World) : Prop := e = .returned (.bool true) ∧ Below w.heap.size w w'

theorem spelling_at {w : World} (u : World) (h : Below w.heap.size w u) : Calls Tryz.prog 12 #[] u fun e w' => e = .returned (.bool true) ∧ Below w.heap.size w w' :=
  (spelling_any u).mono fun _ _ q => ⟨q.1, h.trans (q.2.mono h.size)⟩

end Go.Proofs.YtlhiekeolmgilaaGreatDoor

/- What a frame is told of slices that came in. -/
namespace Go.Proofs.YtlhiekeolmgilaaGreatDoor
open Go.ChangeShapes Go.WideShapes Go.ChangeAt Go.RowKit Go.Deep

/-- Cells from an address on, as the laws name them. -/
theorem add_flat {b off : Nat} (i : Nat) : ((⟨b, off, none⟩ : Addr).add i) = ⟨b, off + i, none⟩ := by
  unfold Addr.add
  split
  · rename_i h; subst h; rfl
  · simp
theorem flat_addr {w : World} {a : Addr} {v : Value} (h : w.cell? (a.add 0) = some v) : a = ⟨a.block, a.off, none⟩ := by
  obtain ⟨b, off, spot⟩ := a
  have hs : spot = none := by simpa [Addr.add] using World.cell?_spot h
  rw [hs]

/-- A slice of strings that came in. -/
theorem strs_in {H : Type} {enc : TypeId × Value → H} {W : World} {base fuel len cap : Nat} {spare : Nat → Bool} {held : Bool} {a : Option Addr} {x : DataW H × List MemPlace}
    (hf : DataW.trod enc Tryz.prog W base spare held fuel 22 [.slice a len cap] = some x) :
    ∃ ss : List ByteArray, len = ss.length ∧ (a = none → cap = 0) ∧ Cells W a (ss.map Value.string) ∧ (len = 0 ∨ ∃ el sp, x.1 = .slice el sp ∧ el.length = len) := by
  rcases open_slice1 Tryz.underlying22 (by kernel_rfl) hf with ⟨hcs, _⟩ | ⟨ad, l, c, m, n, V, D, Pl, hcs, _, hl, _, hm, hx, hi⟩
  · simp at hcs
    obtain ⟨rfl, rfl, rfl⟩ := hcs
    exact ⟨[], rfl, (fun _ => rfl), (fun i h => nomatch h), .inl rfl⟩
  · simp at hcs
    obtain ⟨rfl, rfl, rfl⟩ := hcs
    have hml : len ≤ m := by rw [hm]; split <;> omega
    have hs : ∀ i, i < len → ∃ s : ByteArray, V i = .string s := fun i h => by
      obtain ⟨_, h2⟩ := hi i (by omega)
      obtain ⟨s, hs, _⟩ := DataW.trod_string Tryz.underlying9 h2
      exact ⟨s, by simpa using hs⟩
    refine ⟨(List.range len).map fun i => match V i with | .string s => s | _ => ByteArray.empty, by simp, (fun h => nomatch h), (fun i h => ?_), .inr ⟨_, _, by rw [hx], by simp⟩⟩
    have hil : i < len := by simpa using h
    obtain ⟨h1, _⟩ := hi i (by omega)
    obtain ⟨h0, _⟩ := hi 0 (by omega)
    have hfl := flat_addr h0
    refine ⟨ad.block, ad.off, by rw [← hfl], ?_⟩
    rw [hfl, add_flat] at h1
    rw [h1]
    obtain ⟨s, hs⟩ := hs i hil
    rw [hs, List.getD_eq_getElem?_getD, List.getElem?_eq_getElem h]
    simp [hs]

/-- A slice of integers that came in. -/
theorem nums_in {H : Type} {enc : TypeId × Value → H} {W : World} {base fuel len cap : Nat} {spare : Nat → Bool} {held : Bool} {a : Option Addr} {x : DataW H × List MemPlace}
    (hf : DataW.trod enc Tryz.prog W base spare held fuel 23 [.slice a len cap] = some x) :
    NumsIn W a len ∧ (len = 0 ∨ ∃ el sp, x.1 = .slice el sp ∧ el.length = len) := by
  rcases open_ints Tryz.underlying23 Tryz.underlying3 (by kernel_rfl) hf with ⟨hcs, _⟩ | ⟨ad, l, c, zs, hcs, _, hl, _, hz, hx, hcell, _⟩
  · simp at hcs
    obtain ⟨rfl, rfl, rfl⟩ := hcs
    exact ⟨(fun i h => nomatch h), .inl rfl⟩
  · simp at hcs
    obtain ⟨rfl, rfl, rfl⟩ := hcs
    have hml : len ≤ zs.length := by rw [hz]; split <;> omega
    refine ⟨(fun i h => ?_), .inr ⟨_, _, by rw [hx], by simp [lits]; omega⟩⟩
    have h1 := hcell i (by omega)
    have hfl := flat_addr (hcell 0 (by omega))
    refine ⟨ad.block, ad.off, zs.getD i 0, by rw [← hfl], ?_⟩
    rw [hfl, add_flat] at h1
    exact h1

/-- What the rows list as laid. -/
abbrev laidL : List (String × DataW Unit) := [("errors.errorType", Rows.laid_errors_errorType)]
/-- A world that meets the condition: the settled one, the variable's cell laid. -/
noncomputable def laidWorld (os : Os) : World :=
  let w0 := World.holding Tryz.prog os ⟨#[], #[], []⟩
  { w0 with heap := w0.heap.modify 0 fun
      | .cells _ t frozen => .cells #[.iface 200 (.agg #[.pointer (some ⟨2, 86, none⟩)])] t frozen
      | o => o }
theorem laidWorld_met (os : Os) (args : Array Value) : laidMetH Tryz.prog laidL ((laidWorld os).forCall (fun _ _ => 0) ⟨#[], args, []⟩).memory :=
  laidMetH_of_parts (laidMet_nil _ _) (by kernel_rfl)
end Go.Proofs.YtlhiekeolmgilaaGreatDoor

/- What a frame is told of the one listed variable of the library. -/
namespace Go.Proofs.YtlhiekeolmgilaaGreatDoor
open Go.ChangeShapes Go.WideShapes Go.ChangeAt Go.RowKit

theorem et : Tryz.prog.globalNamed "errors.errorType" = some 0 := by kernel_rfl
theorem rt : (Tryz.prog.cutTypes.find? (·.1 == "internal/reflectlite.rtype")).map (·.2) = some 200 := by kernel_rfl
theorem oneRow : ((List.range 261).filter fun t => Tryz.prog.rowNamed t [101, 114, 114, 111, 114]) = [86] := by kernel_rfl
theorem typesSize : Tryz.prog.types.size = 261 := by kernel_rfl

/-- What the condition gives a walk: the variable's one cell. -/
theorem handle_of_laid {W : World} (h : laidMetH Tryz.prog laidL W) : LaidErr W := by
  have h' : laidMet Tryz.prog [] W ∧ handlesMet Tryz.prog laidL W := h
  obtain ⟨name, u, ty, e1, e2, e3, e4, e5⟩ := h'.2 _ (List.mem_singleton.2 rfl)
  have en : name = [101, 114, 114, 111, 114] := (Option.some.inj e1).symm
  subst en
  obtain rfl := Option.some.inj (rt.symm.trans e2)
  have hm : ty ∈ (List.range 261).filter fun t => Tryz.prog.rowNamed t [101, 114, 114, 111, 114] := List.mem_filter.2 ⟨List.mem_range.2 (by rw [← typesSize]; exact e3), e4⟩
  rw [oneRow] at hm
  obtain rfl := List.mem_singleton.1 hm
  have hh : typeHandle Tryz.prog 86 = .pointer (some ⟨2, 86, none⟩) := by kernel_rfl
  rw [hh] at e5
  have := World.var?_cell et e5 0
  simpa [LaidErr] using this
end Go.Proofs.YtlhiekeolmgilaaGreatDoor

/- One name of the other alphabet for each key: the walk. -/
namespace Go.Proofs.YtlhiekeolmgilaaGreatDoor
open Go.RowKit

/-- A name that dice made. -/
def Made6 (s : ByteArray) : Prop := 1 ≤ s.size ∧ s.size ≤ 6 ∧ Letters s.data.toList
theorem key_call (s : ByteArray) (h : Sp.check s.data.toList = 0) (W : World) : Calls Tryz.prog 39 #[.string s] W fun e w' => e = .returned (.tuple #[.string (keyS s), .int .i64 0]) ∧ Below W.heap.size W w' := Key_ok s W h
theorem other_call (s : ByteArray) (p : ByteArray × Int) (hc : Sp.check s.data.toList = 0) (h : otherP s = p) (W : World) : Calls Tryz.prog 40 #[.string s] W fun e w' => e = .returned (.tuple #[.string p.1, .int .i64 p.2]) ∧ Below W.heap.size W w' := by
  have q := Other_ok s W hc
  unfold OtherOk at q
  rw [h] at q
  exact q
theorem latin_call (s : ByteArray) (v : Bool) (h : 0 < s.size) (hv : lat s.data.toList = v) (W : World) : Calls Tryz.prog 96 #[.string s] W fun e w' => e = .returned (.bool v) ∧ W = w' := by
  have q := Latin_any s W h
  rw [show s.data.toList.head?.any Sp.latin = v from hv] at q
  exact q
theorem keyS_eq {a b : ByteArray} (h : Sp.key a.data.toList = Sp.key b.data.toList) : keyS a = keyS b := by unfold keyS; rw [h]

end Go.Proofs.YtlhiekeolmgilaaGreatDoor

/- Which of two names comes first. -/
namespace Go.Proofs.YtlhiekeolmgilaaGreatDoor
open Go.RowKit Go.Shelf

set_option maxRecDepth 100000 in
set_option maxHeartbeats 800000 in
theorem Compare_ok (a b : ByteArray) (w : World) (hv : AllOk [a, b]) :
    Calls Tryz.prog 18 #[.string a, .string b] w fun e w' => e = .returned (.tuple #[.int .i64 (cmpSpell (spellOf a) (spellOf b)), .int .i64 0]) ∧ Below w.heap.size w w' := by
  obtain ⟨v, hvv⟩ : ∃ v, cmpSpell (spellOf a) (spellOf b) = v := ⟨_, rfl⟩
  have q := fun W => compare_any (spellOf a) (spellOf b) W
  rw [hvv] at q ⊢
  unfold spellOf at q
  have HQ := Lib.hid q
  have HV := Lib.hid hv
  clear hv hvv q
  go_enter Tryz.func18, Tryz.ntmps18
  go_wp2_with fail
  have ca := cells_lit w #[.string a, .string b] 9 2 rfl (by unfold maxLen; omega)
  have hba : Below w.heap.size w (w.alloc (.cells #[.string a, .string b] 9)) := (Below.refl _ w).alloc (Nat.le_refl _) _
  have q2 := readAll_ok (some ⟨w.heap.size, 0, none⟩) 2 2 [a, b] _ rfl (by omega) HV.out ca
  have Q2 := Lib.hid q2
  clear q2 ca
  generalize w.alloc (.cells #[.string a, .string b] 9) = W2 at *
  refine Q2.out.mono ?_
  rintro e w3 ⟨o, rfl, ho, hb3⟩
  obtain ⟨g, cap, rfl⟩ := own_head ho
  have hb3' := hba.trans (hb3.mono hba.size)
  have cs := cells_own ho
  obtain ⟨b0, o0, e0, s0⟩ := cs 0 (by simp [spellCells])
  obtain ⟨b1, o1, e1, s1⟩ := cs 1 (by simp [spellCells])
  obtain ⟨b2, o2, e2, s2⟩ := cs 2 (by simp [spellCells])
  obtain ⟨b3, o3, e3, s3⟩ := cs 3 (by simp [spellCells])
  cases e0
  cases e1
  cases e2
  cases e3
  have s0' : w3.cell? ⟨g, 0, none⟩ = some (.string (keyS a)) := s0
  have s1' : w3.cell? ⟨g, 1, none⟩ = some (.int .i64 (alphaN a.data.toList)) := s1
  have s2' : w3.cell? ⟨g, 2, none⟩ = some (.string (keyS b)) := s2
  have s3' : w3.cell? ⟨g, 3, none⟩ = some (.int .i64 (alphaN b.data.toList)) := s3
  have q := HQ.out
  clear HQ
  generalize keyS a = A at *
  generalize keyS b = B at *
  generalize alphaN a.data.toList = p at *
  generalize alphaN b.data.toList = q' at *
  clear Q2 hb3 cs ho hba s0 s1 s2 s3
  obtain ⟨T, gg, hg0, hgb, h0, h1, h2, h3, hT⟩ : ∃ (T : Type) (g' : T → World), (∃ x, w3.drew = g' x) ∧ (∀ x, Below w3.heap.size w3 (g' x)) ∧ (∀ x, (g' x).cell? ⟨g, 0, none⟩ = some (.string A)) ∧ (∀ x, (g' x).cell? ⟨g, 1, none⟩ = some (.int .i64 p)) ∧ (∀ x, (g' x).cell? ⟨g, 2, none⟩ = some (.string B)) ∧ (∀ x, (g' x).cell? ⟨g, 3, none⟩ = some (.int .i64 q')) ∧
      (∀ x, Calls Tryz.prog 62 #[.agg #[.string A, .int .i64 p], .agg #[.string B, .int .i64 q']] (g' x) fun e w' => e = .returned (.int .i64 v) ∧ ∃ y, w' = g' y) :=
    ⟨Since w3, Subtype.val, Since.here w3, fun x => x.property, fun x => x.cell s0', fun x => x.cell s1', fun x => x.cell s2', fun x => x.cell s3', fun x => x.calls ((q _).mono fun _ _ h => ⟨h.1, h.2.below⟩)⟩
  have hTne : Nonempty T := let ⟨x, _⟩ := hg0; ⟨x⟩
  have HT1 := Lib.hid hT
  clear hT s0' s1' s2' s3' q
  go_wp2_with fail
  refine wp_region_class gg hg0 (by kernel_rfl) (by kernel_rfl) ?_
  repeat (go_big_quiet_step (fail))
  go_big_quiet_step (exact HT1.out _)
  repeat (go_big_quiet_step (fail))
  refine wpQuiet_nil ?_
  rintro _ ⟨xq, rfl⟩
  have t5 := hb3'.trans ((hgb xq).mono hb3'.size)
  clear hgb hg0
  go_wp2_with fail
  go_ret2
  exact ⟨rfl, t5⟩
end Go.Proofs.YtlhiekeolmgilaaGreatDoor

/- Made names; a region's worlds drawn on. -/
namespace Go.Proofs.YtlhiekeolmgilaaGreatDoor
open Go.RowKit

theorem check_letters {l : List UInt8} (h : Sp.check l = 0) : Letters l := by
  unfold Sp.check at h
  split at h
  · exact absurd h (by decide)
  · split at h
    · exact absurd h (by decide)
    · split at h
      · exact absurd h (by decide)
      · rename_i h0 _ h2
        have hz : ¬ (Sp.own l < l.length ∧ Sp.other l < l.length) := h2
        have h4 : Sp.own l ≤ l.length := List.length_filter_le _ _
        have h5 : Sp.other l ≤ l.length := List.length_filter_le _ _
        by_cases ho : Sp.own l = l.length
        · unfold Sp.own at ho
          exact .inl (List.length_filter_eq_length_iff.1 ho)
        · have h3 : Sp.other l = l.length := by omega
          unfold Sp.other at h3
          have ha := List.length_filter_eq_length_iff.1 h3
          exact .inr fun c hc => by have := ha c hc; simpa using this
theorem made_check {s : ByteArray} (h : Made6 s) : Sp.check s.data.toList = 0 := (other_facts s h.1 h.2.1 h.2.2).1
theorem made_ok2 {a b : ByteArray} (ha : Made6 a) (hb : Made6 b) : AllOk [a, b] := by
  intro s hs
  simp at hs
  rcases hs with rfl | rfl
  · exact made_check ha
  · exact made_check hb
theorem cmp_call {a b : ByteArray} {n : Int} (ha : Made6 a) (hb : Made6 b) (hn : cmpSpell (spellOf a) (spellOf b) = n) (W : World) :
    Calls Tryz.prog 18 #[.string a, .string b] W fun e w' => e = .returned (.tuple #[.int .i64 n, .int .i64 0]) ∧ Below W.heap.size W w' := by
  subst hn
  exact Compare_ok a b W (made_ok2 ha hb)

theorem Since.drew {w : World} (x : Since w) : ∃ y : Since w, x.val.drew = y.val := ⟨⟨x.val.drew, x.property.drew⟩, rfl⟩
end Go.Proofs.YtlhiekeolmgilaaGreatDoor

/- Lists of made names; one cell more of a row. -/
namespace Go.Proofs.YtlhiekeolmgilaaGreatDoor
open Go.RowKit

theorem made_all {L : List ByteArray} (h : ∀ i (h : i < L.length), Made6 L[i]) : AllOk L := by
  intro s hs
  obtain ⟨i, hi, rfl⟩ := List.mem_iff_getElem.1 hs
  exact made_check (h i hi)
theorem made_snoc {L : List ByteArray} {X : ByteArray} (h : ∀ i (h : i < L.length), Made6 L[i]) (hX : Made6 X) : ∀ i (h : i < (L ++ [X]).length), Made6 (L ++ [X])[i] := by
  intro i hi
  by_cases hl : i < L.length
  · rw [List.getElem_append_left hl]; exact h i hl
  · rw [List.getElem_append_right (by omega)]
    have : i - L.length = 0 := by simp at hi; omega
    simp only [this]
    exact hX
theorem grown_set (w : World) (B j : Nat) (v : Value) : w.grownBy (w.setCell ⟨B, j, none⟩ v) (some B) :=
  ⟨rfl, rfl, rfl, by simp [World.setCell], fun k _ hk => Below.heap_setCell _ _ _ _ (fun e => hk (by simp [e]))⟩
theorem set_last (L : List ByteArray) (X Y : ByteArray) : ((L ++ [X]).map Value.string).set L.length (.string Y) = (L ++ [Y]).map Value.string := by
  rw [List.map_append, List.map_append, List.set_append_right _ _ (by simp)]
  simp
/-- The last cell of a row of strings. -/
theorem own_last {w : World} {base cap g : Nat} {e : TypeId} {xs : List Value} {v : Value} {n : Nat} (h : w.ownsRow base e 1 (.slice (some ⟨g, 0, none⟩) n cap) n (xs ++ [v])) (k : Nat) (hk : xs.length = k) : w.cell? ⟨g, k, none⟩ = some v := by
  have hl := h.1
  rw [List.length_append, Nat.mul_one] at hl
  rw [h.cellAt k (by simp at hl; omega), List.getElem?_append_right (by omega), hk]
  simp
end Go.Proofs.YtlhiekeolmgilaaGreatDoor

/- One name more in a list never makes the shortest abbreviation shorter: the walk. -/
namespace Go.Proofs.YtlhiekeolmgilaaGreatDoor
open Go.RowKit

theorem shortest_call {A : Option Addr} {n c i : Nat} {ss : List ByteArray} {W0 : World} {p : List UInt8 × Int} (hn : n = ss.length) (hb : n ≤ 6) (hv : AllOk ss) (hx : Cells W0 A (ss.map Value.string)) (hi : i < ss.length) (hp : shortestG ss i = p) (W : World) (hW : Below W0.heap.size W0 W) :
    Calls Tryz.prog 45 #[.slice A n c, .int .i64 i] W fun e w' => e = .returned (.tuple #[.string ⟨p.1.toArray⟩, .int .i64 p.2]) ∧ Below W.heap.size W w' := by
  subst hp
  refine (Shortest_ok A n c i ss W hn hb hv (hx.below hW) (by rw [hn]; exact hi)).mono ?_
  rintro e w' ⟨s', h1, rfl, hb⟩
  refine ⟨?_, hb⟩
  rw [← h1]
end Go.Proofs.YtlhiekeolmgilaaGreatDoor
