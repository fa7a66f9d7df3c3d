/- The chapter's examples that each statement of the layer asks for. -/
import Derived.Test.YtljlkhaolfihjaaGreatDoorPgS
import Derived.Test.YtljlkhaolfihjaaGreatDoorKitB
import Derived.Test.YtljlkhaolfihjaaGreatDoorKitC
import Derived.Test.YtljlkhaolfihjaaGreatDoorKitD
import Derived.Test.YtljlkhaolfihjaaGreatDoorKitE
import Derived.Test.YtljlkhaolfihjaaGreatDoorDiceF
import Derived.Test.YtljlkhaolfihjaaGreatDoorRows
import Derived.Test.YtljlkhaolfihjaaGreatDoorTie
import Derived.Test.YtljlkhaolfihjaaGreatDoorCards
import Derived.LaidLaws
import Derived.LaidHandle
import Derived.Stop.Joined
import Derived.JoinedOf
import Derived.ChangeVars
import Derived.RowKitTokens
import Derived.Handed
import Derived.SevenTiedAt
import Derived.ProofKit
import Derived.OpenShut
import Derived.ShutString
import Derived.ChangeOld
import Derived.ChangeMaps5
import Derived.Deep.Slices
import Derived.SizedLaws
import Derived.Test.YtljlkhaolfihjaaGreatDoorPgZ
namespace Go.Proofs.YtljlkhaolfihjaaGreatDoor
open Go.RowKit

def four : List ByteArray := [⟨#[99, 104, 97, 100]⟩, ⟨#[67, 65, 68]⟩, ⟨#[97, 110, 110, 97]⟩, ⟨#[66, 69, 78]⟩]
def three : List ByteArray := [⟨#[115, 109, 121, 116, 104, 101]⟩, ⟨#[115, 109, 105, 116, 104, 101]⟩, ⟨#[115, 109, 105, 116, 104]⟩]

theorem four_ok : AllOk four := by unfold AllOk; decide +kernel
theorem smiths_ok : AllOk smithsList := by unfold AllOk; decide +kernel
set_option maxRecDepth 100000 in
theorem sp1 (w : World) : Calls Tryz.prog 24 #[.string ⟨#[67, 65, 68]⟩] w fun e w' => e = .returned (.tuple #[.string ⟨#[99, 104, 97, 100]⟩, .int .i64 0]) ∧ Below w.heap.size w w' := by
  have h := Key_ok ⟨#[67, 65, 68]⟩ w (by decide +kernel)
  rw [show keyS (⟨#[67, 65, 68]⟩ : ByteArray) = ⟨#[99, 104, 97, 100]⟩ by decide +kernel] at h
  exact h
set_option maxRecDepth 100000 in
theorem sp2 (A : Option Addr) (c : Nat) (w : World) (hx : Cells w A (four.map Value.string)) : Calls Tryz.prog 16 #[.slice A 4 c] w (SortPost [2, 3, 0, 1] w) := by
  have h := Sort_ok A 3 c four w rfl (by decide) four_ok hx
  rw [show sortG (four.map spellOf) = [2, 3, 0, 1] by decide +kernel] at h
  exact h
theorem rules_ok : RulesOk rulesList := by
  refine ⟨by decide +kernel, ?_⟩
  unfold LowB
  decide +kernel
set_option maxRecDepth 100000 in
theorem sp3 (A : Option Addr) (c : Nat) (w : World) (hx : Cells w A (ruleCells rulesList)) : Calls Tryz.prog 39 #[.slice A 3 c, .string ⟨#[115, 109, 121, 116, 104, 101]⟩, .string ⟨#[115, 109, 105, 116, 104]⟩] w (ChainsPost (three, 0) w) := by
  have h := Chain_ok A 3 c 2 rulesList ⟨#[115, 109, 121, 116, 104, 101]⟩ ⟨#[115, 109, 105, 116, 104]⟩ w rfl rules_ok (by unfold AllOk; decide +kernel) hx (by decide +kernel) (by decide) (by decide +kernel) (by decide +kernel)
  rw [show chainG rulesList (keyS ⟨#[115, 109, 121, 116, 104, 101]⟩) (keyS ⟨#[115, 109, 105, 116, 104]⟩) = (three, 0) by decide +kernel] at h
  exact h
theorem found_str {p : List UInt8 × Int} {s : ByteArray} {v : Int} {f : FuncId} {args : Array Value} {w : World} (h : Calls Tryz.prog f args w (FoundPost p w)) (e : p = (s.data.toList, v)) : Calls Tryz.prog f args w (StrErrPost (s, v) w) := by
  refine h.mono ?_
  rintro e' w' ⟨s', h1, rfl, hb⟩
  subst e
  have : s' = s := by
    cases s' with | mk a => cases s with | mk b => congr 1; exact Array.toList_inj.1 h1
  subst this
  exact ⟨rfl, hb⟩
set_option maxRecDepth 100000 in
theorem sp4 (A : Option Addr) (c : Nat) (w : World) (hx : Cells w A (smithsList.map Value.string)) : Calls Tryz.prog 33 #[.slice A 3 c, .int .i64 0] w (StrErrPost (⟨#[115, 105, 46]⟩, 0) w) := by
  exact found_str (Shortest_ok A 3 c 0 smithsList w rfl (by decide) smiths_ok hx (by decide)) (by decide +kernel)
set_option maxRecDepth 100000 in
theorem sp5 (A : Option Addr) (c : Nat) (w : World) (hx : Cells w A (smithsList.map Value.string)) : Calls Tryz.prog 34 #[.slice A 3 c, .int .i64 0, .int .i64 4] w (StrErrPost (⟨#[115, 105, 104, 46]⟩, 0) w) := by
  exact found_str (Fit_ok A 3 c 0 4 smithsList w rfl (by decide) smiths_ok hx (by decide) (by decide) (by decide +kernel)) (by decide +kernel)

set_option maxRecDepth 100000 in
set_option maxHeartbeats 3200000 in
theorem spelling_any (w : World) : Calls Tryz.prog 8 #[] w fun e w' => e = .returned (.bool true) ∧ Below w.heap.size w w' := by
  go_enter Tryz.func8, Tryz.ntmps8
  go_wp2_with fail
  refine (sp1 _).mono ?_
  rintro e w1 ⟨rfl, hb1⟩
  have c1 : Cells (w1.alloc (.cells #[.string ⟨#[99, 104, 97, 100]⟩, .string ⟨#[67, 65, 68]⟩, .string ⟨#[97, 110, 110, 97]⟩, .string ⟨#[66, 69, 78]⟩] 9)) (some ⟨w1.heap.size, 0, none⟩) (four.map Value.string) :=
    cells_lit w1 _ 9 4 rfl (by unfold maxLen; omega)
  have C1 := Lib.hid c1
  have ha1 := hb1.alloc (o := .cells #[.string ⟨#[99, 104, 97, 100]⟩, .string ⟨#[67, 65, 68]⟩, .string ⟨#[97, 110, 110, 97]⟩, .string ⟨#[66, 69, 78]⟩] 9) hb1.size
  clear c1
  go_wp2_with fail
  refine (sp2 _ _ _ C1.out).mono ?_
  rintro e w2 ⟨O2, cap2, rfl, ho2, hb2⟩
  have hb2' := ha1.trans (hb2.mono ha1.size)
  have D2 := Lib.hid ho2
  clear ho2 hb2
  go_wp2_with fail
  refine (rules_any _).mono ?_
  rintro e w3 ⟨o3, rfl, ho3, hb3⟩
  obtain ⟨O3, cap3, rfl⟩ := own_form ho3
  have hb3' := hb2'.trans (hb3.mono hb2'.size)
  have C3 := Lib.hid (cells_own ho3)
  have D3 := Lib.hid (D2.out.below hb3)
  clear D2 ho3 hb3 hb2'
  go_wp2_with fail
  refine (sp3 _ _ _ C3.out).mono ?_
  rintro e w4 ⟨o4, rfl, ho4, hb4⟩
  obtain ⟨O4, cap4, rfl⟩ := own_form ho4
  have hb4' := hb3'.trans (hb4.mono hb3'.size)
  have D4 := Lib.hid (D3.out.below hb4)
  have E4 := Lib.hid (cells_own ho4)
  clear C3 D3 ho4 hb4 hb3'
  go_wp2_with fail
  refine (smiths_any _).mono ?_
  rintro e w5 ⟨o5, rfl, ho5, hb5⟩
  obtain ⟨O5, cap5, rfl⟩ := own_form ho5
  have hb5' := hb4'.trans (hb5.mono hb4'.size)
  have C5 := Lib.hid (cells_own ho5)
  have D5 := Lib.hid (D4.out.below hb5)
  have E5 := Lib.hid (E4.out.below hb5)
  clear D4 E4 ho5 hb5 hb4'
  go_wp2_with fail
  refine (sp4 _ _ _ C5.out).mono ?_
  rintro e w6 ⟨rfl, hb6⟩
  have hb6' := hb5'.trans (hb6.mono hb5'.size)
  have D6 := Lib.hid (D5.out.below hb6)
  have E6 := Lib.hid (E5.out.below hb6)
  clear D5 E5 C5 hb6 hb5'
  go_wp2_with fail
  refine (smiths_any _).mono ?_
  rintro e w7 ⟨o7, rfl, ho7, hb7⟩
  obtain ⟨O7, cap7, rfl⟩ := own_form ho7
  have hb7' := hb6'.trans (hb7.mono hb6'.size)
  have C7 := Lib.hid (cells_own ho7)
  have D7 := Lib.hid (D6.out.below hb7)
  have E7 := Lib.hid (E6.out.below hb7)
  clear D6 E6 ho7 hb7 hb6'
  go_wp2_with fail
  refine (sp5 _ _ _ C7.out).mono ?_
  rintro e w8 ⟨rfl, hb8⟩
  have hb8' := hb7'.trans (hb8.mono hb7'.size)
  have D8 := Lib.hid (D7.out.below hb8)
  have E8 := Lib.hid (E7.out.below hb8)
  clear D7 E7 C7 hb8 hb7'
  have x8 : Below w8.heap.size w8 (w8.alloc (.cells #[.int .i64 2, .int .i64 3, .int .i64 0, .int .i64 1] 3)) := (Below.refl _ _).alloc (Nat.le_refl _) _
  have y8 := hb8'.alloc (o := .cells #[.int .i64 2, .int .i64 3, .int .i64 0, .int .i64 1] 3) hb8'.size
  have c8 : Cells (w8.alloc (.cells #[.int .i64 2, .int .i64 3, .int .i64 0, .int .i64 1] 3)) (some ⟨w8.heap.size, 0, none⟩) (([2, 3, 0, 1] : List Int).map (Value.int .i64)) :=
    cells_lit w8 _ 3 4 rfl (by unfold maxLen; omega)
  have q8 := EqInts_any _ _ 4 4 cap2 4 [2, 3, 0, 1] [2, 3, 0, 1] (w8.alloc (.cells #[.int .i64 2, .int .i64 3, .int .i64 0, .int .i64 1] 3)) rfl rfl (by decide) (D8.out.below x8) c8
  have Q8 := Lib.hid q8
  have E9 := Lib.hid (E8.out.below x8)
  clear D8 E8 x8 c8 q8 hb8'
  go_wp2_with fail
  refine Q8.out.mono ?_
  rintro e w9 ⟨rfl, n9, rfl⟩
  rw [show decide (([2, 3, 0, 1] : List Int) = [2, 3, 0, 1]) = true from rfl]
  have y9 := y8.trans (Drew.below (w' := (w8.alloc (.cells #[.int .i64 2, .int .i64 3, .int .i64 0, .int .i64 1] 3)).drewN n9) ⟨n9, rfl⟩ w.heap.size)
  have E10 := Lib.hid (E9.out.below (Drew.below (w' := (w8.alloc (.cells #[.int .i64 2, .int .i64 3, .int .i64 0, .int .i64 1] 3)).drewN n9) ⟨n9, rfl⟩ _))
  clear Q8 E9 y8
  generalize (w8.alloc (.cells #[.int .i64 2, .int .i64 3, .int .i64 0, .int .i64 1] 3)).drewN n9 = wa at *
  have c8 : Cells (wa.alloc (.cells #[.string ⟨#[115, 109, 121, 116, 104, 101]⟩, .string ⟨#[115, 109, 105, 116, 104, 101]⟩, .string ⟨#[115, 109, 105, 116, 104]⟩] 9)) (some ⟨wa.heap.size, 0, none⟩) (three.map Value.string) :=
    cells_lit wa _ 9 3 rfl (by unfold maxLen; omega)
  have x8 : Below wa.heap.size wa (wa.alloc (.cells #[.string ⟨#[115, 109, 121, 116, 104, 101]⟩, .string ⟨#[115, 109, 105, 116, 104, 101]⟩, .string ⟨#[115, 109, 105, 116, 104]⟩] 9)) := (Below.refl _ _).alloc (Nat.le_refl _) _
  have q8 := EqStrings_any _ _ 3 3 cap4 3 three three (wa.alloc (.cells #[.string ⟨#[115, 109, 121, 116, 104, 101]⟩, .string ⟨#[115, 109, 105, 116, 104, 101]⟩, .string ⟨#[115, 109, 105, 116, 104]⟩] 9)) rfl rfl (by decide) (E10.out.below x8) c8
  have y10 := y9.trans (x8.mono y9.size)
  have Q8 := Lib.hid q8
  clear x8 c8 q8 E10
  go_wp2_with fail
  refine Q8.out.mono ?_
  rintro e wz ⟨rfl, n10, rfl⟩
  rw [show decide (three = three) = true from by simp]
  go_wp2
  go_ret
  exact ⟨rfl, y10.trans (Drew.below ⟨n10, rfl⟩ _)⟩
end Go.Proofs.YtljlkhaolfihjaaGreatDoor

/- The numbers of a slice; the examples at any world. -/
namespace Go.Proofs.YtljlkhaolfihjaaGreatDoor
open Go.RowKit

/-- The numbers of a slice that came in. -/
def NumsIn (w : World) (A : Option Addr) (n : Nat) : Prop := ∀ i, i < n → ∃ (b off : Nat) (x : Int), A = some ⟨b, off, none⟩ ∧ w.cell? ⟨b, off + i, none⟩ = some (.int .i64 x)
theorem NumsIn.below {w w' : World} {A : Option Addr} {n : Nat} (h : NumsIn w A n) (hb : Below w.heap.size w w') : NumsIn w' A n := fun i hi => by
  obtain ⟨b, off, x, e, hc⟩ := h i hi
  exact ⟨b, off, x, e, (hb.cell (World.block_lt_of_cell? w _ hc)).trans hc⟩
def TruePost (w : World) (e : Ending) (w' : World) : Prop := e = .returned (.bool true) ∧ Below w.heap.size w w'

theorem spelling_at {w : World} (u : World) (h : Below w.heap.size w u) : Calls Tryz.prog 8 #[] u fun e w' => e = .returned (.bool true) ∧ Below w.heap.size w w' :=
  (spelling_any u).mono fun _ _ q => ⟨q.1, h.trans (q.2.mono h.size)⟩

end Go.Proofs.YtljlkhaolfihjaaGreatDoor

/- What a frame is told of slices that came in. -/
namespace Go.Proofs.YtljlkhaolfihjaaGreatDoor
open Go.ChangeShapes Go.WideShapes Go.ChangeAt Go.RowKit Go.Deep

/-- Cells from an address on, as the laws name them. -/
theorem add_flat {b off : Nat} (i : Nat) : ((⟨b, off, none⟩ : Addr).add i) = ⟨b, off + i, none⟩ := by
  unfold Addr.add
  split
  · rename_i h; subst h; rfl
  · simp
theorem flat_addr {w : World} {a : Addr} {v : Value} (h : w.cell? (a.add 0) = some v) : a = ⟨a.block, a.off, none⟩ := by
  obtain ⟨b, off, spot⟩ := a
  have hs : spot = none := by simpa [Addr.add] using World.cell?_spot h
  rw [hs]

/-- A slice of strings that came in. -/
theorem strs_in {H : Type} {enc : TypeId × Value → H} {W : World} {base fuel len cap : Nat} {spare : Nat → Bool} {held : Bool} {a : Option Addr} {x : DataW H × List MemPlace}
    (hf : DataW.trod enc Tryz.prog W base spare held fuel 22 [.slice a len cap] = some x) :
    ∃ ss : List ByteArray, len = ss.length ∧ (a = none → cap = 0) ∧ Cells W a (ss.map Value.string) ∧ (len = 0 ∨ ∃ el sp, x.1 = .slice el sp ∧ el.length = len) := by
  rcases open_slice1 Tryz.underlying22 (by kernel_rfl) hf with ⟨hcs, _⟩ | ⟨ad, l, c, m, n, V, D, Pl, hcs, _, hl, _, hm, hx, hi⟩
  · simp at hcs
    obtain ⟨rfl, rfl, rfl⟩ := hcs
    exact ⟨[], rfl, (fun _ => rfl), (fun i h => nomatch h), .inl rfl⟩
  · simp at hcs
    obtain ⟨rfl, rfl, rfl⟩ := hcs
    have hml : len ≤ m := by rw [hm]; split <;> omega
    have hs : ∀ i, i < len → ∃ s : ByteArray, V i = .string s := fun i h => by
      obtain ⟨_, h2⟩ := hi i (by omega)
      obtain ⟨s, hs, _⟩ := DataW.trod_string Tryz.underlying9 h2
      exact ⟨s, by simpa using hs⟩
    refine ⟨(List.range len).map fun i => match V i with | .string s => s | _ => ByteArray.empty, by simp, (fun h => nomatch h), (fun i h => ?_), .inr ⟨_, _, by rw [hx], by simp⟩⟩
    have hil : i < len := by simpa using h
    obtain ⟨h1, _⟩ := hi i (by omega)
    obtain ⟨h0, _⟩ := hi 0 (by omega)
    have hfl := flat_addr h0
    refine ⟨ad.block, ad.off, by rw [← hfl], ?_⟩
    rw [hfl, add_flat] at h1
    rw [h1]
    obtain ⟨s, hs⟩ := hs i hil
    rw [hs, List.getD_eq_getElem?_getD, List.getElem?_eq_getElem h]
    simp [hs]

/-- A slice of integers that came in. -/
theorem nums_in {H : Type} {enc : TypeId × Value → H} {W : World} {base fuel len cap : Nat} {spare : Nat → Bool} {held : Bool} {a : Option Addr} {x : DataW H × List MemPlace}
    (hf : DataW.trod enc Tryz.prog W base spare held fuel 23 [.slice a len cap] = some x) :
    NumsIn W a len ∧ (len = 0 ∨ ∃ el sp, x.1 = .slice el sp ∧ el.length = len) := by
  rcases open_ints Tryz.underlying23 Tryz.underlying3 (by kernel_rfl) hf with ⟨hcs, _⟩ | ⟨ad, l, c, zs, hcs, _, hl, _, hz, hx, hcell, _⟩
  · simp at hcs
    obtain ⟨rfl, rfl, rfl⟩ := hcs
    exact ⟨(fun i h => nomatch h), .inl rfl⟩
  · simp at hcs
    obtain ⟨rfl, rfl, rfl⟩ := hcs
    have hml : len ≤ zs.length := by rw [hz]; split <;> omega
    refine ⟨(fun i h => ?_), .inr ⟨_, _, by rw [hx], by simp [lits]; omega⟩⟩
    have h1 := hcell i (by omega)
    have hfl := flat_addr (hcell 0 (by omega))
    refine ⟨ad.block, ad.off, zs.getD i 0, by rw [← hfl], ?_⟩
    rw [hfl, add_flat] at h1
    exact h1

/-- What the rows list as laid. -/
abbrev laidL : List (String × DataW Unit) := [("errors.errorType", Rows.laid_errors_errorType)]
/-- A world that meets the condition: the settled one, the variable's cell laid. -/
noncomputable def laidWorld (os : Os) : World :=
  let w0 := World.holding Tryz.prog os ⟨#[], #[], []⟩
  { w0 with heap := w0.heap.modify 0 fun
      | .cells _ t frozen => .cells #[.iface 186 (.agg #[.pointer (some ⟨2, 78, none⟩)])] t frozen
      | o => o }
theorem laidWorld_met (os : Os) (args : Array Value) : laidMetH Tryz.prog laidL ((laidWorld os).forCall (fun _ _ => 0) ⟨#[], args, []⟩).memory :=
  laidMetH_of_parts (laidMet_nil _ _) (by kernel_rfl)
end Go.Proofs.YtljlkhaolfihjaaGreatDoor

/- What a frame is told of the one listed variable of the library. -/
namespace Go.Proofs.YtljlkhaolfihjaaGreatDoor
open Go.ChangeShapes Go.WideShapes Go.ChangeAt Go.RowKit

theorem et : Tryz.prog.globalNamed "errors.errorType" = some 0 := by kernel_rfl
theorem rt : (Tryz.prog.cutTypes.find? (·.1 == "internal/reflectlite.rtype")).map (·.2) = some 186 := by kernel_rfl
theorem oneRow : ((List.range 247).filter fun t => Tryz.prog.rowNamed t [101, 114, 114, 111, 114]) = [78] := by kernel_rfl
theorem typesSize : Tryz.prog.types.size = 247 := by kernel_rfl

/-- What the condition gives a walk: the variable's one cell. -/
theorem handle_of_laid {W : World} (h : laidMetH Tryz.prog laidL W) : LaidErr W := by
  have h' : laidMet Tryz.prog [] W ∧ handlesMet Tryz.prog laidL W := h
  obtain ⟨name, u, ty, e1, e2, e3, e4, e5⟩ := h'.2 _ (List.mem_singleton.2 rfl)
  have en : name = [101, 114, 114, 111, 114] := (Option.some.inj e1).symm
  subst en
  obtain rfl := Option.some.inj (rt.symm.trans e2)
  have hm : ty ∈ (List.range 247).filter fun t => Tryz.prog.rowNamed t [101, 114, 114, 111, 114] := List.mem_filter.2 ⟨List.mem_range.2 (by rw [← typesSize]; exact e3), e4⟩
  rw [oneRow] at hm
  obtain rfl := List.mem_singleton.1 hm
  have hh : typeHandle Tryz.prog 78 = .pointer (some ⟨2, 78, none⟩) := by kernel_rfl
  rw [hh] at e5
  have := World.var?_cell et e5 0
  simpa [LaidErr] using this
end Go.Proofs.YtljlkhaolfihjaaGreatDoor

/- Lists of strings in a law's hands. -/
namespace Go.Proofs.YtljlkhaolfihjaaGreatDoor
open Go.RowKit

/-- A slice of strings, not long. -/
def StrList (w : World) (v : Value) (ss : List ByteArray) : Prop := ∃ A n c, v = .slice A n c ∧ n = ss.length ∧ n ≤ 1000 ∧ (A = none → c = 0) ∧ Cells w A (ss.map Value.string)
theorem StrList.below {w w' : World} {v : Value} {ss : List ByteArray} (h : StrList w v ss) (hb : Below w.heap.size w w') : StrList w' v ss := by
  obtain ⟨A, n, c, e, hn, hm, h0, hc⟩ := h
  exact ⟨A, n, c, e, hn, hm, h0, hc.below hb⟩
theorem StrList.own {w : World} {base n : Nat} {e : TypeId} {v : Value} {ss : List ByteArray} (h : w.ownsRow base e 1 v n (ss.map Value.string)) (hn : n = ss.length) (hm : n ≤ 1000) : StrList w v ss := by
  rcases h.2 with ⟨rfl, h0⟩ | ⟨g, cap, cur, rfl, _⟩
  · exact ⟨none, 0, 0, rfl, by omega, by omega, (fun _ => rfl), by have : ss = [] := List.eq_nil_of_length_eq_zero (by omega); subst this; intro i hi; cases hi⟩
  · exact ⟨_, n, cap, rfl, hn, hm, (fun q => nomatch q), cells_own h⟩
/-- Cells that hold such slices. -/
def StrLists (w : World) (B : Option Addr) (vs : List Value) : Prop := Cells w B vs ∧ ∀ i (h : i < vs.length), ∃ ss, StrList w vs[i] ss
theorem StrLists.below {w w' : World} {B : Option Addr} {vs : List Value} (h : StrLists w B vs) (hb : Below w.heap.size w w') : StrLists w' B vs :=
  ⟨h.1.below hb, fun i hi => by obtain ⟨ss, hs⟩ := h.2 i hi; exact ⟨ss, hs.below hb⟩⟩
theorem Cells.any {w : World} {A : Option Addr} {vs : List Value} (h : Cells w A vs) (i : Nat) (hi : i < vs.length) : ∃ b off : Nat, A = some ⟨b, off, none⟩ ∧ w.cell? ⟨b, off + i, none⟩ = some vs[i] := by
  obtain ⟨b, off, e, hc⟩ := h i hi
  exact ⟨b, off, e, by rw [hc, List.getD_eq_getElem?_getD, List.getElem?_eq_getElem hi]; rfl⟩

theorem long_list {ss : List ByteArray} (h : longB [] ss = false) : ss.length ≤ 20 ∧ ∀ s, s ∈ ss → s.size ≤ 20 := by
  rw [longB_eq] at h
  simp only [Bool.or_eq_false_iff, decide_eq_false_iff_not] at h
  refine ⟨by omega, fun s hs => ?_⟩
  have h1 := h.1.1.1
  rw [List.any_eq_false] at h1
  have h2 := h1 s hs
  unfold strLong at h2
  simp only [decide_eq_true_eq] at h2
  omega

theorem own_lit (w : World) (base : Nat) (cs : Array Value) (e : TypeId) (n : Nat) (hb : base ≤ w.heap.size) (hn : cs.size = n) (hm : n ≤ 1000) :
    (w.alloc (.cells cs e)).ownsRow base e 1 (.slice (some ⟨w.heap.size, 0, none⟩) n n) n cs.toList :=
  World.ownsRow_lit w cs n hb (by unfold maxLen; omega) (by omega)
end Go.Proofs.YtljlkhaolfihjaaGreatDoor
