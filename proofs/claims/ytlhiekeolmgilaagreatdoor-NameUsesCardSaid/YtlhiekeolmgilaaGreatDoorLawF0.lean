/- The chapter's examples that each statement of the layer asks for. -/
import Derived.Test.YtlhiekeolmgilaaGreatDoorPgS
import Derived.Test.YtlhiekeolmgilaaGreatDoorKitB
import Derived.Test.YtlhiekeolmgilaaGreatDoorKitC
import Derived.Test.YtlhiekeolmgilaaGreatDoorKitD
import Derived.Test.YtlhiekeolmgilaaGreatDoorKitE
import Derived.Test.YtlhiekeolmgilaaGreatDoorDiceF
import Derived.Test.YtlhiekeolmgilaaGreatDoorDiceC
import Derived.Test.YtlhiekeolmgilaaGreatDoorPzC
import Derived.Test.YtlhiekeolmgilaaGreatDoorKitF
import Derived.Deep.RegionHeld3
import Derived.Test.YtlhiekeolmgilaaGreatDoorPgD
import Derived.Test.YtlhiekeolmgilaaGreatDoorSpecO
import Derived.Test.YtlhiekeolmgilaaGreatDoorPgJ
import Derived.Test.YtlhiekeolmgilaaGreatDoorPgE
namespace Go.Proofs.YtlhiekeolmgilaaGreatDoor
open Go.RowKit

def four : List ByteArray := [⟨#[99, 104, 97, 100]⟩, ⟨#[67, 65, 68]⟩, ⟨#[97, 110, 110, 97]⟩, ⟨#[66, 69, 78]⟩]
def three : List ByteArray := [⟨#[115, 109, 121, 116, 104, 101]⟩, ⟨#[115, 109, 105, 116, 104, 101]⟩, ⟨#[115, 109, 105, 116, 104]⟩]

theorem four_ok : AllOk four := by unfold AllOk; decide +kernel
theorem smiths_ok : AllOk smithsList := by unfold AllOk; decide +kernel
set_option maxRecDepth 100000 in
theorem sp1 (w : World) : Calls Tryz.prog 39 #[.string ⟨#[67, 65, 68]⟩] w fun e w' => e = .returned (.tuple #[.string ⟨#[99, 104, 97, 100]⟩, .int .i64 0]) ∧ Below w.heap.size w w' := by
  have h := Key_ok ⟨#[67, 65, 68]⟩ w (by decide +kernel)
  rw [show keyS (⟨#[67, 65, 68]⟩ : ByteArray) = ⟨#[99, 104, 97, 100]⟩ by decide +kernel] at h
  exact h
set_option maxRecDepth 100000 in
theorem sp2 (A : Option Addr) (c : Nat) (w : World) (hx : Cells w A (four.map Value.string)) : Calls Tryz.prog 20 #[.slice A 4 c] w (SortPost [2, 3, 0, 1] w) := by
  have h := Sort_ok A 3 c four w rfl (by decide) four_ok hx
  rw [show sortG (four.map spellOf) = [2, 3, 0, 1] by decide +kernel] at h
  exact h
theorem rules_ok : RulesOk rulesList := by
  refine ⟨by decide +kernel, ?_⟩
  unfold LowB
  decide +kernel
set_option maxRecDepth 100000 in
theorem sp3 (A : Option Addr) (c : Nat) (w : World) (hx : Cells w A (ruleCells rulesList)) : Calls Tryz.prog 33 #[.slice A 3 c, .string ⟨#[115, 109, 121, 116, 104, 101]⟩, .string ⟨#[115, 109, 105, 116, 104]⟩] w (ChainsPost (three, 0) w) := by
  have h := Chain_ok A 3 c 2 rulesList ⟨#[115, 109, 121, 116, 104, 101]⟩ ⟨#[115, 109, 105, 116, 104]⟩ w rfl rules_ok (by unfold AllOk; decide +kernel) hx (by decide +kernel) (by decide) (by decide +kernel) (by decide +kernel)
  rw [show chainG rulesList (keyS ⟨#[115, 109, 121, 116, 104, 101]⟩) (keyS ⟨#[115, 109, 105, 116, 104]⟩) = (three, 0) by decide +kernel] at h
  exact h
theorem found_str {p : List UInt8 × Int} {s : ByteArray} {v : Int} {f : FuncId} {args : Array Value} {w : World} (h : Calls Tryz.prog f args w (FoundPost p w)) (e : p = (s.data.toList, v)) : Calls Tryz.prog f args w (StrErrPost (s, v) w) := by
  refine h.mono ?_
  rintro e' w' ⟨s', h1, rfl, hb⟩
  subst e
  have : s' = s := by
    cases s' with | mk a => cases s with | mk b => congr 1; exact Array.toList_inj.1 h1
  subst this
  exact ⟨rfl, hb⟩
set_option maxRecDepth 100000 in
theorem sp4 (A : Option Addr) (c : Nat) (w : World) (hx : Cells w A (smithsList.map Value.string)) : Calls Tryz.prog 45 #[.slice A 3 c, .int .i64 0] w (StrErrPost (⟨#[115, 105, 46]⟩, 0) w) := by
  exact found_str (Shortest_ok A 3 c 0 smithsList w rfl (by decide) smiths_ok hx (by decide)) (by decide +kernel)
set_option maxRecDepth 100000 in
theorem sp5 (A : Option Addr) (c : Nat) (w : World) (hx : Cells w A (smithsList.map Value.string)) : Calls Tryz.prog 46 #[.slice A 3 c, .int .i64 0, .int .i64 4] w (StrErrPost (⟨#[115, 105, 104, 46]⟩, 0) w) := by
  exact found_str (Fit_ok A 3 c 0 4 smithsList w rfl (by decide) smiths_ok hx (by decide) (by decide) (by decide +kernel)) (by decide +kernel)

set_option maxRecDepth 100000 in
set_option maxHeartbeats 3200000 in
theorem spelling_any (w : World) : Calls Tryz.prog 12 #[] w fun e w' => e = .returned (.bool true) ∧ Below w.heap.size w w' := by
  go_enter Tryz.func12, Tryz.ntmps12
  go_wp2_with fail
  refine (sp1 _).mono ?_
  rintro e w1 ⟨rfl, hb1⟩
  have c1 : Cells (w1.alloc (.cells #[.string ⟨#[99, 104, 97, 100]⟩, .string ⟨#[67, 65, 68]⟩, .string ⟨#[97, 110, 110, 97]⟩, .string ⟨#[66, 69, 78]⟩] 9)) (some ⟨w1.heap.size, 0, none⟩) (four.map Value.string) :=
    cells_lit w1 _ 9 4 rfl (by unfold maxLen; omega)
  have C1 := Lib.hid c1
  have ha1 := hb1.alloc (o := .cells #[.string ⟨#[99, 104, 97, 100]⟩, .string ⟨#[67, 65, 68]⟩, .string ⟨#[97, 110, 110, 97]⟩, .string ⟨#[66, 69, 78]⟩] 9) hb1.size
  clear c1
  go_wp2_with fail
  refine (sp2 _ _ _ C1.out).mono ?_
  rintro e w2 ⟨O2, cap2, rfl, ho2, hb2⟩
  have hb2' := ha1.trans (hb2.mono ha1.size)
  have D2 := Lib.hid ho2
  clear ho2 hb2
  go_wp2_with fail
  refine (rules_any _).mono ?_
  rintro e w3 ⟨o3, rfl, ho3, hb3⟩
  obtain ⟨O3, cap3, rfl⟩ := own_form ho3
  have hb3' := hb2'.trans (hb3.mono hb2'.size)
  have C3 := Lib.hid (cells_own ho3)
  have D3 := Lib.hid (D2.out.below hb3)
  clear D2 ho3 hb3 hb2'
  go_wp2_with fail
  refine (sp3 _ _ _ C3.out).mono ?_
  rintro e w4 ⟨o4, rfl, ho4, hb4⟩
  obtain ⟨O4, cap4, rfl⟩ := own_form ho4
  have hb4' := hb3'.trans (hb4.mono hb3'.size)
  have D4 := Lib.hid (D3.out.below hb4)
  have E4 := Lib.hid (cells_own ho4)
  clear C3 D3 ho4 hb4 hb3'
  go_wp2_with fail
  refine (smiths_any _).mono ?_
  rintro e w5 ⟨o5, rfl, ho5, hb5⟩
  obtain ⟨O5, cap5, rfl⟩ := own_form ho5
  have hb5' := hb4'.trans (hb5.mono hb4'.size)
  have C5 := Lib.hid (cells_own ho5)
  have D5 := Lib.hid (D4.out.below hb5)
  have E5 := Lib.hid (E4.out.below hb5)
  clear D4 E4 ho5 hb5 hb4'
  go_wp2_with fail
  refine (sp4 _ _ _ C5.out).mono ?_
  rintro e w6 ⟨rfl, hb6⟩
  have hb6' := hb5'.trans (hb6.mono hb5'.size)
  have D6 := Lib.hid (D5.out.below hb6)
  have E6 := Lib.hid (E5.out.below hb6)
  clear D5 E5 C5 hb6 hb5'
  go_wp2_with fail
  refine (smiths_any _).mono ?_
  rintro e w7 ⟨o7, rfl, ho7, hb7⟩
  obtain ⟨O7, cap7, rfl⟩ := own_form ho7
  have hb7' := hb6'.trans (hb7.mono hb6'.size)
  have C7 := Lib.hid (cells_own ho7)
  have D7 := Lib.hid (D6.out.below hb7)
  have E7 := Lib.hid (E6.out.below hb7)
  clear D6 E6 ho7 hb7 hb6'
  go_wp2_with fail
  refine (sp5 _ _ _ C7.out).mono ?_
  rintro e w8 ⟨rfl, hb8⟩
  have hb8' := hb7'.trans (hb8.mono hb7'.size)
  have D8 := Lib.hid (D7.out.below hb8)
  have E8 := Lib.hid (E7.out.below hb8)
  clear D7 E7 C7 hb8 hb7'
  have x8 : Below w8.heap.size w8 (w8.alloc (.cells #[.int .i64 2, .int .i64 3, .int .i64 0, .int .i64 1] 3)) := (Below.refl _ _).alloc (Nat.le_refl _) _
  have y8 := hb8'.alloc (o := .cells #[.int .i64 2, .int .i64 3, .int .i64 0, .int .i64 1] 3) hb8'.size
  have c8 : Cells (w8.alloc (.cells #[.int .i64 2, .int .i64 3, .int .i64 0, .int .i64 1] 3)) (some ⟨w8.heap.size, 0, none⟩) (([2, 3, 0, 1] : List Int).map (Value.int .i64)) :=
    cells_lit w8 _ 3 4 rfl (by unfold maxLen; omega)
  have q8 := EqInts_any _ _ 4 4 cap2 4 [2, 3, 0, 1] [2, 3, 0, 1] (w8.alloc (.cells #[.int .i64 2, .int .i64 3, .int .i64 0, .int .i64 1] 3)) rfl rfl (by decide) (D8.out.below x8) c8
  have Q8 := Lib.hid q8
  have E9 := Lib.hid (E8.out.below x8)
  clear D8 E8 x8 c8 q8 hb8'
  go_wp2_with fail
  refine Q8.out.mono ?_
  rintro e w9 ⟨rfl, n9, rfl⟩
  rw [show decide (([2, 3, 0, 1] : List Int) = [2, 3, 0, 1]) = true from rfl]
  have y9 := y8.trans (Drew.below (w' := (w8.alloc (.cells #[.int .i64 2, .int .i64 3, .int .i64 0, .int .i64 1] 3)).drewN n9) ⟨n9, rfl⟩ w.heap.size)
  have E10 := Lib.hid (E9.out.below (Drew.below (w' := (w8.alloc (.cells #[.int .i64 2, .int .i64 3, .int .i64 0, .int .i64 1] 3)).drewN n9) ⟨n9, rfl⟩ _))
  clear Q8 E9 y8
  generalize (w8.alloc (.cells #[.int .i64 2, .int .i64 3, .int .i64 0, .int .i64 1] 3)).drewN n9 = wa at *
  have c8 : Cells (wa.alloc (.cells #[.string ⟨#[115, 109, 121, 116, 104, 101]⟩, .string ⟨#[115, 109, 105, 116, 104, 101]⟩, .string ⟨#[115, 109, 105, 116, 104]⟩] 9)) (some ⟨wa.heap.size, 0, none⟩) (three.map Value.string) :=
    cells_lit wa _ 9 3 rfl (by unfold maxLen; omega)
  have x8 : Below wa.heap.size wa (wa.alloc (.cells #[.string ⟨#[115, 109, 121, 116, 104, 101]⟩, .string ⟨#[115, 109, 105, 116, 104, 101]⟩, .string ⟨#[115, 109, 105, 116, 104]⟩] 9)) := (Below.refl _ _).alloc (Nat.le_refl _) _
  have q8 := EqStrings_any _ _ 3 3 cap4 3 three three (wa.alloc (.cells #[.string ⟨#[115, 109, 121, 116, 104, 101]⟩, .string ⟨#[115, 109, 105, 116, 104, 101]⟩, .string ⟨#[115, 109, 105, 116, 104]⟩] 9)) rfl rfl (by decide) (E10.out.below x8) c8
  have y10 := y9.trans (x8.mono y9.size)
  have Q8 := Lib.hid q8
  clear x8 c8 q8 E10
  go_wp2_with fail
  refine Q8.out.mono ?_
  rintro e wz ⟨rfl, n10, rfl⟩
  rw [show decide (three = three) = true from by simp]
  go_wp2
  go_ret
  exact ⟨rfl, y10.trans (Drew.below ⟨n10, rfl⟩ _)⟩
end Go.Proofs.YtlhiekeolmgilaaGreatDoor

/- The numbers of a slice; the examples at any world. -/
namespace Go.Proofs.YtlhiekeolmgilaaGreatDoor
open Go.RowKit

/-- The numbers of a slice that came in. -/
def NumsIn (w : World) (A : Option Addr) (n : Nat) : Prop := ∀ i, i < n → ∃ (b off : Nat) (x : Int), A = some ⟨b, off, none⟩ ∧ w.cell? ⟨b, off + i, none⟩ = some (.int .i64 x)
theorem NumsIn.below {w w' : World} {A : Option Addr} {n : Nat} (h : NumsIn w A n) (hb : Below w.heap.size w w') : NumsIn w' A n := fun i hi => by
  obtain ⟨b, off, x, e, hc⟩ := h i hi
  exact ⟨b, off, x, e, (hb.cell (World.block_lt_of_cell? w _ hc)).trans hc⟩
def TruePost (w : World) (e : Ending) (w' : World) : Prop := e = .returned (.bool true) ∧ Below w.heap.size w w'

theorem spelling_at {w : World} (u : World) (h : Below w.heap.size w u) : Calls Tryz.prog 12 #[] u fun e w' => e = .returned (.bool true) ∧ Below w.heap.size w w' :=
  (spelling_any u).mono fun _ _ q => ⟨q.1, h.trans (q.2.mono h.size)⟩

end Go.Proofs.YtlhiekeolmgilaaGreatDoor

/- Lists of strings in a law's hands. -/
namespace Go.Proofs.YtlhiekeolmgilaaGreatDoor
open Go.RowKit

/-- A slice of strings, not long. -/
def StrList (w : World) (v : Value) (ss : List ByteArray) : Prop := ∃ A n c, v = .slice A n c ∧ n = ss.length ∧ n ≤ 1000 ∧ (A = none → c = 0) ∧ Cells w A (ss.map Value.string)
theorem StrList.below {w w' : World} {v : Value} {ss : List ByteArray} (h : StrList w v ss) (hb : Below w.heap.size w w') : StrList w' v ss := by
  obtain ⟨A, n, c, e, hn, hm, h0, hc⟩ := h
  exact ⟨A, n, c, e, hn, hm, h0, hc.below hb⟩
theorem StrList.own {w : World} {base n : Nat} {e : TypeId} {v : Value} {ss : List ByteArray} (h : w.ownsRow base e 1 v n (ss.map Value.string)) (hn : n = ss.length) (hm : n ≤ 1000) : StrList w v ss := by
  rcases h.2 with ⟨rfl, h0⟩ | ⟨g, cap, cur, rfl, _⟩
  · exact ⟨none, 0, 0, rfl, by omega, by omega, (fun _ => rfl), by have : ss = [] := List.eq_nil_of_length_eq_zero (by omega); subst this; intro i hi; cases hi⟩
  · exact ⟨_, n, cap, rfl, hn, hm, (fun q => nomatch q), cells_own h⟩
/-- Cells that hold such slices. -/
def StrLists (w : World) (B : Option Addr) (vs : List Value) : Prop := Cells w B vs ∧ ∀ i (h : i < vs.length), ∃ ss, StrList w vs[i] ss
theorem StrLists.below {w w' : World} {B : Option Addr} {vs : List Value} (h : StrLists w B vs) (hb : Below w.heap.size w w') : StrLists w' B vs :=
  ⟨h.1.below hb, fun i hi => by obtain ⟨ss, hs⟩ := h.2 i hi; exact ⟨ss, hs.below hb⟩⟩
theorem Cells.any {w : World} {A : Option Addr} {vs : List Value} (h : Cells w A vs) (i : Nat) (hi : i < vs.length) : ∃ b off : Nat, A = some ⟨b, off, none⟩ ∧ w.cell? ⟨b, off + i, none⟩ = some vs[i] := by
  obtain ⟨b, off, e, hc⟩ := h i hi
  exact ⟨b, off, e, by rw [hc, List.getD_eq_getElem?_getD, List.getElem?_eq_getElem hi]; rfl⟩

theorem long_list {ss : List ByteArray} (h : longB [] ss = false) : ss.length ≤ 20 ∧ ∀ s, s ∈ ss → s.size ≤ 20 := by
  rw [longB_eq] at h
  simp only [Bool.or_eq_false_iff, decide_eq_false_iff_not] at h
  refine ⟨by omega, fun s hs => ?_⟩
  have h1 := h.1.1.1
  rw [List.any_eq_false] at h1
  have h2 := h1 s hs
  unfold strLong at h2
  simp only [decide_eq_true_eq] at h2
  omega

theorem own_lit (w : World) (base : Nat) (cs : Array Value) (e : TypeId) (n : Nat) (hb : base ≤ w.heap.size) (hn : cs.size = n) (hm : n ≤ 1000) :
    (w.alloc (.cells cs e)).ownsRow base e 1 (.slice (some ⟨w.heap.size, 0, none⟩) n n) n cs.toList :=
  World.ownsRow_lit w cs n hb (by unfold maxLen; omega) (by omega)
end Go.Proofs.YtlhiekeolmgilaaGreatDoor

/- Dice: abbreviations of few letters. -/
namespace Go.Proofs.YtlhiekeolmgilaaGreatDoor
open Go.RowKit

/-- An abbreviation that dice make of a string: some of its letters, and a point. -/
def ShortOfPost (d : Nat) (v : Value) (key : ByteArray) (w : World) (e : Ending) (w' : World) : Prop :=
  ∃ l : List UInt8, e = .returned (str (l ++ [46])) ∧ l.length ≤ key.size ∧ (1 ≤ key.size → 1 ≤ l.length) ∧ (∀ c, c ∈ l → c ∈ key.data.toList) ∧
    Dice w' d v ∧ w.grownBy w' (some d)

end Go.Proofs.YtlhiekeolmgilaaGreatDoor

/- What an abbreviation stands for: the walk of the fourth statement. -/
namespace Go.Proofs.YtlhiekeolmgilaaGreatDoor
open Go.RowKit

/-- What stays through a region that turns dice and lays rows. -/
structure Held1 (w : World) (BASE D : Nat) (dv v : Value) (n : Nat) (sb : List ByteArray) (w' : World) : Prop where
  dice : Dice w' D dv
  low : Below w.heap.size w w'
  row : w'.ownsRow BASE 9 1 v n (sb.map Value.string)
  big : BASE ≤ w'.heap.size
theorem Held1.alloc {w : World} {BASE D : Nat} {dv v : Value} {n : Nat} {sb : List ByteArray} {w' : World} (h : Held1 w BASE D dv v n sb w') (o : Obj) : Held1 w BASE D dv v n sb (w'.alloc o) :=
  ⟨h.dice.alloc o, h.low.alloc h.low.size o, h.row.alloc o, Nat.le_trans h.big (by simp)⟩
theorem Held1.drew {w : World} {BASE D : Nat} {dv v : Value} {n : Nat} {sb : List ByteArray} {w' : World} (h : Held1 w BASE D dv v n sb w') : Held1 w BASE D dv v n sb w'.drew :=
  ⟨h.dice, h.low.drew, h.row, h.big⟩
theorem Held1.turned {w : World} {BASE D : Nat} {dv v : Value} {n : Nat} {sb : List ByteArray} {w' w'' : World} (h : Held1 w BASE D dv v n sb w') (hd : Dice w'' D dv) (hg : w'.grownBy w'' (some D)) (h1 : w.heap.size ≤ D) (h2 : D < BASE) : Held1 w BASE D dv v n sb w'' :=
  ⟨hd, h.low.grown hg h.low.size (fun k hk => by cases hk; exact h1), own_kept h.row hg h2, Nat.le_trans h.big hg.size⟩
/-- A cell of a row of the call's own stays when dice turn. -/
theorem cell_turned {w' w'' : World} {g i D BASE : Nat} {x : Value} (hc : w'.cell? ⟨g, i, none⟩ = some x) (hg : w'.grownBy w'' (some D)) (h1 : BASE ≤ g) (h2 : D < BASE) : w''.cell? ⟨g, i, none⟩ = some x :=
  hg.cell hc (by intro e; injection e with e; simp at e; omega)
theorem cell_alloc {w : World} {g i : Nat} {v : Value} {o : Obj} (h : w.cell? ⟨g, i, none⟩ = some v) : (w.alloc o).cell? ⟨g, i, none⟩ = some v := by
  rw [World.cell?_alloc_past _ _ _ (World.block_lt_of_cell? _ _ h)]; exact h

/-- A row laid new, its block's number given. -/
theorem own_new (w : World) (base : Nat) (cs : Array Value) (e : TypeId) (n G : Nat) (xs : List Value) (hG : w.heap.size = G) (hb : base ≤ G) (hn : cs.size = n) (hm : n ≤ 1000) (hx : cs.toList = xs) :
    (w.alloc (.cells cs e)).ownsRow base e 1 (.slice (some ⟨G, 0, none⟩) n n) n xs := by
  subst hG hx
  exact own_lit w base cs e n hb hn hm

theorem standsFrom_len (a : List UInt8) : ∀ (ss : List ByteArray) (k : Nat), (standsFrom a k ss).length ≤ ss.length
  | [], _ => Nat.le_refl _
  | s :: t, k => by
    unfold standsFrom
    have := standsFrom_len a t (k + 1)
    split <;> simp <;> omega
theorem standsL_len (a : List UInt8) (ss : List ByteArray) : (standsL a ss).length ≤ ss.length := by
  unfold standsL
  split
  · exact standsFrom_len a ss 0
  · simp

/-- A step of such a region: nothing, a block laid new, or the dice turned. -/
def Turns (D : Nat) (w w' : World) : Prop := w' = w ∨ (∃ o, w' = w.alloc o) ∨ w.grownBy w' (some D)
/-- A row of four strings, not long, somewhere. -/
def RowA (base : Nat) (v : Value) (w : World) : Prop := ∃ (G : Nat) (xs : List ByteArray), v = .slice (some ⟨G, 0, none⟩) 4 4 ∧ xs.length = 4 ∧ (∀ x, x ∈ xs → x.size ≤ 2000) ∧ w.ownsRow base 9 1 v 4 (xs.map Value.string)
/-- A row of four values, somewhere. -/
def RowB (base : Nat) (xs : List Value) (e : TypeId) (v : Value) (w : World) : Prop := ∃ G : Nat, v = .slice (some ⟨G, 0, none⟩) 4 4 ∧ w.ownsRow base e 1 v 4 xs
theorem own_turns {w w' : World} {base D n : Nat} {e : TypeId} {v : Value} {xs : List Value} (h : w.ownsRow base e 1 v n xs) (hR : Turns D w w') (hd : D < base) : w'.ownsRow base e 1 v n xs := by
  rcases hR with rfl | ⟨o, rfl⟩ | hg
  · exact h
  · exact h.alloc o
  · exact own_kept h hg hd
theorem RowA.turns {w w' : World} {base D : Nat} {v : Value} (h : RowA base v w) (hR : Turns D w w') (hd : D < base) : RowA base v w' := by
  obtain ⟨G, xs, h1, h2, h3, h4⟩ := h
  exact ⟨G, xs, h1, h2, h3, own_turns h4 hR hd⟩
theorem RowB.turns {w w' : World} {base D : Nat} {xs : List Value} {e : TypeId} {v : Value} (h : RowB base xs e v w) (hR : Turns D w w') (hd : D < base) : RowB base xs e v w' := by
  obtain ⟨G, h1, h2⟩ := h
  exact ⟨G, h1, own_turns h2 hR hd⟩

end Go.Proofs.YtlhiekeolmgilaaGreatDoor

/- One name of the other alphabet for each key: the walk. -/
namespace Go.Proofs.YtlhiekeolmgilaaGreatDoor
open Go.RowKit

/-- A name that dice made. -/
def Made6 (s : ByteArray) : Prop := 1 ≤ s.size ∧ s.size ≤ 6 ∧ Letters s.data.toList
theorem key_call (s : ByteArray) (h : Sp.check s.data.toList = 0) (W : World) : Calls Tryz.prog 39 #[.string s] W fun e w' => e = .returned (.tuple #[.string (keyS s), .int .i64 0]) ∧ Below W.heap.size W w' := Key_ok s W h
theorem other_call (s : ByteArray) (p : ByteArray × Int) (hc : Sp.check s.data.toList = 0) (h : otherP s = p) (W : World) : Calls Tryz.prog 40 #[.string s] W fun e w' => e = .returned (.tuple #[.string p.1, .int .i64 p.2]) ∧ Below W.heap.size W w' := by
  have q := Other_ok s W hc
  unfold OtherOk at q
  rw [h] at q
  exact q
theorem latin_call (s : ByteArray) (v : Bool) (h : 0 < s.size) (hv : lat s.data.toList = v) (W : World) : Calls Tryz.prog 96 #[.string s] W fun e w' => e = .returned (.bool v) ∧ W = w' := by
  have q := Latin_any s W h
  rw [show s.data.toList.head?.any Sp.latin = v from hv] at q
  exact q
theorem keyS_eq {a b : ByteArray} (h : Sp.key a.data.toList = Sp.key b.data.toList) : keyS a = keyS b := by unfold keyS; rw [h]

end Go.Proofs.YtlhiekeolmgilaaGreatDoor

/- Which of two names comes first. -/
namespace Go.Proofs.YtlhiekeolmgilaaGreatDoor
open Go.RowKit Go.Shelf

set_option maxRecDepth 100000 in
set_option maxHeartbeats 800000 in
theorem Compare_ok (a b : ByteArray) (w : World) (hv : AllOk [a, b]) :
    Calls Tryz.prog 18 #[.string a, .string b] w fun e w' => e = .returned (.tuple #[.int .i64 (cmpSpell (spellOf a) (spellOf b)), .int .i64 0]) ∧ Below w.heap.size w w' := by
  obtain ⟨v, hvv⟩ : ∃ v, cmpSpell (spellOf a) (spellOf b) = v := ⟨_, rfl⟩
  have q := fun W => compare_any (spellOf a) (spellOf b) W
  rw [hvv] at q ⊢
  unfold spellOf at q
  have HQ := Lib.hid q
  have HV := Lib.hid hv
  clear hv hvv q
  go_enter Tryz.func18, Tryz.ntmps18
  go_wp2_with fail
  have ca := cells_lit w #[.string a, .string b] 9 2 rfl (by unfold maxLen; omega)
  have hba : Below w.heap.size w (w.alloc (.cells #[.string a, .string b] 9)) := (Below.refl _ w).alloc (Nat.le_refl _) _
  have q2 := readAll_ok (some ⟨w.heap.size, 0, none⟩) 2 2 [a, b] _ rfl (by omega) HV.out ca
  have Q2 := Lib.hid q2
  clear q2 ca
  generalize w.alloc (.cells #[.string a, .string b] 9) = W2 at *
  refine Q2.out.mono ?_
  rintro e w3 ⟨o, rfl, ho, hb3⟩
  obtain ⟨g, cap, rfl⟩ := own_head ho
  have hb3' := hba.trans (hb3.mono hba.size)
  have cs := cells_own ho
  obtain ⟨b0, o0, e0, s0⟩ := cs 0 (by simp [spellCells])
  obtain ⟨b1, o1, e1, s1⟩ := cs 1 (by simp [spellCells])
  obtain ⟨b2, o2, e2, s2⟩ := cs 2 (by simp [spellCells])
  obtain ⟨b3, o3, e3, s3⟩ := cs 3 (by simp [spellCells])
  cases e0
  cases e1
  cases e2
  cases e3
  have s0' : w3.cell? ⟨g, 0, none⟩ = some (.string (keyS a)) := s0
  have s1' : w3.cell? ⟨g, 1, none⟩ = some (.int .i64 (alphaN a.data.toList)) := s1
  have s2' : w3.cell? ⟨g, 2, none⟩ = some (.string (keyS b)) := s2
  have s3' : w3.cell? ⟨g, 3, none⟩ = some (.int .i64 (alphaN b.data.toList)) := s3
  have q := HQ.out
  clear HQ
  generalize keyS a = A at *
  generalize keyS b = B at *
  generalize alphaN a.data.toList = p at *
  generalize alphaN b.data.toList = q' at *
  clear Q2 hb3 cs ho hba s0 s1 s2 s3
  obtain ⟨T, gg, hg0, hgb, h0, h1, h2, h3, hT⟩ : ∃ (T : Type) (g' : T → World), (∃ x, w3.drew = g' x) ∧ (∀ x, Below w3.heap.size w3 (g' x)) ∧ (∀ x, (g' x).cell? ⟨g, 0, none⟩ = some (.string A)) ∧ (∀ x, (g' x).cell? ⟨g, 1, none⟩ = some (.int .i64 p)) ∧ (∀ x, (g' x).cell? ⟨g, 2, none⟩ = some (.string B)) ∧ (∀ x, (g' x).cell? ⟨g, 3, none⟩ = some (.int .i64 q')) ∧
      (∀ x, Calls Tryz.prog 62 #[.agg #[.string A, .int .i64 p], .agg #[.string B, .int .i64 q']] (g' x) fun e w' => e = .returned (.int .i64 v) ∧ ∃ y, w' = g' y) :=
    ⟨Since w3, Subtype.val, Since.here w3, fun x => x.property, fun x => x.cell s0', fun x => x.cell s1', fun x => x.cell s2', fun x => x.cell s3', fun x => x.calls ((q _).mono fun _ _ h => ⟨h.1, h.2.below⟩)⟩
  have hTne : Nonempty T := let ⟨x, _⟩ := hg0; ⟨x⟩
  have HT1 := Lib.hid hT
  clear hT s0' s1' s2' s3' q
  go_wp2_with fail
  refine wp_region_class gg hg0 (by kernel_rfl) (by kernel_rfl) ?_
  repeat (go_big_quiet_step (fail))
  go_big_quiet_step (exact HT1.out _)
  repeat (go_big_quiet_step (fail))
  refine wpQuiet_nil ?_
  rintro _ ⟨xq, rfl⟩
  have t5 := hb3'.trans ((hgb xq).mono hb3'.size)
  clear hgb hg0
  go_wp2_with fail
  go_ret2
  exact ⟨rfl, t5⟩
end Go.Proofs.YtlhiekeolmgilaaGreatDoor

/- Made names; a region's worlds drawn on. -/
namespace Go.Proofs.YtlhiekeolmgilaaGreatDoor
open Go.RowKit

theorem check_letters {l : List UInt8} (h : Sp.check l = 0) : Letters l := by
  unfold Sp.check at h
  split at h
  · exact absurd h (by decide)
  · split at h
    · exact absurd h (by decide)
    · split at h
      · exact absurd h (by decide)
      · rename_i h0 _ h2
        have hz : ¬ (Sp.own l < l.length ∧ Sp.other l < l.length) := h2
        have h4 : Sp.own l ≤ l.length := List.length_filter_le _ _
        have h5 : Sp.other l ≤ l.length := List.length_filter_le _ _
        by_cases ho : Sp.own l = l.length
        · unfold Sp.own at ho
          exact .inl (List.length_filter_eq_length_iff.1 ho)
        · have h3 : Sp.other l = l.length := by omega
          unfold Sp.other at h3
          have ha := List.length_filter_eq_length_iff.1 h3
          exact .inr fun c hc => by have := ha c hc; simpa using this
theorem made_check {s : ByteArray} (h : Made6 s) : Sp.check s.data.toList = 0 := (other_facts s h.1 h.2.1 h.2.2).1
theorem made_ok2 {a b : ByteArray} (ha : Made6 a) (hb : Made6 b) : AllOk [a, b] := by
  intro s hs
  simp at hs
  rcases hs with rfl | rfl
  · exact made_check ha
  · exact made_check hb
theorem cmp_call {a b : ByteArray} {n : Int} (ha : Made6 a) (hb : Made6 b) (hn : cmpSpell (spellOf a) (spellOf b) = n) (W : World) :
    Calls Tryz.prog 18 #[.string a, .string b] W fun e w' => e = .returned (.tuple #[.int .i64 n, .int .i64 0]) ∧ Below W.heap.size W w' := by
  subst hn
  exact Compare_ok a b W (made_ok2 ha hb)

theorem Since.drew {w : World} (x : Since w) : ∃ y : Since w, x.val.drew = y.val := ⟨⟨x.val.drew, x.property.drew⟩, rfl⟩
end Go.Proofs.YtlhiekeolmgilaaGreatDoor
