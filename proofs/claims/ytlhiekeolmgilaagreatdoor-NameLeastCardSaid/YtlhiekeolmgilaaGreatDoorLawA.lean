/- The chapter's examples that each statement of the layer asks for. -/
import Derived.Test.YtlhiekeolmgilaaGreatDoorPgS
import Derived.Test.YtlhiekeolmgilaaGreatDoorKitB
import Derived.Test.YtlhiekeolmgilaaGreatDoorKitC
import Derived.Test.YtlhiekeolmgilaaGreatDoorKitD
namespace Go.Proofs.YtlhiekeolmgilaaGreatDoor
open Go.RowKit

def four : List ByteArray := [⟨#[99, 104, 97, 100]⟩, ⟨#[67, 65, 68]⟩, ⟨#[97, 110, 110, 97]⟩, ⟨#[66, 69, 78]⟩]
def three : List ByteArray := [⟨#[115, 109, 121, 116, 104, 101]⟩, ⟨#[115, 109, 105, 116, 104, 101]⟩, ⟨#[115, 109, 105, 116, 104]⟩]

theorem four_ok : AllOk four := by unfold AllOk; decide +kernel
theorem smiths_ok : AllOk smithsList := by unfold AllOk; decide +kernel
set_option maxRecDepth 100000 in
theorem sp1 (w : World) : Calls Tryz.prog 39 #[.string ⟨#[67, 65, 68]⟩] w fun e w' => e = .returned (.tuple #[.string ⟨#[99, 104, 97, 100]⟩, .int .i64 0]) ∧ Below w.heap.size w w' := by
  have h := Key_ok ⟨#[67, 65, 68]⟩ w (by decide +kernel)
  rw [show keyS (⟨#[67, 65, 68]⟩ : ByteArray) = ⟨#[99, 104, 97, 100]⟩ by decide +kernel] at h
  exact h
set_option maxRecDepth 100000 in
theorem sp2 (A : Option Addr) (c : Nat) (w : World) (hx : Cells w A (four.map Value.string)) : Calls Tryz.prog 20 #[.slice A 4 c] w (SortPost [2, 3, 0, 1] w) := by
  have h := Sort_ok A 3 c four w rfl (by decide) four_ok hx
  rw [show sortG (four.map spellOf) = [2, 3, 0, 1] by decide +kernel] at h
  exact h
theorem rules_ok : RulesOk rulesList := by
  refine ⟨by decide +kernel, ?_⟩
  unfold LowB
  decide +kernel
set_option maxRecDepth 100000 in
theorem sp3 (A : Option Addr) (c : Nat) (w : World) (hx : Cells w A (ruleCells rulesList)) : Calls Tryz.prog 33 #[.slice A 3 c, .string ⟨#[115, 109, 121, 116, 104, 101]⟩, .string ⟨#[115, 109, 105, 116, 104]⟩] w (ChainsPost (three, 0) w) := by
  have h := Chain_ok A 3 c 2 rulesList ⟨#[115, 109, 121, 116, 104, 101]⟩ ⟨#[115, 109, 105, 116, 104]⟩ w rfl rules_ok (by unfold AllOk; decide +kernel) hx (by decide +kernel) (by decide) (by decide +kernel) (by decide +kernel)
  rw [show chainG rulesList (keyS ⟨#[115, 109, 121, 116, 104, 101]⟩) (keyS ⟨#[115, 109, 105, 116, 104]⟩) = (three, 0) by decide +kernel] at h
  exact h
theorem found_str {p : List UInt8 × Int} {s : ByteArray} {v : Int} {f : FuncId} {args : Array Value} {w : World} (h : Calls Tryz.prog f args w (FoundPost p w)) (e : p = (s.data.toList, v)) : Calls Tryz.prog f args w (StrErrPost (s, v) w) := by
  refine h.mono ?_
  rintro e' w' ⟨s', h1, rfl, hb⟩
  subst e
  have : s' = s := by
    cases s' with | mk a => cases s with | mk b => congr 1; exact Array.toList_inj.1 h1
  subst this
  exact ⟨rfl, hb⟩
set_option maxRecDepth 100000 in
theorem sp4 (A : Option Addr) (c : Nat) (w : World) (hx : Cells w A (smithsList.map Value.string)) : Calls Tryz.prog 45 #[.slice A 3 c, .int .i64 0] w (StrErrPost (⟨#[115, 105, 46]⟩, 0) w) := by
  exact found_str (Shortest_ok A 3 c 0 smithsList w rfl (by decide) smiths_ok hx (by decide)) (by decide +kernel)
set_option maxRecDepth 100000 in
theorem sp5 (A : Option Addr) (c : Nat) (w : World) (hx : Cells w A (smithsList.map Value.string)) : Calls Tryz.prog 46 #[.slice A 3 c, .int .i64 0, .int .i64 4] w (StrErrPost (⟨#[115, 105, 104, 46]⟩, 0) w) := by
  exact found_str (Fit_ok A 3 c 0 4 smithsList w rfl (by decide) smiths_ok hx (by decide) (by decide) (by decide +kernel)) (by decide +kernel)

set_option maxRecDepth 100000 in
set_option maxHeartbeats 3200000 in
theorem spelling_any (w : World) : Calls Tryz.prog 12 #[] w fun e w' => e = .returned (.bool true) ∧ Below w.heap.size w w' := by
  go_enter Tryz.func12, Tryz.ntmps12
  go_wp2_with fail
  refine (sp1 _).mono ?_
  rintro e w1 ⟨rfl, hb1⟩
  have c1 : Cells (w1.alloc (.cells #[.string ⟨#[99, 104, 97, 100]⟩, .string ⟨#[67, 65, 68]⟩, .string ⟨#[97, 110, 110, 97]⟩, .string ⟨#[66, 69, 78]⟩] 9)) (some ⟨w1.heap.size, 0, none⟩) (four.map Value.string) :=
    cells_lit w1 _ 9 4 rfl (by unfold maxLen; omega)
  have C1 := Lib.hid c1
  have ha1 := hb1.alloc (o := .cells #[.string ⟨#[99, 104, 97, 100]⟩, .string ⟨#[67, 65, 68]⟩, .string ⟨#[97, 110, 110, 97]⟩, .string ⟨#[66, 69, 78]⟩] 9) hb1.size
  clear c1
  go_wp2_with fail
  refine (sp2 _ _ _ C1.out).mono ?_
  rintro e w2 ⟨O2, cap2, rfl, ho2, hb2⟩
  have hb2' := ha1.trans (hb2.mono ha1.size)
  have D2 := Lib.hid ho2
  clear ho2 hb2
  go_wp2_with fail
  refine (rules_any _).mono ?_
  rintro e w3 ⟨o3, rfl, ho3, hb3⟩
  obtain ⟨O3, cap3, rfl⟩ := own_form ho3
  have hb3' := hb2'.trans (hb3.mono hb2'.size)
  have C3 := Lib.hid (cells_own ho3)
  have D3 := Lib.hid (D2.out.below hb3)
  clear D2 ho3 hb3 hb2'
  go_wp2_with fail
  refine (sp3 _ _ _ C3.out).mono ?_
  rintro e w4 ⟨o4, rfl, ho4, hb4⟩
  obtain ⟨O4, cap4, rfl⟩ := own_form ho4
  have hb4' := hb3'.trans (hb4.mono hb3'.size)
  have D4 := Lib.hid (D3.out.below hb4)
  have E4 := Lib.hid (cells_own ho4)
  clear C3 D3 ho4 hb4 hb3'
  go_wp2_with fail
  refine (smiths_any _).mono ?_
  rintro e w5 ⟨o5, rfl, ho5, hb5⟩
  obtain ⟨O5, cap5, rfl⟩ := own_form ho5
  have hb5' := hb4'.trans (hb5.mono hb4'.size)
  have C5 := Lib.hid (cells_own ho5)
  have D5 := Lib.hid (D4.out.below hb5)
  have E5 := Lib.hid (E4.out.below hb5)
  clear D4 E4 ho5 hb5 hb4'
  go_wp2_with fail
  refine (sp4 _ _ _ C5.out).mono ?_
  rintro e w6 ⟨rfl, hb6⟩
  have hb6' := hb5'.trans (hb6.mono hb5'.size)
  have D6 := Lib.hid (D5.out.below hb6)
  have E6 := Lib.hid (E5.out.below hb6)
  clear D5 E5 C5 hb6 hb5'
  go_wp2_with fail
  refine (smiths_any _).mono ?_
  rintro e w7 ⟨o7, rfl, ho7, hb7⟩
  obtain ⟨O7, cap7, rfl⟩ := own_form ho7
  have hb7' := hb6'.trans (hb7.mono hb6'.size)
  have C7 := Lib.hid (cells_own ho7)
  have D7 := Lib.hid (D6.out.below hb7)
  have E7 := Lib.hid (E6.out.below hb7)
  clear D6 E6 ho7 hb7 hb6'
  go_wp2_with fail
  refine (sp5 _ _ _ C7.out).mono ?_
  rintro e w8 ⟨rfl, hb8⟩
  have hb8' := hb7'.trans (hb8.mono hb7'.size)
  have D8 := Lib.hid (D7.out.below hb8)
  have E8 := Lib.hid (E7.out.below hb8)
  clear D7 E7 C7 hb8 hb7'
  have x8 : Below w8.heap.size w8 (w8.alloc (.cells #[.int .i64 2, .int .i64 3, .int .i64 0, .int .i64 1] 3)) := (Below.refl _ _).alloc (Nat.le_refl _) _
  have y8 := hb8'.alloc (o := .cells #[.int .i64 2, .int .i64 3, .int .i64 0, .int .i64 1] 3) hb8'.size
  have c8 : Cells (w8.alloc (.cells #[.int .i64 2, .int .i64 3, .int .i64 0, .int .i64 1] 3)) (some ⟨w8.heap.size, 0, none⟩) (([2, 3, 0, 1] : List Int).map (Value.int .i64)) :=
    cells_lit w8 _ 3 4 rfl (by unfold maxLen; omega)
  have q8 := EqInts_any _ _ 4 4 cap2 4 [2, 3, 0, 1] [2, 3, 0, 1] (w8.alloc (.cells #[.int .i64 2, .int .i64 3, .int .i64 0, .int .i64 1] 3)) rfl rfl (by decide) (D8.out.below x8) c8
  have Q8 := Lib.hid q8
  have E9 := Lib.hid (E8.out.below x8)
  clear D8 E8 x8 c8 q8 hb8'
  go_wp2_with fail
  refine Q8.out.mono ?_
  rintro e w9 ⟨rfl, n9, rfl⟩
  rw [show decide (([2, 3, 0, 1] : List Int) = [2, 3, 0, 1]) = true from rfl]
  have y9 := y8.trans (Drew.below (w' := (w8.alloc (.cells #[.int .i64 2, .int .i64 3, .int .i64 0, .int .i64 1] 3)).drewN n9) ⟨n9, rfl⟩ w.heap.size)
  have E10 := Lib.hid (E9.out.below (Drew.below (w' := (w8.alloc (.cells #[.int .i64 2, .int .i64 3, .int .i64 0, .int .i64 1] 3)).drewN n9) ⟨n9, rfl⟩ _))
  clear Q8 E9 y8
  generalize (w8.alloc (.cells #[.int .i64 2, .int .i64 3, .int .i64 0, .int .i64 1] 3)).drewN n9 = wa at *
  have c8 : Cells (wa.alloc (.cells #[.string ⟨#[115, 109, 121, 116, 104, 101]⟩, .string ⟨#[115, 109, 105, 116, 104, 101]⟩, .string ⟨#[115, 109, 105, 116, 104]⟩] 9)) (some ⟨wa.heap.size, 0, none⟩) (three.map Value.string) :=
    cells_lit wa _ 9 3 rfl (by unfold maxLen; omega)
  have x8 : Below wa.heap.size wa (wa.alloc (.cells #[.string ⟨#[115, 109, 121, 116, 104, 101]⟩, .string ⟨#[115, 109, 105, 116, 104, 101]⟩, .string ⟨#[115, 109, 105, 116, 104]⟩] 9)) := (Below.refl _ _).alloc (Nat.le_refl _) _
  have q8 := EqStrings_any _ _ 3 3 cap4 3 three three (wa.alloc (.cells #[.string ⟨#[115, 109, 121, 116, 104, 101]⟩, .string ⟨#[115, 109, 105, 116, 104, 101]⟩, .string ⟨#[115, 109, 105, 116, 104]⟩] 9)) rfl rfl (by decide) (E10.out.below x8) c8
  have y10 := y9.trans (x8.mono y9.size)
  have Q8 := Lib.hid q8
  clear x8 c8 q8 E10
  go_wp2_with fail
  refine Q8.out.mono ?_
  rintro e wz ⟨rfl, n10, rfl⟩
  rw [show decide (three = three) = true from by simp]
  go_wp2
  go_ret
  exact ⟨rfl, y10.trans (Drew.below ⟨n10, rfl⟩ _)⟩
end Go.Proofs.YtlhiekeolmgilaaGreatDoor
