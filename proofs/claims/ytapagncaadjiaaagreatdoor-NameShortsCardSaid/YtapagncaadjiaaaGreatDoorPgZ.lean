/- Check, Key and Other of any string. -/
import Derived.Test.YtapagncaadjiaaaGreatDoorPgY
import Derived.Test.YtapagncaadjiaaaGreatDoorPgD
namespace Go.Proofs.YtapagncaadjiaaaGreatDoor
open Go.RowKit

theorem check_cases (l : List UInt8) (h : Sp.check l ≠ 0) : (l.length = 0 ∧ Sp.check l = 7) ∨ (6 < l.length ∧ Sp.check l = 10) ∨ (1 ≤ l.length ∧ l.length ≤ 6 ∧ Sp.check l = 2) := by
  unfold Sp.check at *
  by_cases h0 : l.length = 0
  · rw [if_pos h0]; exact .inl ⟨h0, rfl⟩
  · rw [if_neg h0] at *
    by_cases h6 : 6 < l.length
    · rw [if_pos h6]; exact .inr (.inl ⟨h6, rfl⟩)
    · rw [if_neg h6] at *
      split at h
      · rename_i h2
        rw [if_pos h2]
        exact .inr (.inr ⟨by omega, by omega, rfl⟩)
      · exact absurd rfl h
theorem read_err (s : ByteArray) (w : World) (h : Sp.check s.data.toList ≠ 0) : Calls Tryz.prog 69 #[.string s] w (ReadErr (Sp.check s.data.toList) w) := by
  have hl : s.data.toList.length = s.size := by simp
  rcases check_cases _ h with ⟨h1, e⟩ | ⟨h1, e⟩ | ⟨h1, h2, e⟩
  · rw [e]; exact read_short s w (by omega)
  · rw [e]; exact read_long s w (by omega)
  · rw [e]; exact read_bad s w (by omega) (by omega) e

def CheckAns (s : ByteArray) (w : World) (e : Ending) (w' : World) : Prop := e = .returned (.int .i64 (Sp.check s.data.toList)) ∧ Below w.heap.size w w'
set_option maxRecDepth 100000 in
set_option maxHeartbeats 400000 in
theorem Check_err (s : ByteArray) (w : World) (hL : LaidErr w) (h : Sp.check s.data.toList ≠ 0) : Calls Tryz.prog 23 #[.string s] w (CheckAns s w) := by
  have Q := Lib.hid (fun W => read_err s W h)
  unfold CheckAns
  generalize Sp.check s.data.toList = c at *
  have HL := Lib.hid hL
  clear h hL
  go_enter Tryz.func23, Tryz.ntmps23
  go_wp2_with fail
  refine (Q.out _).mono ?_
  rintro e w1 ⟨rfl, hb1⟩
  go_wp2_with fail
  refine (codeOf_err c _ ((HL.out.below hb1).below ((Below.refl _ _).alloc (Nat.le_refl _) _))).mono ?_
  rintro e w2 ⟨rfl, hb2⟩
  go_wp2_with fail
  go_ret
  exact ⟨rfl, (hb1.alloc hb1.size _).trans (hb2.mono (by have := hb1.size; simp; omega))⟩
theorem pCheck_any (s : ByteArray) (w : World) (hL : LaidErr w) : Calls Tryz.prog 23 #[.string s] w (CheckAns s w) := by
  by_cases h : Sp.check s.data.toList = 0
  · unfold CheckAns
    rw [h]
    exact Check_ok s w h
  · exact Check_err s w hL h

set_option maxRecDepth 100000 in
set_option maxHeartbeats 400000 in
theorem Key_err (s : ByteArray) (w : World) (hL : LaidErr w) (h : Sp.check s.data.toList ≠ 0) : Calls Tryz.prog 19 #[.string s] w fun e w' => e = .returned (.tuple #[.string ⟨#[]⟩, .int .i64 (Sp.check s.data.toList)]) ∧ Below w.heap.size w w' := by
  have Q := Lib.hid (fun W => read_err s W h)
  generalize Sp.check s.data.toList = c at *
  have HL := Lib.hid hL
  clear h hL
  go_enter Tryz.func19, Tryz.ntmps19
  go_wp2_with fail
  refine (Q.out _).mono ?_
  rintro e w1 ⟨rfl, hb1⟩
  go_wp2_with fail
  have hb2 := hb1.alloc (o := .cells #[.string ⟨#[]⟩, .int .i64 0] 88) hb1.size
  have c0 : (w1.alloc (.cells #[.string ⟨#[]⟩, .int .i64 0] 88)).cell? ⟨w1.heap.size, 0, none⟩ = some (.string ⟨#[]⟩) := by rw [Lib.cell_of_heap (heap_alloc_new w1 _)]; rfl
  generalize w1.alloc (.cells #[.string ⟨#[]⟩, .int .i64 0] 88) = W at *
  obtain ⟨T, g, hg0, hgb, hgx, hT⟩ : ∃ (T : Type) (g : T → World), (∃ x, W.drew = g x) ∧ (∀ x, Below W.heap.size W (g x)) ∧ (∀ x, (g x).cell? ⟨w1.heap.size, 0, none⟩ = some (.string ⟨#[]⟩)) ∧
      (∀ x, Calls Tryz.prog 70 #[.iface 152 (.agg #[.int .i64 c])] (g x) fun e w' => e = .returned (.int .i64 c) ∧ ∃ y, w' = g y) :=
    ⟨Since W, Subtype.val, Since.here W, fun x => x.property, fun x => x.cell c0, fun x => x.calls (codeOf_err c _ ((HL.out.below hb2).below x.property))⟩
  have hTne : Nonempty T := let ⟨x, _⟩ := hg0; ⟨x⟩
  have HT1 := Lib.hid hT
  clear hT c0
  refine wp_region_class g hg0 (by kernel_rfl) (by kernel_rfl) ?_
  repeat (go_big_quiet_step (fail))
  go_big_quiet_step (exact HT1.out _)
  repeat (go_big_quiet_step (fail))
  refine wpQuiet_nil ?_
  rintro _ ⟨xq, rfl⟩
  have hbq := hgb xq
  have t5 := hb2.trans (hbq.mono hb2.size)
  clear hgb hgx hg0
  go_wp2_with fail
  go_ret2
  exact ⟨rfl, t5⟩
theorem pKey_any (s : ByteArray) (w : World) (hL : LaidErr w) : Calls Tryz.prog 19 #[.string s] w (KeyPost s w) := by
  by_cases h : Sp.check s.data.toList = 0
  · refine (Key_ok s w h).mono ?_
    rintro e w' ⟨rfl, hb⟩
    refine ⟨?_, hb⟩
    rw [h]
    unfold Sp.keyR
    rw [if_pos h]
    rfl
  · refine (Key_err s w hL h).mono ?_
    rintro e w' ⟨rfl, hb⟩
    refine ⟨?_, hb⟩
    unfold Sp.keyR
    rw [if_neg h]

set_option maxRecDepth 100000 in
set_option maxHeartbeats 400000 in
theorem Other_err (s : ByteArray) (w : World) (hL : LaidErr w) (h : Sp.check s.data.toList ≠ 0) : Calls Tryz.prog 21 #[.string s] w fun e w' => e = .returned (.tuple #[.string ByteArray.empty, .int .i64 (Sp.check s.data.toList)]) ∧ Below w.heap.size w w' := by
  have Q := Lib.hid (fun W => read_err s W h)
  generalize Sp.check s.data.toList = c at *
  have HL := Lib.hid hL
  clear h hL
  go_enter Tryz.func21, Tryz.ntmps21
  go_wp2_with fail
  refine (Q.out _).mono ?_
  rintro e w1 ⟨rfl, hb1⟩
  go_wp2_with fail
  refine (codeOf_err c _ ((HL.out.below hb1).below ((Below.refl _ _).alloc (Nat.le_refl _) _))).mono ?_
  rintro e w2 ⟨rfl, hb2⟩
  go_wp2_with fail
  go_ret2
  exact ⟨rfl, (hb1.alloc hb1.size _).trans (hb2.mono (by have := hb1.size; simp; omega))⟩
theorem pOther_any (s : ByteArray) (w : World) (hL : LaidErr w) : Calls Tryz.prog 21 #[.string s] w (StrErrPost (otherP s) w) := by
  by_cases h : Sp.check s.data.toList = 0
  · exact Other_ok s w h
  · have e : otherP s = (ByteArray.empty, Sp.check s.data.toList) := by unfold otherP; rw [if_neg h]
    rw [e]
    exact Other_err s w hL h
end Go.Proofs.YtapagncaadjiaaaGreatDoor
