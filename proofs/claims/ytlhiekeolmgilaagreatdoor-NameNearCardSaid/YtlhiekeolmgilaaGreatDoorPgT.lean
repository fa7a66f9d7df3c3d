/- Which of two names comes first. -/
import Derived.Test.YtlhiekeolmgilaaGreatDoorPgJ
import Derived.Test.YtlhiekeolmgilaaGreatDoorPgE
import Derived.Test.YtlhiekeolmgilaaGreatDoorKitE
namespace Go.Proofs.YtlhiekeolmgilaaGreatDoor
open Go.RowKit Go.Shelf

set_option maxRecDepth 100000 in
set_option maxHeartbeats 800000 in
theorem Compare_ok (a b : ByteArray) (w : World) (hv : AllOk [a, b]) :
    Calls Tryz.prog 18 #[.string a, .string b] w fun e w' => e = .returned (.tuple #[.int .i64 (cmpSpell (spellOf a) (spellOf b)), .int .i64 0]) ∧ Below w.heap.size w w' := by
  obtain ⟨v, hvv⟩ : ∃ v, cmpSpell (spellOf a) (spellOf b) = v := ⟨_, rfl⟩
  have q := fun W => compare_any (spellOf a) (spellOf b) W
  rw [hvv] at q ⊢
  unfold spellOf at q
  have HQ := Lib.hid q
  have HV := Lib.hid hv
  clear hv hvv q
  go_enter Tryz.func18, Tryz.ntmps18
  go_wp2_with fail
  have ca := cells_lit w #[.string a, .string b] 9 2 rfl (by unfold maxLen; omega)
  have hba : Below w.heap.size w (w.alloc (.cells #[.string a, .string b] 9)) := (Below.refl _ w).alloc (Nat.le_refl _) _
  have q2 := readAll_ok (some ⟨w.heap.size, 0, none⟩) 2 2 [a, b] _ rfl (by omega) HV.out ca
  have Q2 := Lib.hid q2
  clear q2 ca
  generalize w.alloc (.cells #[.string a, .string b] 9) = W2 at *
  refine Q2.out.mono ?_
  rintro e w3 ⟨o, rfl, ho, hb3⟩
  obtain ⟨g, cap, rfl⟩ := own_head ho
  have hb3' := hba.trans (hb3.mono hba.size)
  have cs := cells_own ho
  obtain ⟨b0, o0, e0, s0⟩ := cs 0 (by simp [spellCells])
  obtain ⟨b1, o1, e1, s1⟩ := cs 1 (by simp [spellCells])
  obtain ⟨b2, o2, e2, s2⟩ := cs 2 (by simp [spellCells])
  obtain ⟨b3, o3, e3, s3⟩ := cs 3 (by simp [spellCells])
  cases e0
  cases e1
  cases e2
  cases e3
  have s0' : w3.cell? ⟨g, 0, none⟩ = some (.string (keyS a)) := s0
  have s1' : w3.cell? ⟨g, 1, none⟩ = some (.int .i64 (alphaN a.data.toList)) := s1
  have s2' : w3.cell? ⟨g, 2, none⟩ = some (.string (keyS b)) := s2
  have s3' : w3.cell? ⟨g, 3, none⟩ = some (.int .i64 (alphaN b.data.toList)) := s3
  have q := HQ.out
  clear HQ
  generalize keyS a = A at *
  generalize keyS b = B at *
  generalize alphaN a.data.toList = p at *
  generalize alphaN b.data.toList = q' at *
  clear Q2 hb3 cs ho hba s0 s1 s2 s3
  obtain ⟨T, gg, hg0, hgb, h0, h1, h2, h3, hT⟩ : ∃ (T : Type) (g' : T → World), (∃ x, w3.drew = g' x) ∧ (∀ x, Below w3.heap.size w3 (g' x)) ∧ (∀ x, (g' x).cell? ⟨g, 0, none⟩ = some (.string A)) ∧ (∀ x, (g' x).cell? ⟨g, 1, none⟩ = some (.int .i64 p)) ∧ (∀ x, (g' x).cell? ⟨g, 2, none⟩ = some (.string B)) ∧ (∀ x, (g' x).cell? ⟨g, 3, none⟩ = some (.int .i64 q')) ∧
      (∀ x, Calls Tryz.prog 62 #[.agg #[.string A, .int .i64 p], .agg #[.string B, .int .i64 q']] (g' x) fun e w' => e = .returned (.int .i64 v) ∧ ∃ y, w' = g' y) :=
    ⟨Since w3, Subtype.val, Since.here w3, fun x => x.property, fun x => x.cell s0', fun x => x.cell s1', fun x => x.cell s2', fun x => x.cell s3', fun x => x.calls ((q _).mono fun _ _ h => ⟨h.1, h.2.below⟩)⟩
  have hTne : Nonempty T := let ⟨x, _⟩ := hg0; ⟨x⟩
  have HT1 := Lib.hid hT
  clear hT s0' s1' s2' s3' q
  go_wp2_with fail
  refine wp_region_class gg hg0 (by kernel_rfl) (by kernel_rfl) ?_
  repeat (go_big_quiet_step (fail))
  go_big_quiet_step (exact HT1.out _)
  repeat (go_big_quiet_step (fail))
  refine wpQuiet_nil ?_
  rintro _ ⟨xq, rfl⟩
  have t5 := hb3'.trans ((hgb xq).mono hb3'.size)
  clear hgb hg0
  go_wp2_with fail
  go_ret2
  exact ⟨rfl, t5⟩
end Go.Proofs.YtlhiekeolmgilaaGreatDoor
