/- Made names; a region's worlds drawn on. -/
import Derived.Test.YtlhiekeolmgilaaGreatDoorLawD
import Derived.Test.YtlhiekeolmgilaaGreatDoorPgT
namespace Go.Proofs.YtlhiekeolmgilaaGreatDoor
open Go.RowKit

theorem check_letters {l : List UInt8} (h : Sp.check l = 0) : Letters l := by
  unfold Sp.check at h
  split at h
  · exact absurd h (by decide)
  · split at h
    · exact absurd h (by decide)
    · split at h
      · exact absurd h (by decide)
      · rename_i h0 _ h2
        have hz : ¬ (Sp.own l < l.length ∧ Sp.other l < l.length) := h2
        have h4 : Sp.own l ≤ l.length := List.length_filter_le _ _
        have h5 : Sp.other l ≤ l.length := List.length_filter_le _ _
        by_cases ho : Sp.own l = l.length
        · unfold Sp.own at ho
          exact .inl (List.length_filter_eq_length_iff.1 ho)
        · have h3 : Sp.other l = l.length := by omega
          unfold Sp.other at h3
          have ha := List.length_filter_eq_length_iff.1 h3
          exact .inr fun c hc => by have := ha c hc; simpa using this
theorem made_check {s : ByteArray} (h : Made6 s) : Sp.check s.data.toList = 0 := (other_facts s h.1 h.2.1 h.2.2).1
theorem made_ok2 {a b : ByteArray} (ha : Made6 a) (hb : Made6 b) : AllOk [a, b] := by
  intro s hs
  simp at hs
  rcases hs with rfl | rfl
  · exact made_check ha
  · exact made_check hb
theorem cmp_call {a b : ByteArray} {n : Int} (ha : Made6 a) (hb : Made6 b) (hn : cmpSpell (spellOf a) (spellOf b) = n) (W : World) :
    Calls Tryz.prog 18 #[.string a, .string b] W fun e w' => e = .returned (.tuple #[.int .i64 n, .int .i64 0]) ∧ Below W.heap.size W w' := by
  subst hn
  exact Compare_ok a b W (made_ok2 ha hb)

theorem Since.drew {w : World} (x : Since w) : ∃ y : Since w, x.val.drew = y.val := ⟨⟨x.val.drew, x.property.drew⟩, rfl⟩
end Go.Proofs.YtlhiekeolmgilaaGreatDoor
