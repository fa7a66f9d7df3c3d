/- Dice: abbreviations of few letters. -/
import Derived.Test.YtapagncaadjiaabGreatDoorDiceC
namespace Go.Proofs.YtapagncaadjiaabGreatDoor
open Go.RowKit

/-- An abbreviation that dice make of a string: some of its letters, and a point. -/
def ShortOfPost (d : Nat) (v : Value) (key : ByteArray) (w : World) (e : Ending) (w' : World) : Prop :=
  ∃ l : List UInt8, e = .returned (str (l ++ [46])) ∧ l.length ≤ key.size ∧ (1 ≤ key.size → 1 ≤ l.length) ∧ (∀ c, c ∈ l → c ∈ key.data.toList) ∧
    Dice w' d v ∧ w.grownBy w' (some d)

set_option maxRecDepth 100000 in
set_option maxHeartbeats 1000000 in
theorem ShortOf_any (d : Nat) (v : Value) (key : ByteArray) (w : World) (h : Dice w d v) (hk : key.size ≤ 1000) :
    Calls Tryz.prog 19 #[.pointer (some ⟨d, 0, none⟩), .string key] w (ShortOfPost d v key w) := by
  go_enter Tryz.func19, Tryz.ntmps19
  go_wp2_with fail
  go_loopw [5, 6] (fun t i wr => ∃ (k : Nat) (l : List UInt8), k ≤ key.size ∧ l.length ≤ k ∧ (1 ≤ k → 1 ≤ l.length) ∧ i = .int .i64 k ∧ t = str l ∧ (∀ c, c ∈ l → c ∈ key.data.toList) ∧ Dice wr d v ∧ w.grownBy wr (some d)) (fun _ i _ => key.size - (intOf i).toNat)
  case atStart => exact ⟨0, [], by omega, by simp, by omega, rfl, rfl, by simp, h, World.grownBy.refl _ _⟩
  case round =>
    obtain ⟨k, l, k1, k2, k3, rfl, rfl, hl, hdr, hgr⟩ := hrel
    have HL := Lib.hid hl
    have K3 := Lib.hid k3
    clear hl k3
    by_cases hlt : k < key.size
    · have hex := extract_one key k hlt
      have hmem : ∀ c, c ∈ l ++ [key[k]] → c ∈ key.data.toList := fun c hc => by
        rcases List.mem_append.1 hc with hc | hc
        · exact HL.out c hc
        · rw [List.mem_singleton.1 hc]; exact Array.getElem_mem_toList _
      have HM := Lib.hid hmem
      clear hmem
      by_cases h0 : k = 0
      · subst h0
        have hl0 := Lib.hid k2
        go_wp2
        go_roundw
        case rel => exact ⟨1, l ++ [key[0]], by omega, by have := hl0.out; simp only [List.length_append, List.length_singleton]; omega, fun _ => by simp, rfl, by rw [mk_append], HM.out, hdr, hgr⟩
        case measure => simp [intOf]; omega
      · have e0 : ((k : Int) == 0) = false := by rw [beq_eq_false_iff_ne]; omega
        go_wp2_with fail
        refine (Once_any _ _ _ _ hdr (by omega) (by omega)).mono ?_
        rintro e w2 ⟨x, rfl, hd2, hg2⟩
        cases x
        · go_wp2
          go_roundw
          case rel => exact ⟨k + 1, l, by omega, by omega, fun _ => K3.out (by omega), by go_num, rfl, HL.out, hd2, grownBy_trans hgr hg2⟩
          case measure => simp [intOf]; omega
        · go_wp2
          go_roundw
          case rel => exact ⟨k + 1, l ++ [key[k]], by omega, by simp; omega, fun _ => by simp, by go_num, by rw [mk_append], HM.out, hd2, grownBy_trans hgr hg2⟩
          case measure => simp [intOf]; omega
    · go_wp2
      go_ret
      exact ⟨l, ret_val (congrArg Value.string (mk_append l [46])), by omega, fun h => K3.out (by omega), HL.out, hdr, hgr⟩
end Go.Proofs.YtapagncaadjiaabGreatDoor
