/- Lists of names that are in order, as the program asks. -/
import Derived.Test.YtljlkhaolfihjaaGreatDoorPgE
import Derived.Test.YtljlkhaolfihjaaGreatDoorKitE
namespace Go.Proofs.YtljlkhaolfihjaaGreatDoor
open Go.RowKit Go.Shelf

def cmpAt (ss : List ByteArray) (i j : Nat) : Int := cmpSpell (spellOf (ss.getD i ByteArray.empty)) (spellOf (ss.getD j ByteArray.empty))
/-- No name comes before the one ahead of it. -/
def ordB (ss : List ByteArray) : Bool := (List.range (ss.length - 1)).all fun i => !decide (cmpAt ss (i + 1) i < 0)
theorem ord_true {ss : List ByteArray} (h : ∀ i, i + 1 < ss.length → ¬ cmpAt ss (i + 1) i < 0) : ordB ss = true := by
  unfold ordB
  rw [List.all_eq_true]
  intro i hi
  have := h i (by have := List.mem_range.1 hi; omega)
  simp only [Bool.not_eq_true', decide_eq_false_iff_not]
  exact this
theorem ord_false {ss : List ByteArray} {i : Nat} (hi : i + 1 < ss.length) (h : cmpAt ss (i + 1) i < 0) : ordB ss = false := by
  unfold ordB
  rw [List.all_eq_false]
  exact ⟨i, List.mem_range.2 (by omega), by simp [h]⟩
theorem getD_at (ss : List ByteArray) (i : Nat) (h : i < ss.length) : ss.getD i ByteArray.empty = ss[i] := by
  rw [List.getD_eq_getElem?_getD, List.getElem?_eq_getElem h]; rfl
abbrev cmpV : Value := .func (.func 48) #[] #[]
theorem compare_below (a b : Spell) (w : World) : Calls Tryz.prog 48 #[.agg #[.string a.1, .int .i64 a.2], .agg #[.string b.1, .int .i64 b.2]] w
    fun e w' => e = .returned (.int .i64 (cmpSpell a b)) ∧ Below w.heap.size w w' :=
  (compare_any a b w).mono fun _ _ h => ⟨h.1, h.2.below⟩

set_option maxRecDepth 100000 in
set_option maxHeartbeats 1600000 in
theorem isSorted_any (A : Option Addr) (n c : Nat) (ss : List ByteArray) (w : World) (hn : n = ss.length) (hb : n ≤ 1000) (hx : Cells w A (spellCells ss)) :
    Calls Tryz.prog 90 #[.slice A n c, cmpV] w fun e w' => e = .returned (.bool (ordB ss)) ∧ Below w.heap.size w w' := by
  have HX := Lib.hid hx
  have HN := Lib.hid hn
  cases n with
  | zero =>
    have e : ordB ss = true := ord_true fun i hi => by omega
    rw [e]
    clear hn hx e
    go_enter Tryz.func90, Tryz.ntmps90
    go_wp2_with fail
    refine wp_loop_rounds 1 ?_
    rw [rounds_succ]
    go_wp2_with fail
    go_ret
    exact ⟨rfl, Below.refl _ _⟩
  | succ m =>
    have w0 : IntKind.i64.wrap (((m + 1 : Nat) : Int) - 1) = (m : Int) := by rw [show ((m + 1 : Nat) : Int) - 1 = (m : Int) from by omega]; exact IntWalk.i64_in _ (by omega)
    have w1 : IntKind.i64.wrap ((m : Int) + 1 - 1) = (m : Int) := by rw [show (m : Int) + 1 - 1 = (m : Int) from by omega]; exact IntWalk.i64_in _ (by omega)
    clear hn hx
    go_enter Tryz.func90, Tryz.ntmps90
    go_wp2_with fail
    go_loopw [5] (fun i wr => ∃ k : Nat, k ≤ m ∧ i = .int .i64 k ∧ Hid (∀ i, k ≤ i → i + 1 < ss.length → ¬ cmpAt ss (i + 1) i < 0) ∧ Below w.heap.size w wr) (fun i _ => (intOf i).toNat)
    case atStart => exact ⟨m, Nat.le_refl _, rfl, Lib.hid (fun i h1 h2 => by have := HN.out; omega), Below.refl _ _⟩
    case round =>
      obtain ⟨k, hk, rfl, hor, t0⟩ := hrel
      cases k with
      | zero =>
        have e : ordB ss = true := ord_true fun i hi => hor.out i (Nat.zero_le _) hi
        have E := Lib.hid e
        clear e hor
        go_wp2_with fail
        go_ret
        exact ⟨ret_bool E.out.symm, t0⟩
      | succ j =>
        have h1 : j < ss.length := by have := HN.out; omega
        have h2 : j + 1 < ss.length := by have := HN.out; omega
        obtain ⟨b1, o1, rfl, c1, c2⟩ := (HX.out.below t0).spell (j + 1) h2
        obtain ⟨b2, o2, e2, c3, c4⟩ := (HX.out.below t0).spell j h1
        injection e2 with e2
        injection e2 with e2 e3 _
        subst e2 e3
        have hc : cmpAt ss (j + 1) j = cmpSpell (keyS ss[j + 1], alphaN ss[j + 1].data.toList) (keyS ss[j], alphaN ss[j].data.toList) := by
          unfold cmpAt; rw [getD_at ss _ h2, getD_at ss _ h1]; rfl
        have qc := fun W => compare_below (keyS ss[j + 1], alphaN ss[j + 1].data.toList) (keyS ss[j], alphaN ss[j].data.toList) W
        rw [← hc] at qc
        have hnx : ¬ cmpAt ss (j + 1) j < 0 → Hid (∀ i, j ≤ i → i + 1 < ss.length → ¬ cmpAt ss (i + 1) i < 0) := fun h => Lib.hid fun i hi hl => by
          by_cases e : i = j
          · subst e; exact h
          · exact hor.out i (by omega) hl
        have hfl : cmpAt ss (j + 1) j < 0 → ordB ss = false := fun h => ord_false h2 h
        generalize alphaN ss[j + 1].data.toList = al at *
        generalize keyS ss[j + 1] = X at *
        generalize alphaN ss[j].data.toList = bl at *
        generalize keyS ss[j] = Y at *
        generalize cmpAt ss (j + 1) j = D at *
        have j1 : (0 : Int) < (j : Int) + 1 := by omega
        have j2 : IntKind.i64.wrap ((j : Int) + 1 - 1) = (j : Int) := by rw [show (j : Int) + 1 - 1 = (j : Int) from by omega]; exact IntWalk.i64_in _ (by omega)
        have j3 : (j : Int) + 1 < (m : Int) + 1 := by omega
        have j4 : (0 : Int) ≤ (j : Int) + 1 := by omega
        have j5 : (j : Int) < (m : Int) + 1 := by omega
        have j6 : (0 : Int) ≤ (j : Int) := by omega
        have j7 : ((j : Int) + 1).toNat = j + 1 := by omega
        obtain ⟨T, g, hg0, hgb, hg1, hg2, hg3, hg4, hT⟩ : ∃ (T : Type) (g : T → World), (∃ x, wr.drew = g x) ∧ (∀ x, Below wr.heap.size wr (g x)) ∧ (∀ x, (g x).cell? ⟨b1, o1 + (j + 1) * 2, none⟩ = some (.string X)) ∧ (∀ x, (g x).cell? ⟨b1, o1 + (j + 1) * 2 + 1, none⟩ = some (.int .i64 al)) ∧
            (∀ x, (g x).cell? ⟨b1, o1 + j * 2, none⟩ = some (.string Y)) ∧ (∀ x, (g x).cell? ⟨b1, o1 + j * 2 + 1, none⟩ = some (.int .i64 bl)) ∧
            (∀ x, Calls Tryz.prog 48 #[.agg #[.string X, .int .i64 al], .agg #[.string Y, .int .i64 bl]] (g x) fun e w' => e = .returned (.int .i64 D) ∧ ∃ y, w' = g y) :=
          ⟨Since wr, Subtype.val, Since.here wr, fun x => x.property, fun x => x.cell c1, fun x => x.cell c2, fun x => x.cell c3, fun x => x.cell c4, fun x => x.calls (qc _)⟩
        have hTne : Nonempty T := let ⟨x, _⟩ := hg0; ⟨x⟩
        have HT := Lib.hid hT
        have HGB := Lib.hid hgb
        have HNX := Lib.hid hnx
        have HFL := Lib.hid hfl
        clear hT hgb hnx hfl qc hc c1 c2 c3 c4
        by_cases hD : D < 0
        · have m1 : decide (D < 0) = true := decide_eq_true hD
          have HF := Lib.hid (HFL.out hD)
          go_wp2_with fail
          refine wp_region_class g hg0 (by kernel_rfl) (by kernel_rfl) ?_
          repeat (go_big_quiet_step (fail))
          go_big_quiet_step (exact HT.out _)
          repeat (go_big_quiet_step (fail))
          refine wpQuiet_nil ?_
          rintro _ ⟨xq, rfl⟩
          have hbq := t0.trans ((HGB.out xq).mono t0.size)
          clear hg0 hg1 hg2 hg3 hg4
          go_wp2_with fail
          go_ret
          exact ⟨ret_bool HF.out.symm, hbq⟩
        · have m1 : decide (D < 0) = false := decide_eq_false hD
          have HF := HNX.out hD
          go_wp2_with fail
          refine wp_region_class g hg0 (by kernel_rfl) (by kernel_rfl) ?_
          repeat (go_big_quiet_step (fail))
          go_big_quiet_step (exact HT.out _)
          repeat (go_big_quiet_step (fail))
          refine wpQuiet_nil ?_
          rintro _ ⟨xq, rfl⟩
          have hbq := t0.trans ((HGB.out xq).mono t0.size)
          clear hg0 hg1 hg2 hg3 hg4
          go_wp2_with fail
          go_roundw
          case rel => exact ⟨j, by omega, by go_num, Lib.hid fun i h1 h2 => (by have := HF.out i h1 h2; omega), hbq⟩
          case measure => simp [intOf]
end Go.Proofs.YtljlkhaolfihjaaGreatDoor
