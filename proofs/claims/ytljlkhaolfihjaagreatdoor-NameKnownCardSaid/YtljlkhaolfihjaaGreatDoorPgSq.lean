/- Lists of names that are in order, as the program asks. -/
import Derived.Test.YtljlkhaolfihjaaGreatDoorPgE
import Derived.Test.YtljlkhaolfihjaaGreatDoorKitE
import Derived.Test.YtljlkhaolfihjaaGreatDoorSpecZ
import Derived.Test.YtljlkhaolfihjaaGreatDoorPzC
import Derived.Test.YtljlkhaolfihjaaGreatDoorPgZ
import Derived.Test.YtljlkhaolfihjaaGreatDoorRefI
namespace Go.Proofs.YtljlkhaolfihjaaGreatDoor
open Go.RowKit Go.Shelf

def cmpAt (ss : List ByteArray) (i j : Nat) : Int := cmpSpell (spellOf (ss.getD i ByteArray.empty)) (spellOf (ss.getD j ByteArray.empty))
/-- No name comes before the one ahead of it. -/
def ordB (ss : List ByteArray) : Bool := (List.range (ss.length - 1)).all fun i => !decide (cmpAt ss (i + 1) i < 0)
theorem ord_true {ss : List ByteArray} (h : ∀ i, i + 1 < ss.length → ¬ cmpAt ss (i + 1) i < 0) : ordB ss = true := by
  unfold ordB
  rw [List.all_eq_true]
  intro i hi
  have := h i (by have := List.mem_range.1 hi; omega)
  simp only [Bool.not_eq_true', decide_eq_false_iff_not]
  exact this
theorem ord_false {ss : List ByteArray} {i : Nat} (hi : i + 1 < ss.length) (h : cmpAt ss (i + 1) i < 0) : ordB ss = false := by
  unfold ordB
  rw [List.all_eq_false]
  exact ⟨i, List.mem_range.2 (by omega), by simp [h]⟩
theorem getD_at (ss : List ByteArray) (i : Nat) (h : i < ss.length) : ss.getD i ByteArray.empty = ss[i] := by
  rw [List.getD_eq_getElem?_getD, List.getElem?_eq_getElem h]; rfl
abbrev cmpV : Value := .func (.func 48) #[] #[]
theorem compare_below (a b : Spell) (w : World) : Calls Tryz.prog 48 #[.agg #[.string a.1, .int .i64 a.2], .agg #[.string b.1, .int .i64 b.2]] w
    fun e w' => e = .returned (.int .i64 (cmpSpell a b)) ∧ Below w.heap.size w w' :=
  (compare_any a b w).mono fun _ _ h => ⟨h.1, h.2.below⟩

set_option maxRecDepth 100000 in
set_option maxHeartbeats 1600000 in
theorem isSorted_any (A : Option Addr) (n c : Nat) (ss : List ByteArray) (w : World) (hn : n = ss.length) (hb : n ≤ 1000) (hx : Cells w A (spellCells ss)) :
    Calls Tryz.prog 90 #[.slice A n c, cmpV] w fun e w' => e = .returned (.bool (ordB ss)) ∧ Below w.heap.size w w' := by
  have HX := Lib.hid hx
  have HN := Lib.hid hn
  cases n with
  | zero =>
    have e : ordB ss = true := ord_true fun i hi => by omega
    rw [e]
    clear hn hx e
    go_enter Tryz.func90, Tryz.ntmps90
    go_wp2_with fail
    refine wp_loop_rounds 1 ?_
    rw [rounds_succ]
    go_wp2_with fail
    go_ret
    exact ⟨rfl, Below.refl _ _⟩
  | succ m =>
    have w0 : IntKind.i64.wrap (((m + 1 : Nat) : Int) - 1) = (m : Int) := by rw [show ((m + 1 : Nat) : Int) - 1 = (m : Int) from by omega]; exact IntWalk.i64_in _ (by omega)
    have w1 : IntKind.i64.wrap ((m : Int) + 1 - 1) = (m : Int) := by rw [show (m : Int) + 1 - 1 = (m : Int) from by omega]; exact IntWalk.i64_in _ (by omega)
    clear hn hx
    go_enter Tryz.func90, Tryz.ntmps90
    go_wp2_with fail
    go_loopw [5] (fun i wr => ∃ k : Nat, k ≤ m ∧ i = .int .i64 k ∧ Hid (∀ i, k ≤ i → i + 1 < ss.length → ¬ cmpAt ss (i + 1) i < 0) ∧ Below w.heap.size w wr) (fun i _ => (intOf i).toNat)
    case atStart => exact ⟨m, Nat.le_refl _, rfl, Lib.hid (fun i h1 h2 => by have := HN.out; omega), Below.refl _ _⟩
    case round =>
      obtain ⟨k, hk, rfl, hor, t0⟩ := hrel
      cases k with
      | zero =>
        have e : ordB ss = true := ord_true fun i hi => hor.out i (Nat.zero_le _) hi
        have E := Lib.hid e
        clear e hor
        go_wp2_with fail
        go_ret
        exact ⟨ret_bool E.out.symm, t0⟩
      | succ j =>
        have h1 : j < ss.length := by have := HN.out; omega
        have h2 : j + 1 < ss.length := by have := HN.out; omega
        obtain ⟨b1, o1, rfl, c1, c2⟩ := (HX.out.below t0).spell (j + 1) h2
        obtain ⟨b2, o2, e2, c3, c4⟩ := (HX.out.below t0).spell j h1
        injection e2 with e2
        injection e2 with e2 e3 _
        subst e2 e3
        have hc : cmpAt ss (j + 1) j = cmpSpell (keyS ss[j + 1], alphaN ss[j + 1].data.toList) (keyS ss[j], alphaN ss[j].data.toList) := by
          unfold cmpAt; rw [getD_at ss _ h2, getD_at ss _ h1]; rfl
        have qc := fun W => compare_below (keyS ss[j + 1], alphaN ss[j + 1].data.toList) (keyS ss[j], alphaN ss[j].data.toList) W
        rw [← hc] at qc
        have hnx : ¬ cmpAt ss (j + 1) j < 0 → Hid (∀ i, j ≤ i → i + 1 < ss.length → ¬ cmpAt ss (i + 1) i < 0) := fun h => Lib.hid fun i hi hl => by
          by_cases e : i = j
          · subst e; exact h
          · exact hor.out i (by omega) hl
        have hfl : cmpAt ss (j + 1) j < 0 → ordB ss = false := fun h => ord_false h2 h
        generalize alphaN ss[j + 1].data.toList = al at *
        generalize keyS ss[j + 1] = X at *
        generalize alphaN ss[j].data.toList = bl at *
        generalize keyS ss[j] = Y at *
        generalize cmpAt ss (j + 1) j = D at *
        have j1 : (0 : Int) < (j : Int) + 1 := by omega
        have j2 : IntKind.i64.wrap ((j : Int) + 1 - 1) = (j : Int) := by rw [show (j : Int) + 1 - 1 = (j : Int) from by omega]; exact IntWalk.i64_in _ (by omega)
        have j3 : (j : Int) + 1 < (m : Int) + 1 := by omega
        have j4 : (0 : Int) ≤ (j : Int) + 1 := by omega
        have j5 : (j : Int) < (m : Int) + 1 := by omega
        have j6 : (0 : Int) ≤ (j : Int) := by omega
        have j7 : ((j : Int) + 1).toNat = j + 1 := by omega
        obtain ⟨T, g, hg0, hgb, hg1, hg2, hg3, hg4, hT⟩ : ∃ (T : Type) (g : T → World), (∃ x, wr.drew = g x) ∧ (∀ x, Below wr.heap.size wr (g x)) ∧ (∀ x, (g x).cell? ⟨b1, o1 + (j + 1) * 2, none⟩ = some (.string X)) ∧ (∀ x, (g x).cell? ⟨b1, o1 + (j + 1) * 2 + 1, none⟩ = some (.int .i64 al)) ∧
            (∀ x, (g x).cell? ⟨b1, o1 + j * 2, none⟩ = some (.string Y)) ∧ (∀ x, (g x).cell? ⟨b1, o1 + j * 2 + 1, none⟩ = some (.int .i64 bl)) ∧
            (∀ x, Calls Tryz.prog 48 #[.agg #[.string X, .int .i64 al], .agg #[.string Y, .int .i64 bl]] (g x) fun e w' => e = .returned (.int .i64 D) ∧ ∃ y, w' = g y) :=
          ⟨Since wr, Subtype.val, Since.here wr, fun x => x.property, fun x => x.cell c1, fun x => x.cell c2, fun x => x.cell c3, fun x => x.cell c4, fun x => x.calls (qc _)⟩
        have hTne : Nonempty T := let ⟨x, _⟩ := hg0; ⟨x⟩
        have HT := Lib.hid hT
        have HGB := Lib.hid hgb
        have HNX := Lib.hid hnx
        have HFL := Lib.hid hfl
        clear hT hgb hnx hfl qc hc c1 c2 c3 c4
        by_cases hD : D < 0
        · have m1 : decide (D < 0) = true := decide_eq_true hD
          have HF := Lib.hid (HFL.out hD)
          go_wp2_with fail
          refine wp_region_class g hg0 (by kernel_rfl) (by kernel_rfl) ?_
          repeat (go_big_quiet_step (fail))
          go_big_quiet_step (exact HT.out _)
          repeat (go_big_quiet_step (fail))
          refine wpQuiet_nil ?_
          rintro _ ⟨xq, rfl⟩
          have hbq := t0.trans ((HGB.out xq).mono t0.size)
          clear hg0 hg1 hg2 hg3 hg4
          go_wp2_with fail
          go_ret
          exact ⟨ret_bool HF.out.symm, hbq⟩
        · have m1 : decide (D < 0) = false := decide_eq_false hD
          have HF := HNX.out hD
          go_wp2_with fail
          refine wp_region_class g hg0 (by kernel_rfl) (by kernel_rfl) ?_
          repeat (go_big_quiet_step (fail))
          go_big_quiet_step (exact HT.out _)
          repeat (go_big_quiet_step (fail))
          refine wpQuiet_nil ?_
          rintro _ ⟨xq, rfl⟩
          have hbq := t0.trans ((HGB.out xq).mono t0.size)
          clear hg0 hg1 hg2 hg3 hg4
          go_wp2_with fail
          go_roundw
          case rel => exact ⟨j, by omega, by go_num, Lib.hid fun i h1 h2 => (by have := HF.out i h1 h2; omega), hbq⟩
          case measure => simp [intOf]
end Go.Proofs.YtljlkhaolfihjaaGreatDoor

/- The place of a name in a list that is in order. -/
namespace Go.Proofs.YtljlkhaolfihjaaGreatDoor
open Go.RowKit Go.Shelf

def cmpT (ss : List ByteArray) (t : Spell) (i : Nat) : Int := cmpSpell (spellOf (ss.getD i ByteArray.empty)) t
def SearchPost (ss : List ByteArray) (t : Spell) (w : World) (e : Ending) (w' : World) : Prop :=
  ∃ (P : Nat) (f : Bool), e = .returned (.tuple #[.int .i64 P, .bool f]) ∧ P ≤ ss.length ∧ (∀ i, i < P → cmpT ss t i < 0) ∧ (∀ i, P ≤ i → i < ss.length → 0 ≤ cmpT ss t i) ∧ Below w.heap.size w w'

set_option maxRecDepth 100000 in
set_option maxHeartbeats 3200000 in
theorem search_any (A : Option Addr) (n c : Nat) (ss : List ByteArray) (t1 : ByteArray) (t2 : Int) (w : World) (hn : n = ss.length) (hb : n ≤ 1000) (hx : Cells w A (spellCells ss))
    (hm : ∀ a b, a ≤ b → b < ss.length → cmpT ss (t1, t2) b < 0 → cmpT ss (t1, t2) a < 0) :
    Calls Tryz.prog 56 #[.slice A n c, .agg #[.string t1, .int .i64 t2], cmpV] w (SearchPost ss (t1, t2) w) := by
  have HX := Lib.hid hx
  have HN := Lib.hid hn
  have HM := Lib.hid hm
  have hbW : Below w.heap.size w (w.alloc (.cells #[.string t1, .int .i64 t2] 84)) := (Below.refl _ _).alloc (Nat.le_refl _) _
  have hr := heap_alloc_new w (.cells #[.string t1, .int .i64 t2] 84)
  obtain ⟨z1, z2, _, _⟩ := block2_cells hr
  have Z1 := Lib.hid z1
  have Z2 := Lib.hid z2
  have hws : (w.alloc (.cells #[.string t1, .int .i64 t2] 84)).heap.size = w.heap.size + 1 := by simp
  unfold SearchPost
  clear hn hx hm hr z1 z2
  go_enter Tryz.func56, Tryz.ntmps56
  go_wp2_with fail
  generalize w.alloc (.cells #[.string t1, .int .i64 t2] 84) = W at *
  have HTB : Hid (∀ V, Below W.heap.size W V → V.cell? ⟨w.heap.size, 0, none⟩ = some (.string t1) ∧ V.cell? ⟨w.heap.size, 1, none⟩ = some (.int .i64 t2)) := Lib.hid fun V hV => ⟨(hV.cell (p := ⟨w.heap.size, 0, none⟩) (by show w.heap.size < _; omega)).trans Z1.out, (hV.cell (p := ⟨w.heap.size, 1, none⟩) (by show w.heap.size < _; omega)).trans Z2.out⟩
  have HCS := Lib.hid (HX.out.below hbW)
  have HBW := Lib.hid hbW
  have hwl : w.heap.size ≤ W.heap.size := hbW.size
  clear Z1 Z2 HX hbW hws
  go_loopw [9, 10, 11] (fun i j _ wr => ∃ lo hi : Nat, lo ≤ hi ∧ hi ≤ n ∧ i = .int .i64 lo ∧ j = .int .i64 hi ∧ Hid (∀ i, i < lo → cmpT ss (t1, t2) i < 0) ∧ Hid (∀ i, hi ≤ i → i < ss.length → 0 ≤ cmpT ss (t1, t2) i) ∧ Below W.heap.size W wr) (fun i j _ _ => (intOf j).toNat - (intOf i).toNat)
  case atStart => exact ⟨0, n, Nat.zero_le _, Nat.le_refl _, rfl, rfl, Lib.hid (fun i h => absurd h (Nat.not_lt_zero _)), Lib.hid (fun i h1 h2 => by have := HN.out; omega), Below.refl _ _⟩
  case round =>
    obtain ⟨lo, hi, hlh, hhn, rfl, rfl, hlo, hhi, t0⟩ := hrel
    obtain ⟨y1, y2⟩ := HTB.out _ t0
    by_cases hlt : lo < hi
    · obtain ⟨m, hmid⟩ : ∃ m, (lo + hi) / 2 = m := ⟨_, rfl⟩
      have hm1 : lo ≤ m := by omega
      have hm2 : m < hi := by omega
      have hmI : ((lo : Int) + (hi : Int)) / 2 = (m : Int) := by omega
      have hml : m < ss.length := by have := HN.out; omega
      obtain ⟨b1, o1, rfl, c1, c2⟩ := (HCS.out.below t0).spell m hml
      have hc : cmpT ss (t1, t2) m = cmpSpell (keyS ss[m], alphaN ss[m].data.toList) (t1, t2) := by unfold cmpT; rw [getD_at ss _ hml]; rfl
      have qc := fun V => compare_below (keyS ss[m], alphaN ss[m].data.toList) (t1, t2) V
      rw [← hc] at qc
      have hlo2 : cmpT ss (t1, t2) m < 0 → Hid (∀ i, i < m + 1 → cmpT ss (t1, t2) i < 0) := fun h => Lib.hid fun i hi => HM.out i m (by omega) hml h
      have hhi2 : ¬ cmpT ss (t1, t2) m < 0 → Hid (∀ i, m ≤ i → i < ss.length → 0 ≤ cmpT ss (t1, t2) i) := fun h => Lib.hid fun i h1 h2 => by
        have h4 : ¬ cmpT ss (t1, t2) i < 0 := fun h3 => h (HM.out m i h1 h2 h3)
        omega
      generalize alphaN ss[m].data.toList = al at *
      generalize keyS ss[m] = X at *
      generalize cmpT ss (t1, t2) m = D at *
      have j1 : (lo : Int) < (hi : Int) := by omega
      have j2 : (0 : Int) ≤ (m : Int) := by omega
      have j3 : (m : Int) < (n : Int) := by omega
      obtain ⟨T, g, hg0, hgb, hg1, hg2, hg3, hg4, hT⟩ : ∃ (T : Type) (g : T → World), (∃ x, wr.drew = g x) ∧ (∀ x, Below wr.heap.size wr (g x)) ∧ (∀ x, (g x).cell? ⟨b1, o1 + m * 2, none⟩ = some (.string X)) ∧ (∀ x, (g x).cell? ⟨b1, o1 + m * 2 + 1, none⟩ = some (.int .i64 al)) ∧
          (∀ x, (g x).cell? ⟨w.heap.size, 0, none⟩ = some (.string t1)) ∧ (∀ x, (g x).cell? ⟨w.heap.size, 1, none⟩ = some (.int .i64 t2)) ∧
          (∀ x, Calls Tryz.prog 48 #[.agg #[.string X, .int .i64 al], .agg #[.string t1, .int .i64 t2]] (g x) fun e w' => e = .returned (.int .i64 D) ∧ ∃ y, w' = g y) :=
        ⟨Since wr, Subtype.val, Since.here wr, fun x => x.property, fun x => x.cell c1, fun x => x.cell c2, fun x => x.cell y1, fun x => x.cell y2, fun x => x.calls (qc _)⟩
      have hTne : Nonempty T := let ⟨x, _⟩ := hg0; ⟨x⟩
      have HT := Lib.hid hT
      have HGB := Lib.hid hgb
      have HLO2 := Lib.hid hlo2
      have HHI2 := Lib.hid hhi2
      clear hT hgb hlo2 hhi2 qc hc c1 c2 y1 y2 hmid
      by_cases hD : D < 0
      · have m1 : decide (D < 0) = true := decide_eq_true hD
        have HF := Lib.hid (HLO2.out hD).out
        clear hlo
        go_wp2_with fail
        refine wp_region_class g hg0 (by kernel_rfl) (by kernel_rfl) ?_
        repeat (go_big_quiet_step (fail))
        go_big_quiet_step (exact HT.out _)
        repeat (go_big_quiet_step (fail))
        refine wpQuiet_nil ?_
        rintro _ ⟨xq, rfl⟩
        have hbq := t0.trans ((HGB.out xq).mono t0.size)
        clear hg0 hg1 hg2 hg3 hg4
        go_wp2_with fail
        go_roundw
        case rel => exact ⟨m + 1, hi, by omega, hhn, by go_num, rfl, Lib.hid fun i h => (by have := HF.out i h; omega), hhi, hbq⟩
        case measure => simp [intOf]; omega
      · have m1 : decide (D < 0) = false := decide_eq_false hD
        have HF := Lib.hid (HHI2.out hD).out
        clear hhi
        go_wp2_with fail
        refine wp_region_class g hg0 (by kernel_rfl) (by kernel_rfl) ?_
        repeat (go_big_quiet_step (fail))
        go_big_quiet_step (exact HT.out _)
        repeat (go_big_quiet_step (fail))
        refine wpQuiet_nil ?_
        rintro _ ⟨xq, rfl⟩
        have hbq := t0.trans ((HGB.out xq).mono t0.size)
        clear hg0 hg1 hg2 hg3 hg4
        go_wp2_with fail
        go_roundw
        case rel => exact ⟨lo, m, hm1, by omega, rfl, rfl, hlo, Lib.hid fun i h1 h2 => (by have := HF.out i h1 h2; omega), hbq⟩
        case measure => simp [intOf]; omega
    · have hle : lo = hi := by omega
      have hfin := HBW.out.trans (t0.mono hwl)
      have hfs : w.heap.size ≤ wr.heap.size := Nat.le_trans hwl t0.size
      have HHI : Hid (∀ i, lo ≤ i → i < ss.length → 0 ≤ cmpT ss (t1, t2) i) := by rw [hle]; exact hhi
      have hln : lo ≤ ss.length := by have := HN.out; omega
      clear hhi hle
      by_cases hln2 : lo < n
      · have hml : lo < ss.length := by have := HN.out; omega
        obtain ⟨b1, o1, rfl, c1, c2⟩ := (HCS.out.below t0).spell lo hml
        have qc := fun V => compare_below (keyS ss[lo], alphaN ss[lo].data.toList) (t1, t2) V
        generalize alphaN ss[lo].data.toList = al at *
        generalize keyS ss[lo] = X at *
        generalize cmpSpell (X, al) (t1, t2) = D at *
        have j0 : ¬ ((lo : Int) < (hi : Int)) := by omega
        have j2 : (0 : Int) ≤ (lo : Int) := by omega
        have j3 : (lo : Int) < (n : Int) := by omega
        obtain ⟨T, g, hg0, hgb, hg1, hg2, hg3, hg4, hT⟩ : ∃ (T : Type) (g : T → World), (∃ x, wr.drew = g x) ∧ (∀ x, Below wr.heap.size wr (g x)) ∧ (∀ x, (g x).cell? ⟨b1, o1 + lo * 2, none⟩ = some (.string X)) ∧ (∀ x, (g x).cell? ⟨b1, o1 + lo * 2 + 1, none⟩ = some (.int .i64 al)) ∧
            (∀ x, (g x).cell? ⟨w.heap.size, 0, none⟩ = some (.string t1)) ∧ (∀ x, (g x).cell? ⟨w.heap.size, 1, none⟩ = some (.int .i64 t2)) ∧
            (∀ x, Calls Tryz.prog 48 #[.agg #[.string X, .int .i64 al], .agg #[.string t1, .int .i64 t2]] (g x) fun e w' => e = .returned (.int .i64 D) ∧ ∃ y, w' = g y) :=
          ⟨Since wr, Subtype.val, Since.here wr, fun x => x.property, fun x => x.cell c1, fun x => x.cell c2, fun x => x.cell y1, fun x => x.cell y2, fun x => x.calls (qc _)⟩
        have hTne : Nonempty T := let ⟨x, _⟩ := hg0; ⟨x⟩
        have HT := Lib.hid hT
        have HGB := Lib.hid hgb
        clear hT hgb qc c1 c2 y1 y2
        go_wp2_with fail
        refine wp_region_class g hg0 (by kernel_rfl) (by kernel_rfl) ?_
        repeat (go_big_quiet_step (fail))
        go_big_quiet_step (exact HT.out _)
        repeat (go_big_quiet_step (fail))
        refine wpQuiet_nil ?_
        rintro _ ⟨xq, rfl⟩
        have hbq := hfin.trans ((HGB.out xq).mono hfs)
        clear hg0 hg1 hg2 hg3 hg4
        go_wp2_with fail
        go_ret2
        exact ⟨lo, _, rfl, hln, fun i h => (by have := hlo.out i h; omega), fun i h1 h2 => (by have := HHI.out i h1 h2; omega), hbq⟩
      · have j0 : ¬ ((lo : Int) < (hi : Int)) := by omega
        have j3 : ¬ ((lo : Int) < (n : Int)) := by omega
        go_wp2_with fail
        refine wp_region_class (fun _ : Unit => wr.drew) ⟨(), rfl⟩ (by kernel_rfl) (by kernel_rfl) ?_
        repeat (go_big_quiet_step (fail))
        refine wpQuiet_nil ?_
        rintro _ ⟨xq, rfl⟩
        have hbq := hfin.drew
        go_wp2_with fail
        go_ret2
        exact ⟨lo, _, rfl, hln, fun i h => (by have := hlo.out i h; omega), fun i h1 h2 => (by have := HHI.out i h1 h2; omega), hbq⟩
end Go.Proofs.YtljlkhaolfihjaaGreatDoor

/- Place, of any list and any name. -/
namespace Go.Proofs.YtljlkhaolfihjaaGreatDoor
open Go.RowKit Go.Shelf

theorem cmpS_anti (a b : Spell) : cmpSpell b a = - cmpSpell a b := by
  unfold cmpSpell
  rw [cmpB_anti a.1.data.toList b.1.data.toList]
  have h : Lib.compareInt b.2 a.2 = - Lib.compareInt a.2 b.2 := by
    have h1 := cmpI_vals a.2 b.2
    have h2 := cmpI_lt a.2 b.2
    have h3 := cmpI_gt a.2 b.2
    have h4 := cmpI_eq a.2 b.2
    have k1 := cmpI_vals b.2 a.2
    have k2 := cmpI_lt b.2 a.2
    have k3 := cmpI_gt b.2 a.2
    have k4 := cmpI_eq b.2 a.2
    omega
  by_cases e : Lib.compareBytes a.1.data.toList b.1.data.toList = 0
  · rw [if_pos (by omega), if_pos e, h]
  · rw [if_neg (by omega), if_neg e]
theorem cmpS_eq {a b : Spell} (h : cmpSpell a b = 0) : a = b := by
  unfold cmpSpell at h
  by_cases e : Lib.compareBytes a.1.data.toList b.1.data.toList = 0
  · rw [if_pos e] at h
    have h1 : a.1 = b.1 := bytes_inj (by rw [ByteArray.toList_eq, ByteArray.toList_eq]; exact cmpB_eq _ _ e)
    have h2 : a.2 = b.2 := (cmpI_eq _ _).1 h
    exact Prod.ext h1 h2
  · rw [if_neg e] at h
    exact absurd h e
theorem cmpS_le {a b t : Spell} (h : ¬ cmpSpell b a < 0) (k : cmpSpell b t < 0) : cmpSpell a t < 0 := by
  have h1 := cmpS_vals a b
  have h2 := cmpS_anti a b
  have h3 := cmpS_vals b t
  rcases h1 with h1 | h1 | h1
  · have := cmpS_trans a b t h1 (by omega)
    omega
  · rw [cmpS_eq h1]; exact k
  · omega
theorem cmp_before (a b : ByteArray) : beforeB a.data.toList b.data.toList = decide (cmpSpell (spellOf a) (spellOf b) < 0) := by
  unfold beforeB cmpSpell spellOf
  show _ = decide ((if Lib.compareBytes (Sp.key a.data.toList) (Sp.key b.data.toList) = 0 then Lib.compareInt (alphaN a.data.toList) (alphaN b.data.toList) else Lib.compareBytes (Sp.key a.data.toList) (Sp.key b.data.toList)) < 0)
  by_cases e : Sp.key a.data.toList = Sp.key b.data.toList
  · rw [if_pos e, e, cmpB_refl, if_pos rfl]
    unfold alphaN
    cases lat a.data.toList <;> cases lat b.data.toList <;> decide
  · have h0 : ¬ Lib.compareBytes (Sp.key a.data.toList) (Sp.key b.data.toList) = 0 := fun h => e (cmpB_eq _ _ h)
    rw [if_neg e, if_neg h0, less_cmp]
    have h1 := cmpB_vals (Sp.key a.data.toList) (Sp.key b.data.toList)
    by_cases h2 : Lib.compareBytes (Sp.key a.data.toList) (Sp.key b.data.toList) = -1
    · rw [h2]; rfl
    · have h3 : Lib.compareBytes (Sp.key a.data.toList) (Sp.key b.data.toList) = 1 := by omega
      rw [h3]; rfl

theorem ord_step {ss : List ByteArray} (h : ordB ss = true) (i : Nat) (hi : i + 1 < ss.length) : ¬ cmpAt ss (i + 1) i < 0 := by
  unfold ordB at h
  have := List.all_eq_true.1 h i (List.mem_range.2 (by omega))
  simpa using this
theorem ord_mono {ss : List ByteArray} (h : ordB ss = true) (t : Spell) : ∀ a b, a ≤ b → b < ss.length → cmpT ss t b < 0 → cmpT ss t a < 0 := by
  intro a b hab hb hc
  induction b with
  | zero => have : a = 0 := by omega
            rw [this]; exact hc
  | succ b ih =>
    by_cases e : a = b + 1
    · rw [e]; exact hc
    · exact ih (by omega) (by omega) (cmpS_le (ord_step h b hb) hc)
theorem ordered_eq (ss : List ByteArray) : orderedB ss = ordB ss := by
  have key : ∀ d k, ss.length - k = d → (orderedB (ss.drop k) = true ↔ ∀ i, k ≤ i → i + 1 < ss.length → ¬ cmpAt ss (i + 1) i < 0) := by
    intro d
    induction d with
    | zero =>
      intro k hk
      rw [orderedB_end ss k (by omega)]
      exact ⟨fun _ i h1 h2 => by omega, fun _ => rfl⟩
    | succ d ih =>
      intro k hk
      by_cases hl : k + 1 < ss.length
      · have hq := ih (k + 1) (by omega)
        have e1 : cmpAt ss (k + 1) k = cmpSpell (spellOf ss[k + 1]) (spellOf ss[k]) := by unfold cmpAt; rw [getD_at ss _ hl, getD_at ss k (by omega)]
        rw [orderedB_drop ss k hl, cmp_before, Bool.and_eq_true, hq, ← e1]
        constructor
        · rintro ⟨h1, h2⟩ i hi hil
          by_cases e : i = k
          · subst e; simpa using h1
          · exact h2 i (by omega) hil
        · intro h
          exact ⟨by have := h k (Nat.le_refl _) hl; simpa using this, fun i hi hil => h i (by omega) hil⟩
      · rw [orderedB_end ss k (by omega)]
        exact ⟨fun _ i h1 h2 => by omega, fun _ => rfl⟩
  have h := key ss.length 0 (by omega)
  rw [List.drop_zero] at h
  cases ho : ordB ss with
  | true => exact h.2 fun i _ hi => ord_step ho i hi
  | false =>
    cases hq : orderedB ss with
    | false => rfl
    | true =>
      rw [ord_true fun i hi => h.1 hq i (Nat.zero_le _) hi] at ho
      cases ho
/-- How many names come before one, where all that do lie ahead. -/
theorem place_eq (ss : List ByteArray) (m : ByteArray) (P : Nat) (h1 : P ≤ ss.length) (h2 : ∀ i, i < P → cmpT ss (spellOf m) i < 0) (h3 : ∀ i, P ≤ i → i < ss.length → 0 ≤ cmpT ss (spellOf m) i) : placeN ss m = P := by
  have hd : ∀ d k, ss.length - k = d → k ≤ ss.length → placeN (ss.drop k) m = P - k := by
    intro d
    induction d with
    | zero =>
      intro k hk hkl
      rw [List.drop_eq_nil_of_le (by omega)]
      show 0 = P - k
      omega
    | succ d ih =>
      intro k hk hkl
      have hl : k < ss.length := by omega
      rw [placeN_drop ss m k hl, ih (k + 1) (by omega) (by omega), cmp_before]
      have e : cmpT ss (spellOf m) k = cmpSpell (spellOf ss[k]) (spellOf m) := by unfold cmpT; rw [getD_at ss k hl]
      by_cases hp : k < P
      · have := h2 k hp
        rw [e] at this
        rw [if_pos (decide_eq_true this)]
        omega
      · have := h3 k (by omega) hl
        rw [e] at this
        rw [if_neg (by simp; exact this)]
        omega
  have := hd ss.length 0 (by omega) (Nat.zero_le _)
  rwa [List.drop_zero, Nat.sub_zero] at this

set_option maxRecDepth 100000 in
theorem inOrder_any (A : Option Addr) (n c : Nat) (ss : List ByteArray) (w : World) (hn : n = ss.length) (hb : n ≤ 1000) (hx : Cells w A (spellCells ss)) :
    Calls Tryz.prog 55 #[.slice A n c] w fun e w' => e = .returned (.bool (ordB ss)) ∧ Below w.heap.size w w' := by
  have Q := Lib.hid (isSorted_any A n c ss w hn hb hx)
  generalize ordB ss = b at *
  clear hx hn
  go_enter Tryz.func55, Tryz.ntmps55
  go_wp2_with fail
  refine Q.out.mono ?_
  rintro e w' ⟨rfl, h⟩
  go_wp2_with fail
  go_ret
  exact ⟨rfl, h⟩

/-- Place's answer. -/
def PlaceAns (ss : List ByteArray) (m : ByteArray) (w : World) (e : Ending) (w' : World) : Prop :=
  e = .returned (.tuple #[.int .i64 (placeB ss m), .int .i64 (placeErr ss m)]) ∧ Below w.heap.size w w'
set_option maxRecDepth 100000 in
set_option maxHeartbeats 1600000 in
theorem pPlace_any (A : Option Addr) (n c : Nat) (ss : List ByteArray) (m : ByteArray) (w : World) (hL : LaidErr w) (hn : n = ss.length) (hx : Cells w A (ss.map Value.string)) :
    Calls Tryz.prog 18 #[.slice A n c, .string m] w (PlaceAns ss m w) := by
  have HX := Lib.hid hx
  have HL := Lib.hid hL
  unfold PlaceAns
  by_cases hle : listErr ss = 0
  · obtain ⟨l6, hok⟩ := list_facts hle
    have QR := Lib.hid (readList_ok A n c ss w hn (by omega) hok hx)
    unfold SpellsPost at QR
    by_cases hme : Sp.check m.data.toList = 0
    · have qm := fun W => read_ok m W hme
      unfold ReadOk at qm
      have QM := Lib.hid qm
      have QO := Lib.hid (fun B c W (h : Cells W B (spellCells ss)) => inOrder_any B n c ss W hn (by omega) h)
      cases ho : ordB ss with
      | false =>
        have e1 : placeErr ss m = 5 := by unfold placeErr; rw [if_pos hle, if_pos hme, ordered_eq, ho]; rfl
        have e2 : placeB ss m = 0 := by unfold placeB; rw [e1]; rfl
        rw [e1, e2]
        rw [ho] at QO
        have HN := Lib.hid hn
        clear e1 e2 ho hx hL hle hme hok hn
        go_enter Tryz.func18, Tryz.ntmps18
        go_wp2_with fail
        refine QR.out.mono ?_
        rintro e w1 ⟨o, rfl, ho1, hb1⟩
        rw [← HN.out] at ho1
        obtain ⟨B, cb, rfl⟩ := own_form ho1
        have CS := Lib.hid (cells_own ho1)
        clear ho1 QR
        go_wp2_with fail
        refine (QM.out _).mono ?_
        rintro e w2 ⟨rfl, hb2⟩
        have CS2 := Lib.hid (CS.out.below (hb2.trans ((Below.refl _ _).alloc (Nat.le_refl _) (.cells #[.string (keyS m), .int .i64 (alphaN m.data.toList)] 84) |>.mono hb2.size)))
        have hb3 := (hb1.trans (hb2.mono hb1.size)).alloc (o := .cells #[.string (keyS m), .int .i64 (alphaN m.data.toList)] 84) (by have := hb1.size; have := hb2.size; omega)
        clear QM hb1 hb2
        go_wp2_with fail
        refine (QO.out B cb _ CS2.out).mono ?_
        rintro e w3 ⟨rfl, hb4⟩
        have hb5 := hb3.trans (hb4.mono hb3.size)
        clear QO CS CS2
        go_wp2_with fail
        go_ret2
        exact ⟨rfl, hb5⟩
      | true =>
        have e1 : placeErr ss m = 0 := by unfold placeErr; rw [if_pos hle, if_pos hme, ordered_eq, ho]; rfl
        have e2 : placeB ss m = placeN ss m := by unfold placeB; rw [if_pos e1]
        rw [e1, e2]
        rw [ho] at QO
        have qs := fun B c W (h : Cells W B (spellCells ss)) => search_any B n c ss (keyS m) (alphaN m.data.toList) W hn (by omega) h (ord_mono ho (keyS m, alphaN m.data.toList))
        unfold SearchPost at qs
        have QS := Lib.hid qs
        have HN := Lib.hid hn
        have HPE := Lib.hid (place_eq ss m)
        unfold spellOf at HPE
        clear e1 e2 ho hx hL hle hme hok hn qs
        go_enter Tryz.func18, Tryz.ntmps18
        go_wp2_with fail
        refine QR.out.mono ?_
        rintro e w1 ⟨o, rfl, ho1, hb1⟩
        rw [← HN.out] at ho1
        obtain ⟨B, cb, rfl⟩ := own_form ho1
        have CS := Lib.hid (cells_own ho1)
        clear ho1 QR
        go_wp2_with fail
        refine (QM.out _).mono ?_
        rintro e w2 ⟨rfl, hb2⟩
        have hbb : Below w1.heap.size w1 (w2.alloc (.cells #[.string (keyS m), .int .i64 (alphaN m.data.toList)] 84)) := hb2.alloc hb2.size _
        have CS2 := Lib.hid (CS.out.below hbb)
        have hb3 := hb1.trans (hbb.mono hb1.size)
        have hr := heap_alloc_new w2 (.cells #[.string (keyS m), .int .i64 (alphaN m.data.toList)] 84)
        obtain ⟨z1, z2, _, _⟩ := block2_cells hr
        have Z1 := Lib.hid z1
        have Z2 := Lib.hid z2
        have hsz : (w2.alloc (.cells #[.string (keyS m), .int .i64 (alphaN m.data.toList)] 84)).heap.size = w2.heap.size + 1 := by simp
        clear QM hb1 hb2 hbb CS hr z1 z2
        go_wp2_with fail
        generalize w2.alloc (.cells #[.string (keyS m), .int .i64 (alphaN m.data.toList)] 84) = W2 at *
        refine (QO.out B cb _ CS2.out).mono ?_
        rintro e w3 ⟨rfl, hb4⟩
        have hb5 := hb3.trans (hb4.mono hb3.size)
        have CS3 := Lib.hid (CS2.out.below hb4)
        have y1 := (hb4.cell (p := ⟨w2.heap.size, 0, none⟩) (by show w2.heap.size < _; omega)).trans Z1.out
        have y2 := (hb4.cell (p := ⟨w2.heap.size, 1, none⟩) (by show w2.heap.size < _; omega)).trans Z2.out
        clear QO CS2 hb3 hb4 Z1 Z2
        go_wp2_with fail
        refine (QS.out B cb _ CS3.out).mono ?_
        rintro e w4 ⟨P, f, rfl, h1, h2, h3, hb6⟩
        have hP := HPE.out P h1 h2 h3
        have HP := Lib.hid hP
        clear h1 h2 h3 hP HPE y1 y2 QS CS3
        go_wp2_with fail
        go_ret2
        exact ⟨ret_two (int_val (by rw [HP.out])) rfl, hb5.trans (hb6.mono hb5.size)⟩
    · have qm := fun W => read_err m W hme
      unfold ReadErr at qm
      have QM := Lib.hid qm
      have e1 : placeErr ss m = Sp.check m.data.toList := by unfold placeErr; rw [if_pos hle, if_neg hme]
      have e2 : placeB ss m = 0 := by unfold placeB; rw [e1, if_neg hme]
      rw [e1, e2]
      generalize Sp.check m.data.toList = E at *
      have QE := Lib.hid (fun W h => codeOf_err E W h)
      have HN := Lib.hid hn
      clear e1 e2 hx hL hle hme hok hn qm
      go_enter Tryz.func18, Tryz.ntmps18
      go_wp2_with fail
      refine QR.out.mono ?_
      rintro e w1 ⟨o, rfl, ho1, hb1⟩
      rw [← HN.out] at ho1
      obtain ⟨B, cb, rfl⟩ := own_form ho1
      clear ho1 QR
      go_wp2_with fail
      refine (QM.out _).mono ?_
      rintro e w2 ⟨rfl, hb2⟩
      have hb3 := (hb1.trans (hb2.mono hb1.size)).alloc (o := .cells #[.string ⟨#[]⟩, .int .i64 0] 84) (by have := hb1.size; have := hb2.size; omega)
      clear QM hb1 hb2
      go_wp2_with fail
      refine (QE.out _ (HL.out.below hb3)).mono ?_
      rintro e w3 ⟨rfl, hb4⟩
      have hb5 := hb3.trans (hb4.mono hb3.size)
      go_wp2_with fail
      go_ret2
      exact ⟨rfl, hb5⟩
  · have qr := readList_err A n c ss w hn hle hx
    unfold ListErrAns at qr
    have QR := Lib.hid qr
    have e1 : placeErr ss m = listErr ss := by unfold placeErr; rw [if_neg hle]
    have e2 : placeB ss m = 0 := by unfold placeB; rw [e1, if_neg hle]
    rw [e1, e2]
    generalize listErr ss = E at *
    have QE := Lib.hid (fun W h => codeOf_err E W h)
    clear e1 e2 hx hL hle hn qr
    go_enter Tryz.func18, Tryz.ntmps18
    go_wp2_with fail
    refine QR.out.mono ?_
    rintro e w1 ⟨rfl, hb1⟩
    go_wp2_with fail
    refine (QE.out _ (HL.out.below hb1)).mono ?_
    rintro e w3 ⟨rfl, hb4⟩
    have hb5 := hb1.trans (hb4.mono hb1.size)
    go_wp2_with fail
    go_ret2
    exact ⟨rfl, hb5⟩
end Go.Proofs.YtljlkhaolfihjaaGreatDoor
