/- The place of a name in a list that is in order. -/
import Derived.Test.YtljlkhaolfihjaaGreatDoorPgSo
import Derived.Test.YtljlkhaolfihjaaGreatDoorSpecT
import Derived.Test.YtljlkhaolfihjaaGreatDoorPzC
import Derived.Test.YtljlkhaolfihjaaGreatDoorPgZ
namespace Go.Proofs.YtljlkhaolfihjaaGreatDoor
open Go.RowKit Go.Shelf

def cmpT (ss : List ByteArray) (t : Spell) (i : Nat) : Int := cmpSpell (spellOf (ss.getD i ByteArray.empty)) t
def SearchPost (ss : List ByteArray) (t : Spell) (w : World) (e : Ending) (w' : World) : Prop :=
  ∃ (P : Nat) (f : Bool), e = .returned (.tuple #[.int .i64 P, .bool f]) ∧ P ≤ ss.length ∧ (∀ i, i < P → cmpT ss t i < 0) ∧ (∀ i, P ≤ i → i < ss.length → 0 ≤ cmpT ss t i) ∧ Below w.heap.size w w'

set_option maxRecDepth 100000 in
set_option maxHeartbeats 3200000 in
theorem search_any (A : Option Addr) (n c : Nat) (ss : List ByteArray) (t1 : ByteArray) (t2 : Int) (w : World) (hn : n = ss.length) (hb : n ≤ 1000) (hx : Cells w A (spellCells ss))
    (hm : ∀ a b, a ≤ b → b < ss.length → cmpT ss (t1, t2) b < 0 → cmpT ss (t1, t2) a < 0) :
    Calls Tryz.prog 56 #[.slice A n c, .agg #[.string t1, .int .i64 t2], cmpV] w (SearchPost ss (t1, t2) w) := by
  have HX := Lib.hid hx
  have HN := Lib.hid hn
  have HM := Lib.hid hm
  have hbW : Below w.heap.size w (w.alloc (.cells #[.string t1, .int .i64 t2] 84)) := (Below.refl _ _).alloc (Nat.le_refl _) _
  have hr := heap_alloc_new w (.cells #[.string t1, .int .i64 t2] 84)
  obtain ⟨z1, z2, _, _⟩ := block2_cells hr
  have Z1 := Lib.hid z1
  have Z2 := Lib.hid z2
  have hws : (w.alloc (.cells #[.string t1, .int .i64 t2] 84)).heap.size = w.heap.size + 1 := by simp
  unfold SearchPost
  clear hn hx hm hr z1 z2
  go_enter Tryz.func56, Tryz.ntmps56
  go_wp2_with fail
  generalize w.alloc (.cells #[.string t1, .int .i64 t2] 84) = W at *
  have HTB : Hid (∀ V, Below W.heap.size W V → V.cell? ⟨w.heap.size, 0, none⟩ = some (.string t1) ∧ V.cell? ⟨w.heap.size, 1, none⟩ = some (.int .i64 t2)) := Lib.hid fun V hV => ⟨(hV.cell (p := ⟨w.heap.size, 0, none⟩) (by show w.heap.size < _; omega)).trans Z1.out, (hV.cell (p := ⟨w.heap.size, 1, none⟩) (by show w.heap.size < _; omega)).trans Z2.out⟩
  have HCS := Lib.hid (HX.out.below hbW)
  have HBW := Lib.hid hbW
  have hwl : w.heap.size ≤ W.heap.size := hbW.size
  clear Z1 Z2 HX hbW hws
  go_loopw [9, 10, 11] (fun i j _ wr => ∃ lo hi : Nat, lo ≤ hi ∧ hi ≤ n ∧ i = .int .i64 lo ∧ j = .int .i64 hi ∧ Hid (∀ i, i < lo → cmpT ss (t1, t2) i < 0) ∧ Hid (∀ i, hi ≤ i → i < ss.length → 0 ≤ cmpT ss (t1, t2) i) ∧ Below W.heap.size W wr) (fun i j _ _ => (intOf j).toNat - (intOf i).toNat)
  case atStart => exact ⟨0, n, Nat.zero_le _, Nat.le_refl _, rfl, rfl, Lib.hid (fun i h => absurd h (Nat.not_lt_zero _)), Lib.hid (fun i h1 h2 => by have := HN.out; omega), Below.refl _ _⟩
  case round =>
    obtain ⟨lo, hi, hlh, hhn, rfl, rfl, hlo, hhi, t0⟩ := hrel
    obtain ⟨y1, y2⟩ := HTB.out _ t0
    by_cases hlt : lo < hi
    · obtain ⟨m, hmid⟩ : ∃ m, (lo + hi) / 2 = m := ⟨_, rfl⟩
      have hm1 : lo ≤ m := by omega
      have hm2 : m < hi := by omega
      have hmI : ((lo : Int) + (hi : Int)) / 2 = (m : Int) := by omega
      have hml : m < ss.length := by have := HN.out; omega
      obtain ⟨b1, o1, rfl, c1, c2⟩ := (HCS.out.below t0).spell m hml
      have hc : cmpT ss (t1, t2) m = cmpSpell (keyS ss[m], alphaN ss[m].data.toList) (t1, t2) := by unfold cmpT; rw [getD_at ss _ hml]; rfl
      have qc := fun V => compare_below (keyS ss[m], alphaN ss[m].data.toList) (t1, t2) V
      rw [← hc] at qc
      have hlo2 : cmpT ss (t1, t2) m < 0 → Hid (∀ i, i < m + 1 → cmpT ss (t1, t2) i < 0) := fun h => Lib.hid fun i hi => HM.out i m (by omega) hml h
      have hhi2 : ¬ cmpT ss (t1, t2) m < 0 → Hid (∀ i, m ≤ i → i < ss.length → 0 ≤ cmpT ss (t1, t2) i) := fun h => Lib.hid fun i h1 h2 => by
        have h4 : ¬ cmpT ss (t1, t2) i < 0 := fun h3 => h (HM.out m i h1 h2 h3)
        omega
      generalize alphaN ss[m].data.toList = al at *
      generalize keyS ss[m] = X at *
      generalize cmpT ss (t1, t2) m = D at *
      have j1 : (lo : Int) < (hi : Int) := by omega
      have j2 : (0 : Int) ≤ (m : Int) := by omega
      have j3 : (m : Int) < (n : Int) := by omega
      obtain ⟨T, g, hg0, hgb, hg1, hg2, hg3, hg4, hT⟩ : ∃ (T : Type) (g : T → World), (∃ x, wr.drew = g x) ∧ (∀ x, Below wr.heap.size wr (g x)) ∧ (∀ x, (g x).cell? ⟨b1, o1 + m * 2, none⟩ = some (.string X)) ∧ (∀ x, (g x).cell? ⟨b1, o1 + m * 2 + 1, none⟩ = some (.int .i64 al)) ∧
          (∀ x, (g x).cell? ⟨w.heap.size, 0, none⟩ = some (.string t1)) ∧ (∀ x, (g x).cell? ⟨w.heap.size, 1, none⟩ = some (.int .i64 t2)) ∧
          (∀ x, Calls Tryz.prog 48 #[.agg #[.string X, .int .i64 al], .agg #[.string t1, .int .i64 t2]] (g x) fun e w' => e = .returned (.int .i64 D) ∧ ∃ y, w' = g y) :=
        ⟨Since wr, Subtype.val, Since.here wr, fun x => x.property, fun x => x.cell c1, fun x => x.cell c2, fun x => x.cell y1, fun x => x.cell y2, fun x => x.calls (qc _)⟩
      have hTne : Nonempty T := let ⟨x, _⟩ := hg0; ⟨x⟩
      have HT := Lib.hid hT
      have HGB := Lib.hid hgb
      have HLO2 := Lib.hid hlo2
      have HHI2 := Lib.hid hhi2
      clear hT hgb hlo2 hhi2 qc hc c1 c2 y1 y2 hmid
      by_cases hD : D < 0
      · have m1 : decide (D < 0) = true := decide_eq_true hD
        have HF := Lib.hid (HLO2.out hD).out
        clear hlo
        go_wp2_with fail
        refine wp_region_class g hg0 (by kernel_rfl) (by kernel_rfl) ?_
        repeat (go_big_quiet_step (fail))
        go_big_quiet_step (exact HT.out _)
        repeat (go_big_quiet_step (fail))
        refine wpQuiet_nil ?_
        rintro _ ⟨xq, rfl⟩
        have hbq := t0.trans ((HGB.out xq).mono t0.size)
        clear hg0 hg1 hg2 hg3 hg4
        go_wp2_with fail
        go_roundw
        case rel => exact ⟨m + 1, hi, by omega, hhn, by go_num, rfl, Lib.hid fun i h => (by have := HF.out i h; omega), hhi, hbq⟩
        case measure => simp [intOf]; omega
      · have m1 : decide (D < 0) = false := decide_eq_false hD
        have HF := Lib.hid (HHI2.out hD).out
        clear hhi
        go_wp2_with fail
        refine wp_region_class g hg0 (by kernel_rfl) (by kernel_rfl) ?_
        repeat (go_big_quiet_step (fail))
        go_big_quiet_step (exact HT.out _)
        repeat (go_big_quiet_step (fail))
        refine wpQuiet_nil ?_
        rintro _ ⟨xq, rfl⟩
        have hbq := t0.trans ((HGB.out xq).mono t0.size)
        clear hg0 hg1 hg2 hg3 hg4
        go_wp2_with fail
        go_roundw
        case rel => exact ⟨lo, m, hm1, by omega, rfl, rfl, hlo, Lib.hid fun i h1 h2 => (by have := HF.out i h1 h2; omega), hbq⟩
        case measure => simp [intOf]; omega
    · have hle : lo = hi := by omega
      have hfin := HBW.out.trans (t0.mono hwl)
      have hfs : w.heap.size ≤ wr.heap.size := Nat.le_trans hwl t0.size
      have HHI : Hid (∀ i, lo ≤ i → i < ss.length → 0 ≤ cmpT ss (t1, t2) i) := by rw [hle]; exact hhi
      have hln : lo ≤ ss.length := by have := HN.out; omega
      clear hhi hle
      by_cases hln2 : lo < n
      · have hml : lo < ss.length := by have := HN.out; omega
        obtain ⟨b1, o1, rfl, c1, c2⟩ := (HCS.out.below t0).spell lo hml
        have qc := fun V => compare_below (keyS ss[lo], alphaN ss[lo].data.toList) (t1, t2) V
        generalize alphaN ss[lo].data.toList = al at *
        generalize keyS ss[lo] = X at *
        generalize cmpSpell (X, al) (t1, t2) = D at *
        have j0 : ¬ ((lo : Int) < (hi : Int)) := by omega
        have j2 : (0 : Int) ≤ (lo : Int) := by omega
        have j3 : (lo : Int) < (n : Int) := by omega
        obtain ⟨T, g, hg0, hgb, hg1, hg2, hg3, hg4, hT⟩ : ∃ (T : Type) (g : T → World), (∃ x, wr.drew = g x) ∧ (∀ x, Below wr.heap.size wr (g x)) ∧ (∀ x, (g x).cell? ⟨b1, o1 + lo * 2, none⟩ = some (.string X)) ∧ (∀ x, (g x).cell? ⟨b1, o1 + lo * 2 + 1, none⟩ = some (.int .i64 al)) ∧
            (∀ x, (g x).cell? ⟨w.heap.size, 0, none⟩ = some (.string t1)) ∧ (∀ x, (g x).cell? ⟨w.heap.size, 1, none⟩ = some (.int .i64 t2)) ∧
            (∀ x, Calls Tryz.prog 48 #[.agg #[.string X, .int .i64 al], .agg #[.string t1, .int .i64 t2]] (g x) fun e w' => e = .returned (.int .i64 D) ∧ ∃ y, w' = g y) :=
          ⟨Since wr, Subtype.val, Since.here wr, fun x => x.property, fun x => x.cell c1, fun x => x.cell c2, fun x => x.cell y1, fun x => x.cell y2, fun x => x.calls (qc _)⟩
        have hTne : Nonempty T := let ⟨x, _⟩ := hg0; ⟨x⟩
        have HT := Lib.hid hT
        have HGB := Lib.hid hgb
        clear hT hgb qc c1 c2 y1 y2
        go_wp2_with fail
        refine wp_region_class g hg0 (by kernel_rfl) (by kernel_rfl) ?_
        repeat (go_big_quiet_step (fail))
        go_big_quiet_step (exact HT.out _)
        repeat (go_big_quiet_step (fail))
        refine wpQuiet_nil ?_
        rintro _ ⟨xq, rfl⟩
        have hbq := hfin.trans ((HGB.out xq).mono hfs)
        clear hg0 hg1 hg2 hg3 hg4
        go_wp2_with fail
        go_ret2
        exact ⟨lo, _, rfl, hln, fun i h => (by have := hlo.out i h; omega), fun i h1 h2 => (by have := HHI.out i h1 h2; omega), hbq⟩
      · have j0 : ¬ ((lo : Int) < (hi : Int)) := by omega
        have j3 : ¬ ((lo : Int) < (n : Int)) := by omega
        go_wp2_with fail
        refine wp_region_class (fun _ : Unit => wr.drew) ⟨(), rfl⟩ (by kernel_rfl) (by kernel_rfl) ?_
        repeat (go_big_quiet_step (fail))
        refine wpQuiet_nil ?_
        rintro _ ⟨xq, rfl⟩
        have hbq := hfin.drew
        go_wp2_with fail
        go_ret2
        exact ⟨lo, _, rfl, hln, fun i h => (by have := hlo.out i h; omega), fun i h1 h2 => (by have := HHI.out i h1 h2; omega), hbq⟩
end Go.Proofs.YtljlkhaolfihjaaGreatDoor
