/- The program's word for no error; keys of valid names; lists of valid names. -/
import Derived.Test.YtldianbhpfdhcaaGreatDoorPgB
import Derived.Test.YtldianbhpfdhcaaGreatDoorPgSpecB
namespace Go.Proofs.YtldianbhpfdhcaaGreatDoor
open Go.RowKit

set_option maxRecDepth 100000 in
theorem as_nil (v : Value) (w : World) : Calls Tryz.prog 117 #[.nilIface, v] w fun e w' => e = .returned (.bool false) ∧ w = w' := by
  go_enter Tryz.func117, Tryz.ntmps117
  go_wp2_with fail
  go_ret
  exact ⟨rfl, rfl⟩

set_option maxRecDepth 100000 in
theorem codeOf_nil (w : World) : Calls Tryz.prog 70 #[.nilIface] w fun e w' => e = .returned (.int .i64 0) ∧ Below w.heap.size w w' := by
  go_enter Tryz.func70, Tryz.ntmps70
  go_wp2_with fail
  refine (as_nil _ _).mono ?_
  rintro e w1 ⟨rfl, rfl⟩
  go_wp2_with fail
  go_ret
  exact ⟨rfl, (Below.refl _ _).alloc (Nat.le_refl _) _⟩

set_option maxRecDepth 100000 in
set_option maxHeartbeats 400000 in
theorem Check_ok (s : ByteArray) (w : World) (h : Sp.check s.data.toList = 0) : Calls Tryz.prog 23 #[.string s] w fun e w' => e = .returned (.int .i64 0) ∧ Below w.heap.size w w' := by
  go_enter Tryz.func23, Tryz.ntmps23
  go_wp2_with fail
  refine (read_ok s _ h).mono ?_
  rintro e w1 ⟨rfl, hb1⟩
  generalize alphaN s.data.toList = a
  go_wp2_with fail
  refine (codeOf_nil _).mono ?_
  rintro e w2 ⟨rfl, hb2⟩
  go_wp2_with fail
  go_ret
  exact ⟨rfl, (hb1.alloc hb1.size _).trans (hb2.mono (by have := hb1.size; simp; omega))⟩

set_option maxRecDepth 100000 in
set_option maxHeartbeats 400000 in
theorem Key_ok (s : ByteArray) (w : World) (h : Sp.check s.data.toList = 0) : Calls Tryz.prog 19 #[.string s] w fun e w' => e = .returned (.tuple #[.string (keyS s), .int .i64 0]) ∧ Below w.heap.size w w' := by
  go_enter Tryz.func19, Tryz.ntmps19
  go_wp2_with fail
  refine (read_ok s _ h).mono ?_
  rintro e w1 ⟨rfl, hb1⟩
  generalize alphaN s.data.toList = a
  go_wp2_with fail
  have hb2 := hb1.alloc (o := .cells #[.string (keyS s), .int .i64 a] 88) hb1.size
  have c0 : (w1.alloc (.cells #[.string (keyS s), .int .i64 a] 88)).cell? ⟨w1.heap.size, 0, none⟩ = some (.string (keyS s)) := by rw [Lib.cell_of_heap (heap_alloc_new w1 _)]; rfl
  generalize w1.alloc (.cells #[.string (keyS s), .int .i64 a] 88) = W at *
  obtain ⟨T, g, hg0, hgb, hgx, hT⟩ : ∃ (T : Type) (g : T → World), (∃ x, W.drew = g x) ∧ (∀ x, Below W.heap.size W (g x)) ∧ (∀ x, (g x).cell? ⟨w1.heap.size, 0, none⟩ = some (.string (keyS s))) ∧
      (∀ x, Calls Tryz.prog 70 #[.nilIface] (g x) fun e w' => e = .returned (.int .i64 0) ∧ ∃ y, w' = g y) :=
    ⟨Since W, Subtype.val, Since.here W, fun x => x.property, fun x => x.cell c0, fun x => x.calls (codeOf_nil _)⟩
  have hTne : Nonempty T := let ⟨x, _⟩ := hg0; ⟨x⟩
  have HT1 := Lib.hid hT
  clear hT c0
  refine wp_region_class g hg0 (by kernel_rfl) (by kernel_rfl) ?_
  repeat (go_big_quiet_step (fail))
  go_big_quiet_step (exact HT1.out _)
  repeat (go_big_quiet_step (fail))
  refine wpQuiet_nil ?_
  rintro _ ⟨xq, rfl⟩
  have hbq := hgb xq
  have t5 := hb2.trans (hbq.mono hb2.size)
  clear hgb hgx hg0
  go_wp2_with fail
  go_ret2
  exact ⟨rfl, t5⟩

theorem infoSpell : (Tryz.prog.info? 88).map (fun i => (i.zero, i.size, i.bytes)) = some (some (.agg #[.string ByteArray.empty, .int .i64 0]), 2, 24) := by kernel_rfl
/-- Names at work as they lie in memory. -/
def spellCells (ss : List ByteArray) : List Value := ss.flatMap fun s => [.string (keyS s), .int .i64 (alphaN s.data.toList)]
theorem spellCells_step (ss : List ByteArray) (k : Nat) (h : k < ss.length) : spellCells (ss.take (k + 1)) = spellCells (ss.take k) ++ [.string (keyS ss[k]), .int .i64 (alphaN ss[k].data.toList)] := by
  unfold spellCells
  rw [List.take_succ_eq_append_getElem h, List.flatMap_append]; simp
def AllOk (ss : List ByteArray) : Prop := ∀ s, s ∈ ss → Sp.check s.data.toList = 0
def SpellsPost (ss : List ByteArray) (w : World) (e : Ending) (w' : World) : Prop :=
  ∃ o : Value, e = .returned (.tuple #[o, .nilIface]) ∧ w'.ownsRow w.heap.size 88 2 o ss.length (spellCells ss) ∧ Below w.heap.size w w'

set_option maxRecDepth 100000 in
set_option maxHeartbeats 1600000 in
theorem readAll_ok (A : Option Addr) (n c : Nat) (ss : List ByteArray) (w : World) (hn : n = ss.length) (hb : n ≤ 1000) (hv : AllOk ss) (hx : Cells w A (ss.map Value.string)) :
    Calls Tryz.prog 78 #[.slice A n c] w (SpellsPost ss w) := by
  obtain ⟨si, hi, hz0, hz1, hz2⟩ := info_parts infoSpell
  have HN := Lib.hid hn
  have HX := Lib.hid hx
  have HV := Lib.hid hv
  clear hn hx hv
  go_enter Tryz.func78, Tryz.ntmps78
  go_wp2_with fail
  go_loopw [4, 11] (fun o i wr => ∃ k : Nat, k ≤ n ∧ i = .int .i64 k ∧ wr.ownsRow w.heap.size 88 2 o k (spellCells (ss.take k)) ∧ Below w.heap.size w wr) (fun _ i _ => n - (intOf i).toNat)
  case atStart => exact ⟨0, Nat.zero_le _, rfl, World.ownsRow_nil _ _ _ _, Below.refl _ _⟩
  case round =>
    obtain ⟨k, hk, rfl, hown, hbw⟩ := hrel
    obtain ⟨O, cap, rfl⟩ := own_form hown
    by_cases hlt : k < n
    · have hks : k < ss.length := by rw [← HN.out]; exact hlt
      obtain ⟨b1, o1, rfl, c1⟩ := HX.out.str k hks
      have c2 := (hbw.cell (World.block_lt_of_cell? w _ c1)).trans c1
      have hok := HV.out _ (List.getElem_mem hks)
      have est := spellCells_step ss k hks
      have EST := Lib.hid est
      generalize hX : ss[k] = X at *
      have HXX := Lib.hid hX
      clear hX c1 est
      go_wp2_with fail
      refine (read_ok X _ hok).mono ?_
      rintro e w1 ⟨rfl, hb1⟩
      have hb2 := hbw.trans (hb1.mono hbw.size)
      have hown1 := own_below hown hb1
      generalize alphaN X.data.toList = a at *
      clear c2 hown hbw hb1
      have hs1 := hb2.size
      go_wp2_with (at_builtin; refine wpList_append_own _ rfl _ _ 102 rfl w.heap.size 88 si (.agg #[.string ByteArray.empty, .int .i64 0]) 2 24 Tryz.underlying102 hi hz0 hz1 hz2 rfl (by decide) _ _ _ rfl ((hown1.alloc _).alloc _) ⟨w1.heap.size + 1, 0, none⟩ 1 1 [.string (keyS X), .int .i64 a] rfl rfl (two_new _ _ _ _ _ (by simp)) (by simp [Value.oneCell']) (by unfold maxLen; omega) (by omega) (by simp; omega) ?_; intro v' wN hownN hgN _)
      have hbN := ((hb2.alloc hs1 _).alloc (by simp; omega) _).grown hgN (by simp; omega) (fun j hj => (hown1.lt j hj).1)
      go_wp2
      go_roundw
      case rel => exact ⟨k + 1, by omega, by go_num, by rw [EST.out]; exact hownN, hbN⟩
      case measure => simp [intOf]; omega
    · have hkn : k = ss.length := by rw [← HN.out]; omega
      have et : spellCells (ss.take k) = spellCells ss := by rw [List.take_of_length_le (by omega)]
      have HKN := Lib.hid hkn
      have ET := Lib.hid et
      clear hkn et
      go_wp2
      go_ret2
      refine ⟨_, rfl, ?_, hbw⟩
      rw [← HKN.out, ← ET.out]
      exact hown

set_option maxRecDepth 100000 in
set_option maxHeartbeats 400000 in
theorem readList_ok (A : Option Addr) (n c : Nat) (ss : List ByteArray) (w : World) (hn : n = ss.length) (hb : n ≤ 6) (hv : AllOk ss) (hx : Cells w A (ss.map Value.string)) :
    Calls Tryz.prog 80 #[.slice A n c] w (SpellsPost ss w) := by
  have q := readAll_ok A n c ss w hn (by omega) hv hx
  have Q := Lib.hid q
  clear q hn hx hv
  go_enter Tryz.func80, Tryz.ntmps80
  go_wp2_with fail
  refine Q.out.mono ?_
  rintro e w1 ⟨o, rfl, ho, hb1⟩
  go_wp2_with fail
  go_ret2
  exact ⟨o, rfl, ho, hb1⟩
end Go.Proofs.YtldianbhpfdhcaaGreatDoor
