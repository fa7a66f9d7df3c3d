/- Lists with a string that is no name. -/
import Derived.Test.YtapagncaadjiaaaGreatDoorPzA
import Derived.Test.YtapagncaadjiaaaGreatDoorRefE
namespace Go.Proofs.YtapagncaadjiaaaGreatDoor
open Go.RowKit Go.Shelf

theorem firstErr_allok : ∀ (ss : List ByteArray), firstErr ss = 0 → AllOk ss
  | [], _ => fun s hs => by cases hs
  | s :: t, h => by
    unfold firstErr at h
    by_cases hc : Sp.check s.data.toList = 0
    · rw [if_pos hc] at h
      intro x hx
      rcases List.mem_cons.1 hx with rfl | hx
      · exact hc
      · exact firstErr_allok t h x hx
    · rw [if_neg hc] at h
      exact absurd h hc
theorem firstErr_place : ∀ (ss : List ByteArray), firstErr ss ≠ 0 → ∃ p, ∃ hp : p < ss.length, (∀ i (hi : i < p), Sp.check (ss[i]'(Nat.lt_trans hi hp)).data.toList = 0) ∧ Sp.check ss[p].data.toList = firstErr ss
  | [], h => absurd rfl h
  | s :: t, h => by
    unfold firstErr at *
    by_cases hc : Sp.check s.data.toList = 0
    · rw [if_pos hc] at *
      obtain ⟨p, hp, h1, h2⟩ := firstErr_place t h
      refine ⟨p + 1, by simp; omega, fun i hi => ?_, h2⟩
      cases i with
      | zero => exact hc
      | succ i => exact h1 i (by omega)
    · rw [if_neg hc] at *
      exact ⟨0, by simp, fun i hi => absurd hi (Nat.not_lt_zero _), rfl⟩

def ListErrAns (c : Int) (w : World) (e : Ending) (w' : World) : Prop :=
  e = .returned (.tuple #[.slice none 0 0, .iface 152 (.agg #[.int .i64 c])]) ∧ Below w.heap.size w w'

set_option maxRecDepth 100000 in
set_option maxHeartbeats 1600000 in
theorem readAll_err (A : Option Addr) (n c : Nat) (ss : List ByteArray) (w : World) (hn : n = ss.length) (hb : n ≤ 1000) (hv : firstErr ss ≠ 0) (hx : Cells w A (ss.map Value.string)) :
    Calls Tryz.prog 78 #[.slice A n c] w (ListErrAns (firstErr ss) w) := by
  obtain ⟨si, hi, hz0, hz1, hz2⟩ := info_parts infoSpell
  obtain ⟨p, hp, hgood, hbad⟩ := firstErr_place ss hv
  rw [← hbad] at hv ⊢
  have hpn : p < n := by omega
  have QB := Lib.hid (fun W => read_err ss[p] W hv)
  obtain ⟨E, hE⟩ : ∃ E, Sp.check ss[p].data.toList = E := ⟨_, rfl⟩
  rw [hE] at QB ⊢
  have HN := Lib.hid hn
  have HX := Lib.hid hx
  have HG := Lib.hid hgood
  clear hn hx hv hbad hgood hE
  unfold ListErrAns
  go_enter Tryz.func78, Tryz.ntmps78
  go_wp2_with fail
  go_loopw [4, 11] (fun o i wr => ∃ k : Nat, k ≤ p ∧ i = .int .i64 k ∧ wr.ownsRow w.heap.size 88 2 o k (spellCells (ss.take k)) ∧ Below w.heap.size w wr) (fun _ i _ => n - (intOf i).toNat)
  case atStart => exact ⟨0, Nat.zero_le _, rfl, World.ownsRow_nil _ _ _ _, Below.refl _ _⟩
  case round =>
    obtain ⟨k, hk, rfl, hown, hbw⟩ := hrel
    obtain ⟨O, cap, rfl⟩ := own_form hown
    have hks : k < ss.length := by omega
    obtain ⟨b1, o1, rfl, c1⟩ := HX.out.str k hks
    have c2 := (hbw.cell (World.block_lt_of_cell? w _ c1)).trans c1
    have hkn : (k : Int) < (n : Int) := by omega
    by_cases hlt : k < p
    · have hok := HG.out k hlt
      have est := spellCells_step ss k hks
      have EST := Lib.hid est
      generalize hX : ss[k] = X at *
      have HXX := Lib.hid hX
      clear hX c1 est
      go_wp2_with fail
      refine (read_ok X _ hok).mono ?_
      rintro e w1 ⟨rfl, hb1⟩
      have hb2 := hbw.trans (hb1.mono hbw.size)
      have hown1 := own_below hown hb1
      generalize alphaN X.data.toList = a at *
      clear c2 hown hbw hb1
      have hs1 := hb2.size
      go_wp2_with (at_builtin; refine wpList_append_own _ rfl _ _ 102 rfl w.heap.size 88 si (.agg #[.string ByteArray.empty, .int .i64 0]) 2 24 Tryz.underlying102 hi hz0 hz1 hz2 rfl (by decide) _ _ _ rfl ((hown1.alloc _).alloc _) ⟨w1.heap.size + 1, 0, none⟩ 1 1 [.string (keyS X), .int .i64 a] rfl rfl (two_new _ _ _ _ _ (by simp)) (by simp [Value.oneCell']) (by unfold maxLen; omega) (by omega) (by simp; omega) ?_; intro v' wN hownN hgN _)
      have hbN := ((hb2.alloc hs1 _).alloc (by simp; omega) _).grown hgN (by simp; omega) (fun j hj => (hown1.lt j hj).1)
      go_wp2
      go_roundw
      case rel => exact ⟨k + 1, by omega, by go_num, by rw [EST.out]; exact hownN, hbN⟩
      case measure => simp [intOf]; omega
    · obtain rfl : k = p := by omega
      generalize ss[k] = X at *
      clear c1
      go_wp2_with fail
      refine (QB.out _).mono ?_
      rintro e w1 ⟨rfl, hb1⟩
      have hb2 := hbw.trans (hb1.mono hbw.size)
      have hb3 := hb2.alloc (o := .cells #[.string ⟨#[]⟩, .int .i64 0] 88) hb2.size
      go_wp2_with fail
      go_ret2
      exact ⟨rfl, hb3⟩

set_option maxRecDepth 100000 in
set_option maxHeartbeats 400000 in
theorem readList_err (A : Option Addr) (n c : Nat) (ss : List ByteArray) (w : World) (hn : n = ss.length) (hv : listErr ss ≠ 0) (hx : Cells w A (ss.map Value.string)) :
    Calls Tryz.prog 80 #[.slice A n c] w (ListErrAns (listErr ss) w) := by
  by_cases h6 : 6 < n
  · have e : listErr ss = 6 := by unfold listErr; rw [if_pos (by omega)]
    rw [e]
    have j : (6 : Int) < (n : Int) := by omega
    unfold ListErrAns
    clear hn hv hx e
    go_enter Tryz.func80, Tryz.ntmps80
    go_wp2_with fail
    go_ret2
    exact ⟨rfl, Below.refl _ _⟩
  · have e : listErr ss = firstErr ss := by unfold listErr; rw [if_neg (by omega)]
    rw [e] at hv ⊢
    have q := readAll_err A n c ss w hn (by omega) hv hx
    unfold ListErrAns at q ⊢
    generalize firstErr ss = E at *
    have Q := Lib.hid q
    have j : ¬ ((6 : Int) < (n : Int)) := by omega
    clear q hn hx hv e
    go_enter Tryz.func80, Tryz.ntmps80
    go_wp2_with fail
    refine Q.out.mono ?_
    rintro e w1 ⟨rfl, hb1⟩
    go_wp2_with fail
    go_ret2
    exact ⟨rfl, hb1⟩
end Go.Proofs.YtapagncaadjiaaaGreatDoor
