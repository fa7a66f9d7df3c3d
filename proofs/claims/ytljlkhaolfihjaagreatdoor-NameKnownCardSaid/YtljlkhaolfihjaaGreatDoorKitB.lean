/- Lists that are copied; how long they are; the lists of the examples. -/
import Derived.Test.YtljlkhaolfihjaaGreatDoorRefE
import Derived.Test.YtljlkhaolfihjaaGreatDoorDiceF
namespace Go.Proofs.YtljlkhaolfihjaaGreatDoor
open Go.RowKit

def DupPost (ss : List ByteArray) (w : World) (e : Ending) (w' : World) : Prop :=
  ∃ o : Value, e = .returned o ∧ w'.ownsRow w.heap.size 9 1 o ss.length (ss.map Value.string) ∧ Below w.heap.size w w'

/-- The cells that are appended, in a world with a block more. -/
theorem cells_news {w : World} {b off : Nat} {xs : List Value} (o : Obj) (h : ∀ i, i < xs.length → w.cell? ⟨b, off + i, none⟩ = some (xs.getD i undef)) :
    ∀ j u, xs[j]? = some u → (w.alloc o).cell? ((⟨b, off, none⟩ : Addr).add j) = some u := by
  intro j u hj
  have hl : j < xs.length := by
    rcases Nat.lt_or_ge j xs.length with h | h
    · exact h
    · simp [List.getElem?_eq_none h] at hj
  have hc := h j hl
  have hu : xs.getD j undef = u := by rw [List.getD_eq_getElem?_getD, hj]; rfl
  have e : ((⟨b, off, none⟩ : Addr).add j) = ⟨b, off + j, none⟩ := by
    unfold Addr.add
    split
    · rename_i h0; subst h0; rfl
    · rfl
  rw [e, World.cell?_alloc_lt _ _ _ (World.block_lt_of_cell? w _ hc), hc, hu]

set_option maxHeartbeats 800000 in
theorem DupStrings_any (A : Option Addr) (n c : Nat) (ss : List ByteArray) (w : World) (hn : n = ss.length) (hb : n ≤ 1000000) (hnil : A = none → c = 0) (hx : Cells w A (ss.map Value.string)) :
    Calls Tryz.prog 13 #[.slice A n c] w (DupPost ss w) := by
  obtain ⟨si, hi, hz0, hz1, hz2⟩ := info_parts infoStr
  have h0 : (w.alloc (.cells #[] 9)).ownsRow w.heap.size 9 1 (.slice (some ⟨w.heap.size, 0, none⟩) 0 0) 0 [] := World.ownsRow_lit w #[] 0 (Nat.le_refl _) (by unfold maxLen; omega) rfl
  cases A with
  | none =>
    have hn0 : ss = [] := by
      cases ss with
      | nil => rfl
      | cons s ss => obtain ⟨b, off, e, _⟩ := hx 0 (by simp); cases e
    subst hn0
    have hc := hnil rfl
    simp at hn
    subst hn hc
    clear hx hnil
    go_enter Tryz.func13, Tryz.ntmps13
    go_wp2_with (refine wpList_append_own_none _ rfl _ _ 22 rfl w.heap.size 9 si 1 Tryz.underlying22 hi _ _ _ rfl h0 rfl ?_)
    go_ret
    exact ⟨_, rfl, h0, (Below.refl _ _).alloc (Nat.le_refl _) _⟩
  | some a =>
    obtain ⟨b, off, sp⟩ := a
    by_cases hz : n = 0
    · have hn0 : ss = [] := by cases ss with | nil => rfl | cons s ss => simp at hn; omega
      subst hn0
      subst hz
      clear hx hnil hn
      go_enter Tryz.func13, Tryz.ntmps13
      go_wp2_with (at_builtin; refine wpList_append_own _ rfl _ _ 22 rfl w.heap.size 9 si (.string ByteArray.empty) 1 16 Tryz.underlying22 hi hz0 hz1 hz2 rfl (by decide) _ _ _ rfl h0 ⟨b, off, sp⟩ 0 c [] rfl rfl (by simp) (by simp) (by unfold maxLen; omega) (by omega) (by simp) ?_; intro v' wn hownN hgN _)
      go_ret
      exact ⟨_, rfl, hownN, ((Below.refl _ _).alloc (Nat.le_refl _) _).grown hgN (by simp) fun k hk => by have e : some w.heap.size = some k := hk; injection e with e; omega⟩
    · have hx2 : ∀ i, i < (ss.map Value.string).length → sp = none ∧ w.cell? ⟨b, off + i, none⟩ = some ((ss.map Value.string).getD i undef) := fun i hi => by
        obtain ⟨b', off', e, hc⟩ := hx i hi
        injection e with e
        injection e with e1 e2 e3
        subst e1 e2 e3
        exact ⟨rfl, hc⟩
      have hsp := (hx2 0 (by simp; omega)).1
      subst hsp
      have hnews := cells_news (.cells #[] 9) fun i hi => (hx2 i hi).2
      have HNW := Lib.hid hnews
      have HN := Lib.hid hn
      clear hx hx2 hnews hn
      have hone : Hid (∀ u, u ∈ ss.map Value.string → u.oneCell' = true) := Lib.hid fun u hu => by
        obtain ⟨s, _, rfl⟩ := List.mem_map.1 hu; rfl
      go_enter Tryz.func13, Tryz.ntmps13
      go_wp2_with (at_builtin; refine wpList_append_own _ rfl _ _ 22 rfl w.heap.size 9 si (.string ByteArray.empty) 1 16 Tryz.underlying22 hi hz0 hz1 hz2 rfl (by decide) _ _ _ rfl h0 ⟨b, off, none⟩ n c (ss.map Value.string) rfl (by rw [List.length_map, Nat.mul_one, HN.out]) HNW.out hone.out (by unfold maxLen; omega) (by omega) (by simp) ?_; intro v' wn hownN hgN _)
      go_ret
      exact ⟨_, rfl, by rw [← HN.out]; simpa using hownN, ((Below.refl _ _).alloc (Nat.le_refl _) _).grown hgN (by simp) fun k hk => by have e : some w.heap.size = some k := hk; injection e with e; omega⟩

/-- Whether rules, or strings, are more or longer than the laws go through. -/
def longB (rs : List (ByteArray × ByteArray)) (ss : List ByteArray) : Bool :=
  ss.any (fun s => decide (20 < s.size)) || rs.any (fun r => decide (20 < r.1.size + r.2.size)) || decide (20 < ss.length) || decide (20 < rs.length)

def rulesList : List (ByteArray × ByteArray) := [(⟨#[112, 104]⟩, ⟨#[102]⟩), (⟨#[121]⟩, ⟨#[105]⟩), (⟨#[101]⟩, ⟨#[]⟩)]
def smithsList : List ByteArray := [⟨#[115, 109, 105, 116, 104]⟩, ⟨#[115, 109, 121, 116, 104]⟩, ⟨#[115, 97, 109]⟩]

def RowPost (t : TypeId) (size n : Nat) (cs : List Value) (w : World) (e : Ending) (w' : World) : Prop :=
  ∃ o : Value, e = .returned o ∧ w'.ownsRow w.heap.size t size o n cs ∧ Below w.heap.size w w'

set_option maxHeartbeats 800000 in
theorem rules_any (w : World) : Calls Tryz.prog 27 #[] w (RowPost 64 2 3 (ruleCells rulesList) w) := by
  go_enter Tryz.func27, Tryz.ntmps27
  go_wp2
  go_ret
  exact ⟨_, rfl, World.ownsRow_lit w _ 3 (Nat.le_refl _) (by unfold maxLen; omega) rfl, (Below.refl _ _).alloc (Nat.le_refl _) _⟩

set_option maxHeartbeats 800000 in
theorem smiths_any (w : World) : Calls Tryz.prog 32 #[] w (RowPost 9 1 3 (smithsList.map Value.string) w) := by
  go_enter Tryz.func32, Tryz.ntmps32
  go_wp2
  go_ret
  exact ⟨_, rfl, World.ownsRow_lit w _ 3 (Nat.le_refl _) (by unfold maxLen; omega) rfl, (Below.refl _ _).alloc (Nat.le_refl _) _⟩

end Go.Proofs.YtljlkhaolfihjaaGreatDoor
