/- Letters of any string; abbreviations, any string. -/
import Derived.Test.YtljlkhaolfihjaaGreatDoorPgZ
import Derived.Test.YtljlkhaolfihjaaGreatDoorPgJ
import Derived.Test.YtljlkhaolfihjaaGreatDoorPgL
import Derived.Test.YtljlkhaolfihjaaGreatDoorRefI
import Derived.Test.YtljlkhaolfihjaaGreatDoorRefE
import Derived.Test.YtljlkhaolfihjaaGreatDoorPgE
import Derived.Test.YtljlkhaolfihjaaGreatDoorRefK
namespace Go.Proofs.YtljlkhaolfihjaaGreatDoor
open Go.RowKit Go.Shelf

theorem latin_kind (c : UInt8) : (kindP c.toNat = 1 ↔ Sp.latin c = true) := by
  have h : ∀ n : Fin 256, (kindP (UInt8.ofNat n.val).toNat = 1 ↔ Sp.latin (UInt8.ofNat n.val) = true) := by decide +kernel
  exact byte_all (p := fun c => (kindP c.toNat = 1 ↔ Sp.latin c = true)) h c
theorem kind_far {r : Int} (h : 128 ≤ r) : kindP r = 0 := by
  unfold kindP
  rw [if_neg (by omega), if_pos (by omega)]

set_option maxRecDepth 100000 in
set_option maxHeartbeats 1600000 in
theorem isLatin_any (s : ByteArray) (w : World) (_hs : s.size ≤ 2000) : Calls Tryz.prog 98 #[.string s] w fun e w' => e = .returned (.bool (s.data.toList.all Sp.latin)) ∧ Below w.heap.size w w' := by
  obtain ⟨v, hv⟩ : ∃ v, s.data.toList.all Sp.latin = v := ⟨_, rfl⟩
  have hsl := size_list s
  rw [hv]
  have HV := Lib.hid hv
  clear hv
  go_enter Tryz.func98, Tryz.ntmps98
  go_wp2_with fail
  go_loopw [] (fun wr => ∃ k : Nat, k ≤ s.size ∧ Hid ((s.data.toList.take k).all Sp.latin = true) ∧ wr.heap[w.heap.size]? = some (.stringIter s k) ∧ Below w.heap.size w wr) (fun wr => s.size - wr.iterPos w.heap.size)
  case atStart =>
    refine ⟨0, Nat.zero_le _, Lib.hid rfl, ?_, (Below.refl _ w).alloc (Nat.le_refl _) _⟩
    exact heap_alloc_new w _
  case round =>
    obtain ⟨k, hk, hall, hit, hb⟩ := hrel
    by_cases hlt : k < s.size
    · by_cases hc : Sp.latin s[k] = true
      · have hkd := fun W => kind_call (s[k].toNat : Int) 1 ((latin_kind _).2 hc) W
        have ha : s[k].toNat < 128 := by
          unfold Sp.latin at hc
          simp at hc
          omega
        have hnx : ∀ ty, (Instr.next (.pointer (some ⟨w.heap.size, 0, none⟩)) true ty).run Tryz.prog wr = _ := fun ty => Lib.run_next_ascii_at wr w.heap.size s k ty hit hlt ha
        have hit2 := Lib.iterAt_heap wr w.heap.size s k (k + 1) hit
        have hb2 := Lib.below_iterAt hb (k := w.heap.size) (by omega) s (k + 1)
        have hall2 : Hid ((s.data.toList.take (k + 1)).all Sp.latin = true) := Lib.hid (by rw [all_take s k hlt, hall.out, hc]; rfl)
        have HKD := Lib.hid hkd
        clear hkd hall hc
        generalize hC : s[k] = C at *
        clear hC
        go_wp2_with fail
        refine (HKD.out _).mono ?_
        rintro e w' ⟨rfl, rfl⟩
        go_wp2
        refine ⟨⟨k + 1, by omega, hall2, hit2, hb2⟩, ?_⟩
        simp only [World.iterPos, hit2, hit]
        omega
      · have hk1 : kindP (Utf8.decode s k).1 ≠ 1 := by
          by_cases ha : s[k].toNat < 128
          · rw [decode_ascii s k hlt ha]
            exact fun h => hc ((latin_kind _).1 h)
          · rw [kind_far (by have := (decode_high s k hlt (by omega)).1; omega)]
            decide
        have hv2 : v = false := by
          rw [← HV.out, List.all_eq_false]
          exact ⟨s[k], by have : s.data.toList[k]'(by omega) = s[k] := rfl
                          rw [← this]; exact List.getElem_mem _, hc⟩
        subst hv2
        obtain ⟨q, hq⟩ : ∃ q, kindP (Utf8.decode s k).1 = q := ⟨_, rfl⟩
        rw [hq] at hk1
        have hkd := fun W => kind_call (Utf8.decode s k).1 q hq W
        have hnx : ∀ ty, (Instr.next (.pointer (some ⟨w.heap.size, 0, none⟩)) true ty).run Tryz.prog wr = _ := fun ty => Lib.run_next_any_at wr w.heap.size s k ty hit hlt
        have hb2 := Lib.below_iterAt hb (k := w.heap.size) (by omega) s (k + (Utf8.decode s k).2)
        have m1 : (q != 1) = true := by rw [bne_iff_ne]; exact hk1
        have HKD := Lib.hid hkd
        clear hkd hk1 hq hall hc
        generalize (Utf8.decode s k).1 = r at *
        generalize (Utf8.decode s k).2 = d at *
        go_wp2_with fail
        refine (HKD.out _).mono ?_
        rintro e w' ⟨rfl, rfl⟩
        go_wp2_with fail
        go_ret
        exact ⟨rfl, hb2⟩
    · have hnx : ∀ ty, (Instr.next (.pointer (some ⟨w.heap.size, 0, none⟩)) true ty).run Tryz.prog wr = _ := fun ty => Lib.run_next_end_at wr w.heap.size s k ty hit hlt
      have hv2 : v = true := by
        rw [← HV.out, ← hall.out, List.take_of_length_le (by omega)]
      subst hv2
      go_wp2_with fail
      go_ret
      exact ⟨rfl, hb⟩

/-- The letters of an abbreviation. -/
def lettersOf (a : ByteArray) : ByteArray := ⟨a.data.toList.dropLast.toArray⟩
theorem suf_point (l : List UInt8) : (Lib.hasSuffix l [46] = true ∧ l.getLast? = some 46 ∧ Lib.trimSuffix l [46] = l.dropLast) ∨ (Lib.hasSuffix l [46] = false ∧ l.getLast? ≠ some 46) := by
  by_cases h : l.getLast? = some 46
  · have hs : Lib.hasSuffix l [46] = true := by
      unfold Lib.hasSuffix
      rw [List.isSuffixOf_iff_suffix]
      refine ⟨l.dropLast, ?_⟩
      have hne : l ≠ [] := by intro e; subst e; cases h
      have h2 := List.dropLast_concat_getLast hne
      rw [List.getLast?_eq_some_getLast hne] at h
      injection h with h
      rw [h] at h2
      exact h2
    refine .inl ⟨hs, h, ?_⟩
    unfold Lib.trimSuffix
    rw [if_pos hs, List.dropLast_eq_take]
    rfl
  · refine .inr ⟨?_, h⟩
    cases hs : Lib.hasSuffix l [46] with
    | false => rfl
    | true =>
      unfold Lib.hasSuffix at hs
      rw [List.isSuffixOf_iff_suffix] at hs
      obtain ⟨t, ht⟩ := hs
      rw [← ht] at h
      simp at h

/-- What readShort gives: the letters, or the error. -/
def ReadShortAns (a : ByteArray) (w : World) (e : Ending) (w' : World) : Prop :=
  ((shortErr a.data.toList = 0 ∧ e = .returned (.tuple #[.string (lettersOf a), .nilIface])) ∨ (shortErr a.data.toList = 2 ∧ e = .returned (.tuple #[.string ⟨#[]⟩, .iface 133 (.agg #[.int .i64 2])]))) ∧ Below w.heap.size w w'

set_option maxRecDepth 100000 in
set_option maxHeartbeats 1600000 in
theorem readShort_any (a : ByteArray) (w : World) (ha : a.size ≤ 2000) : Calls Tryz.prog 70 #[.string a] w (ReadShortAns a w) := by
  have qs := fun W => Tryz.strings_CutSuffix a ⟨#[46]⟩ W (by omega)
  have hll : (lettersOf a).data.toList = a.data.toList.dropLast := rfl
  have hsl := size_list a
  have hls : (lettersOf a).size ≤ 2000 := by
    show a.data.toList.dropLast.toArray.size ≤ 2000
    rw [List.size_toArray, List.length_dropLast]
    omega
  rcases suf_point a.data.toList with ⟨h1, h2, h3⟩ | ⟨h1, h2⟩
  · have e1 : Lib.trimSuffix a.data.toList (⟨#[46]⟩ : ByteArray).data.toList = a.data.toList.dropLast := h3
    have e2 : Lib.hasSuffix a.data.toList (⟨#[46]⟩ : ByteArray).data.toList = true := h1
    have Q : Hid (∀ W, Calls Tryz.prog 100 #[.string a, .string ⟨#[46]⟩] W fun e w' => e = .returned (.tuple #[.string (lettersOf a), .bool true]) ∧ w' = W) := Lib.hid fun W => by
      have h := qs W
      rw [e1, e2] at h
      exact h
    have QF := Lib.hid (fun W => fits_any (lettersOf a) W)
    have QL := Lib.hid (fun W => isLatin_any (lettersOf a) W hls)
    have he : shortErr a.data.toList = if 1 ≤ (lettersOf a).size ∧ (lettersOf a).size ≤ 12 ∧ (lettersOf a).data.toList.all Sp.latin = true then 0 else 2 := by
      unfold shortErr lettersB
      rw [← hll]
      have hz : (lettersOf a).data.toList.length = (lettersOf a).size := by simp
      by_cases hc : 1 ≤ (lettersOf a).size ∧ (lettersOf a).size ≤ 12 ∧ (lettersOf a).data.toList.all Sp.latin = true
      · rw [if_pos hc, if_pos ⟨h2, by rw [hc.2.2, hz]; simp; omega⟩]
      · rw [if_neg hc, if_neg]
        rintro ⟨_, h⟩
        apply hc
        rw [hz] at h
        simp only [Bool.and_eq_true, decide_eq_true_eq] at h
        exact ⟨by omega, by omega, h.2⟩
    have HE := Lib.hid he
    clear qs e1 e2 h1 h2 h3 hll he
    unfold ReadShortAns
    by_cases hf : 1 ≤ (lettersOf a).size ∧ (lettersOf a).size ≤ 12
    · cases hal : (lettersOf a).data.toList.all Sp.latin with
      | true =>
        have hz : shortErr a.data.toList = 0 := by rw [HE.out, if_pos ⟨hf.1, hf.2, hal⟩]
        rw [hz]
        have QL2 : Hid (∀ W, Calls Tryz.prog 98 #[.string (lettersOf a)] W fun e w' => e = .returned (.bool true) ∧ Below W.heap.size W w') := Lib.hid fun W => by have h := QL.out W; rw [hal] at h; exact h
        have QF2 : Hid (∀ W, Calls Tryz.prog 101 #[.string (lettersOf a)] W fun e w' => e = .returned (.bool true) ∧ w' = W) := Lib.hid fun W => by have h := QF.out W; rw [decide_eq_true hf] at h; exact h
        clear HE QL QF hz hal hf
        generalize lettersOf a = K at *
        go_enter Tryz.func70, Tryz.ntmps70
        go_wp2_with fail
        refine (Q.out _).mono ?_
        rintro e w' ⟨rfl, rfl⟩
        go_wp2_with fail
        refine (QF2.out _).mono ?_
        rintro e w' ⟨rfl, rfl⟩
        go_wp2_with fail
        refine (QL2.out _).mono ?_
        rintro e w1 ⟨rfl, hb⟩
        go_wp2_with fail
        go_ret2
        exact ⟨by simp, hb⟩
      | false =>
        have hz : shortErr a.data.toList = 2 := by rw [HE.out, if_neg (fun h => by rw [hal] at h; cases h.2.2)]
        rw [hz]
        have QL2 : Hid (∀ W, Calls Tryz.prog 98 #[.string (lettersOf a)] W fun e w' => e = .returned (.bool false) ∧ Below W.heap.size W w') := Lib.hid fun W => by have h := QL.out W; rw [hal] at h; exact h
        have QF2 : Hid (∀ W, Calls Tryz.prog 101 #[.string (lettersOf a)] W fun e w' => e = .returned (.bool true) ∧ w' = W) := Lib.hid fun W => by have h := QF.out W; rw [decide_eq_true hf] at h; exact h
        clear HE QL QF hz hal hf
        generalize lettersOf a = K at *
        go_enter Tryz.func70, Tryz.ntmps70
        go_wp2_with fail
        refine (Q.out _).mono ?_
        rintro e w' ⟨rfl, rfl⟩
        go_wp2_with fail
        refine (QF2.out _).mono ?_
        rintro e w' ⟨rfl, rfl⟩
        go_wp2_with fail
        refine (QL2.out _).mono ?_
        rintro e w1 ⟨rfl, hb⟩
        go_wp2_with fail
        go_ret2
        exact ⟨by simp, hb⟩
    · have hz : shortErr a.data.toList = 2 := by rw [HE.out, if_neg (fun h => hf ⟨h.1, h.2.1⟩)]
      rw [hz]
      have QF2 : Hid (∀ W, Calls Tryz.prog 101 #[.string (lettersOf a)] W fun e w' => e = .returned (.bool false) ∧ w' = W) := Lib.hid fun W => by have h := QF.out W; rw [decide_eq_false hf] at h; exact h
      clear HE QL QF hz hf
      generalize lettersOf a = K at *
      go_enter Tryz.func70, Tryz.ntmps70
      go_wp2_with fail
      refine (Q.out _).mono ?_
      rintro e w' ⟨rfl, rfl⟩
      go_wp2_with fail
      refine (QF2.out _).mono ?_
      rintro e w' ⟨rfl, rfl⟩
      go_wp2_with fail
      go_ret2
      exact ⟨by simp, Below.refl _ _⟩
  · have e2 : Lib.hasSuffix a.data.toList (⟨#[46]⟩ : ByteArray).data.toList = false := h1
    have Q : Hid (∀ W, Calls Tryz.prog 100 #[.string a, .string ⟨#[46]⟩] W fun e w' => e = .returned (.tuple #[.string ⟨(Lib.trimSuffix a.data.toList (⟨#[46]⟩ : ByteArray).data.toList).toArray⟩, .bool false]) ∧ w' = W) := Lib.hid fun W => by
      have h := qs W
      rw [e2] at h
      exact h
    have hz : shortErr a.data.toList = 2 := by
      unfold shortErr
      rw [if_neg (fun h => h2 h.1)]
    unfold ReadShortAns
    rw [hz]
    clear qs e2 h1 h2 hll hz
    generalize (⟨(Lib.trimSuffix a.data.toList (⟨#[46]⟩ : ByteArray).data.toList).toArray⟩ : ByteArray) = K at *
    go_enter Tryz.func70, Tryz.ntmps70
    go_wp2_with fail
    refine (Q.out _).mono ?_
    rintro e w' ⟨rfl, rfl⟩
    go_wp2_with fail
    go_ret2
    exact ⟨by simp, Below.refl _ _⟩
end Go.Proofs.YtljlkhaolfihjaaGreatDoor

/- Lists with a string that is no name. -/
namespace Go.Proofs.YtljlkhaolfihjaaGreatDoor
open Go.RowKit Go.Shelf

theorem firstErr_allok : ∀ (ss : List ByteArray), firstErr ss = 0 → AllOk ss
  | [], _ => fun s hs => by cases hs
  | s :: t, h => by
    unfold firstErr at h
    by_cases hc : Sp.check s.data.toList = 0
    · rw [if_pos hc] at h
      intro x hx
      rcases List.mem_cons.1 hx with rfl | hx
      · exact hc
      · exact firstErr_allok t h x hx
    · rw [if_neg hc] at h
      exact absurd h hc
theorem firstErr_place : ∀ (ss : List ByteArray), firstErr ss ≠ 0 → ∃ p, ∃ hp : p < ss.length, (∀ i (hi : i < p), Sp.check (ss[i]'(Nat.lt_trans hi hp)).data.toList = 0) ∧ Sp.check ss[p].data.toList = firstErr ss
  | [], h => absurd rfl h
  | s :: t, h => by
    unfold firstErr at *
    by_cases hc : Sp.check s.data.toList = 0
    · rw [if_pos hc] at *
      obtain ⟨p, hp, h1, h2⟩ := firstErr_place t h
      refine ⟨p + 1, by simp; omega, fun i hi => ?_, h2⟩
      cases i with
      | zero => exact hc
      | succ i => exact h1 i (by omega)
    · rw [if_neg hc] at *
      exact ⟨0, by simp, fun i hi => absurd hi (Nat.not_lt_zero _), rfl⟩

def ListErrAns (c : Int) (w : World) (e : Ending) (w' : World) : Prop :=
  e = .returned (.tuple #[.slice none 0 0, .iface 133 (.agg #[.int .i64 c])]) ∧ Below w.heap.size w w'

set_option maxRecDepth 100000 in
set_option maxHeartbeats 1600000 in
theorem readAll_err (A : Option Addr) (n c : Nat) (ss : List ByteArray) (w : World) (hn : n = ss.length) (hb : n ≤ 1000) (hv : firstErr ss ≠ 0) (hx : Cells w A (ss.map Value.string)) :
    Calls Tryz.prog 46 #[.slice A n c] w (ListErrAns (firstErr ss) w) := by
  obtain ⟨si, hi, hz0, hz1, hz2⟩ := info_parts infoSpell
  obtain ⟨p, hp, hgood, hbad⟩ := firstErr_place ss hv
  rw [← hbad] at hv ⊢
  have hpn : p < n := by omega
  have QB := Lib.hid (fun W => read_err ss[p] W hv)
  obtain ⟨E, hE⟩ : ∃ E, Sp.check ss[p].data.toList = E := ⟨_, rfl⟩
  rw [hE] at QB ⊢
  have HN := Lib.hid hn
  have HX := Lib.hid hx
  have HG := Lib.hid hgood
  clear hn hx hv hbad hgood hE
  unfold ListErrAns
  go_enter Tryz.func46, Tryz.ntmps46
  go_wp2_with fail
  go_loopw [4, 11] (fun o i wr => ∃ k : Nat, k ≤ p ∧ i = .int .i64 k ∧ wr.ownsRow w.heap.size 84 2 o k (spellCells (ss.take k)) ∧ Below w.heap.size w wr) (fun _ i _ => n - (intOf i).toNat)
  case atStart => exact ⟨0, Nat.zero_le _, rfl, World.ownsRow_nil _ _ _ _, Below.refl _ _⟩
  case round =>
    obtain ⟨k, hk, rfl, hown, hbw⟩ := hrel
    obtain ⟨O, cap, rfl⟩ := own_form hown
    have hks : k < ss.length := by omega
    obtain ⟨b1, o1, rfl, c1⟩ := HX.out.str k hks
    have c2 := (hbw.cell (World.block_lt_of_cell? w _ c1)).trans c1
    have hkn : (k : Int) < (n : Int) := by omega
    by_cases hlt : k < p
    · have hok := HG.out k hlt
      have est := spellCells_step ss k hks
      have EST := Lib.hid est
      generalize hX : ss[k] = X at *
      have HXX := Lib.hid hX
      clear hX c1 est
      go_wp2_with fail
      refine (read_ok X _ hok).mono ?_
      rintro e w1 ⟨rfl, hb1⟩
      have hb2 := hbw.trans (hb1.mono hbw.size)
      have hown1 := own_below hown hb1
      generalize alphaN X.data.toList = a at *
      clear c2 hown hbw hb1
      have hs1 := hb2.size
      go_wp2_with (at_builtin; refine wpList_append_own _ rfl _ _ 76 rfl w.heap.size 84 si (.agg #[.string ByteArray.empty, .int .i64 0]) 2 24 Tryz.underlying76 hi hz0 hz1 hz2 rfl (by decide) _ _ _ rfl ((hown1.alloc _).alloc _) ⟨w1.heap.size + 1, 0, none⟩ 1 1 [.string (keyS X), .int .i64 a] rfl rfl (two_new _ _ _ _ _ (by simp)) (by simp [Value.oneCell']) (by unfold maxLen; omega) (by omega) (by simp; omega) ?_; intro v' wN hownN hgN _)
      have hbN := ((hb2.alloc hs1 _).alloc (by simp; omega) _).grown hgN (by simp; omega) (fun j hj => (hown1.lt j hj).1)
      go_wp2
      go_roundw
      case rel => exact ⟨k + 1, by omega, by go_num, by rw [EST.out]; exact hownN, hbN⟩
      case measure => simp [intOf]; omega
    · obtain rfl : k = p := by omega
      generalize ss[k] = X at *
      clear c1
      go_wp2_with fail
      refine (QB.out _).mono ?_
      rintro e w1 ⟨rfl, hb1⟩
      have hb2 := hbw.trans (hb1.mono hbw.size)
      have hb3 := hb2.alloc (o := .cells #[.string ⟨#[]⟩, .int .i64 0] 84) hb2.size
      go_wp2_with fail
      go_ret2
      exact ⟨rfl, hb3⟩

set_option maxRecDepth 100000 in
set_option maxHeartbeats 400000 in
theorem readList_err (A : Option Addr) (n c : Nat) (ss : List ByteArray) (w : World) (hn : n = ss.length) (hv : listErr ss ≠ 0) (hx : Cells w A (ss.map Value.string)) :
    Calls Tryz.prog 50 #[.slice A n c] w (ListErrAns (listErr ss) w) := by
  by_cases h6 : 6 < n
  · have e : listErr ss = 6 := by unfold listErr; rw [if_pos (by omega)]
    rw [e]
    have j : (6 : Int) < (n : Int) := by omega
    unfold ListErrAns
    clear hn hv hx e
    go_enter Tryz.func50, Tryz.ntmps50
    go_wp2_with fail
    go_ret2
    exact ⟨rfl, Below.refl _ _⟩
  · have e : listErr ss = firstErr ss := by unfold listErr; rw [if_neg (by omega)]
    rw [e] at hv ⊢
    have q := readAll_err A n c ss w hn (by omega) hv hx
    unfold ListErrAns at q ⊢
    generalize firstErr ss = E at *
    have Q := Lib.hid q
    have j : ¬ ((6 : Int) < (n : Int)) := by omega
    clear q hn hx hv e
    go_enter Tryz.func50, Tryz.ntmps50
    go_wp2_with fail
    refine Q.out.mono ?_
    rintro e w1 ⟨rfl, hb1⟩
    go_wp2_with fail
    go_ret2
    exact ⟨rfl, hb1⟩
end Go.Proofs.YtljlkhaolfihjaaGreatDoor

/- Short and Stands of any strings and lists. -/
namespace Go.Proofs.YtljlkhaolfihjaaGreatDoor
open Go.RowKit Go.Shelf

theorem shortErr_vals (l : List UInt8) : shortErr l = 0 ∨ shortErr l = 2 := by
  unfold shortErr
  split
  · exact .inl rfl
  · exact .inr rfl
theorem letters_facts {a : ByteArray} (h : shortErr a.data.toList = 0) : 1 ≤ (lettersOf a).size ∧ (lettersOf a).size ≤ 12 ∧ ∀ b, b ∈ (lettersOf a).data.toList → b.toNat < 128 := by
  unfold shortErr at h
  split at h
  · rename_i h1
    have h2 := h1.2
    unfold lettersB at h2
    simp only [Bool.and_eq_true, decide_eq_true_eq] at h2
    have hz : (lettersOf a).data.toList.length = (lettersOf a).size := by simp
    have hll : (lettersOf a).data.toList = a.data.toList.dropLast := rfl
    rw [← hll, hz] at h2
    refine ⟨by omega, by omega, fun b hb => ?_⟩
    have := List.all_eq_true.1 h2.2 b hb
    unfold Sp.latin at this
    simp at this
    omega
  · cases h
theorem readShort_ok (a : ByteArray) (w : World) (ha : a.size ≤ 2000) (h : shortErr a.data.toList = 0) : Calls Tryz.prog 70 #[.string a] w fun e w' => e = .returned (.tuple #[.string (lettersOf a), .nilIface]) ∧ Below w.heap.size w w' := by
  refine (readShort_any a w ha).mono ?_
  rintro e w' ⟨⟨_, he⟩ | ⟨h2, _⟩, hb⟩
  · exact ⟨he, hb⟩
  · rw [h] at h2; cases h2
theorem readShort_err (a : ByteArray) (w : World) (ha : a.size ≤ 2000) (h : shortErr a.data.toList = 2) : Calls Tryz.prog 70 #[.string a] w fun e w' => e = .returned (.tuple #[.string ⟨#[]⟩, .iface 133 (.agg #[.int .i64 2])]) ∧ Below w.heap.size w w' := by
  refine (readShort_any a w ha).mono ?_
  rintro e w' ⟨⟨h2, _⟩ | ⟨_, he⟩, hb⟩
  · rw [h] at h2; cases h2
  · exact ⟨he, hb⟩
theorem keyS_len {s : ByteArray} (h : Sp.check s.data.toList = 0) : (keyS s).size ≤ 1000 := by
  have h1 : AllOk [s, s] := by
    intro x hx
    simp at hx
    subst hx
    exact h
  have := keyS_le h1
  omega
theorem shortens_call {a s : ByteArray} (h : shortErr a.data.toList = 0) (hs : Sp.check s.data.toList = 0) (W : World) : Calls Tryz.prog 71 #[.string (lettersOf a), .string (keyS s)] W fun e w' => e = .returned (.bool (shortB a.data.toList s.data.toList)) ∧ Below W.heap.size W w' := by
  obtain ⟨h1, h2, h3⟩ := letters_facts h
  exact shortens_any (lettersOf a) (keyS s) W h1 (by omega) (keyS_len hs) h3

set_option maxRecDepth 100000 in
set_option maxHeartbeats 1600000 in
theorem pShort_any (a n : ByteArray) (w : World) (hL : LaidErr w) (ha : a.size ≤ 2000) :
    Calls Tryz.prog 30 #[.string a, .string n] w (ShortPost a n w) := by
  have HL := Lib.hid hL
  unfold ShortPost
  rcases shortErr_vals a.data.toList with h | h
  · have QS := Lib.hid (fun W => readShort_ok a W ha h)
    by_cases hn : Sp.check n.data.toList = 0
    · have e1 : shortPairErr a.data.toList n.data.toList = 0 := by unfold shortPairErr; rw [if_pos h, hn]
      rw [e1]
      have QR := Lib.hid (fun W => read_ok n W hn)
      have QH := Lib.hid (fun W => shortens_call (a := a) h hn W)
      generalize shortB a.data.toList n.data.toList = v at *
      generalize lettersOf a = K at *
      clear hL e1 ha h hn
      go_enter Tryz.func30, Tryz.ntmps30
      go_wp2_with fail
      refine (QS.out _).mono ?_
      rintro e w1 ⟨rfl, hb1⟩
      go_wp2_with fail
      refine (QR.out _).mono ?_
      rintro e w2 ⟨rfl, hb2⟩
      have hb := hb1.trans (hb2.mono hb1.size)
      have hb3 := hb.alloc (o := .cells #[.string (keyS n), .int .i64 (alphaN n.data.toList)] 84) hb.size
      generalize alphaN n.data.toList = q at *
      generalize keyS n = K2 at *
      have c0 : (w2.alloc (.cells #[.string K2, .int .i64 q] 84)).cell? ⟨w2.heap.size, 0, none⟩ = some (.string K2) := by rw [Lib.cell_of_heap (heap_alloc_new w2 _)]; rfl
      go_wp2_with fail
      generalize w2.alloc (.cells #[.string K2, .int .i64 q] 84) = W at *
      refine (QH.out _).mono ?_
      rintro e w3 ⟨rfl, hb4⟩
      go_wp2_with fail
      go_ret2
      exact ⟨by simp, hb3.trans (hb4.mono hb3.size)⟩
    · have e1 : shortPairErr a.data.toList n.data.toList = Sp.check n.data.toList := by unfold shortPairErr; rw [if_pos h]
      have e2 : (decide (shortPairErr a.data.toList n.data.toList = 0) && shortB a.data.toList n.data.toList) = false := by rw [e1, decide_eq_false hn]; rfl
      rw [e2, e1]
      have QR := Lib.hid (fun W => read_err n W hn)
      generalize Sp.check n.data.toList = c at *
      generalize lettersOf a = K at *
      clear hL e1 ha h hn e2
      go_enter Tryz.func30, Tryz.ntmps30
      go_wp2_with fail
      refine (QS.out _).mono ?_
      rintro e w1 ⟨rfl, hb1⟩
      go_wp2_with fail
      refine (QR.out _).mono ?_
      rintro e w2 ⟨rfl, hb2⟩
      have hb := hb1.trans (hb2.mono hb1.size)
      have hb3 := hb.alloc (o := .cells #[.string ⟨#[]⟩, .int .i64 0] 84) hb.size
      go_wp2_with fail
      refine (codeOf_err c _ (HL.out.below hb3)).mono ?_
      rintro e w3 ⟨rfl, hb4⟩
      go_wp2_with fail
      go_ret2
      exact ⟨rfl, hb3.trans (hb4.mono hb3.size)⟩
  · have e1 : shortPairErr a.data.toList n.data.toList = 2 := by unfold shortPairErr; rw [if_neg (by rw [h]; decide), h]
    rw [e1]
    have QS := Lib.hid (fun W => readShort_err a W ha h)
    clear hL e1 ha h
    go_enter Tryz.func30, Tryz.ntmps30
    go_wp2_with fail
    refine (QS.out _).mono ?_
    rintro e w1 ⟨rfl, hb1⟩
    go_wp2_with fail
    refine (codeOf_err 2 _ (HL.out.below hb1)).mono ?_
    rintro e w3 ⟨rfl, hb4⟩
    go_wp2_with fail
    go_ret2
    exact ⟨by simp, hb1.trans (hb4.mono hb1.size)⟩

theorem list_facts {ss : List ByteArray} (h : listErr ss = 0) : ss.length ≤ 6 ∧ AllOk ss := by
  unfold listErr at h
  split at h
  · cases h
  · exact ⟨by omega, firstErr_allok ss h⟩

set_option maxRecDepth 100000 in
set_option maxHeartbeats 3200000 in
theorem pStands_any (a : ByteArray) (A : Option Addr) (n c : Nat) (ss : List ByteArray) (w : World) (hL : LaidErr w) (ha : a.size ≤ 2000) (hn : n = ss.length) (hx : Cells w A (ss.map Value.string)) :
    Calls Tryz.prog 31 #[.string a, .slice A n c] w (IntsPost (standsL a.data.toList ss) (standsErr a.data.toList ss) w) := by
  obtain ⟨si, hi, hz0, hz1, hz2⟩ := info_parts infoInt
  have HL := Lib.hid hL
  have HX := Lib.hid hx
  unfold IntsPost
  rcases shortErr_vals a.data.toList with h | h
  · have QS := Lib.hid (fun W => readShort_ok a W ha h)
    have e1 : standsErr a.data.toList ss = listErr ss := by unfold standsErr; rw [if_pos h]
    by_cases hl : listErr ss = 0
    · have e2 : standsL a.data.toList ss = standsFrom a.data.toList 0 ss := by unfold standsL; rw [e1, if_pos hl]
      rw [e1, e2, hl]
      obtain ⟨l6, hok⟩ := list_facts hl
      have hn6 : n ≤ 6 := by omega
      have QR := Lib.hid (fun W (hW : Cells W A (ss.map Value.string)) => readList_ok A n c ss W hn hn6 hok hW)
      have QH := Lib.hid (fun k (hk : k < ss.length) W => shortens_call (a := a) h (hok _ (List.getElem_mem hk)) W)
      have HN := Lib.hid hn
      generalize lettersOf a = K at *
      clear hL hx e1 e2 hl hok l6 h ha hn
      go_enter Tryz.func31, Tryz.ntmps31
      go_wp2_with fail
      refine (QS.out _).mono ?_
      rintro e w1 ⟨rfl, hb1⟩
      go_wp2_with fail
      refine (QR.out _ (HX.out.below hb1)).mono ?_
      rintro e w2 ⟨o, rfl, ho, hb2⟩
      have hb := hb1.trans (hb2.mono hb1.size)
      rw [← HN.out] at ho
      obtain ⟨G, cap, rfl⟩ := own_form ho
      have CS := Lib.hid (cells_own ho)
      clear ho hb1 hb2 QS QR
      go_wp2_with fail
      go_loopw [9, 10, 11, 32] (fun o _ _ i wr => ∃ (k : Nat) (xs : List Int), k ≤ n ∧ i = .int .i64 k ∧ wr.ownsRow w2.heap.size 3 1 o xs.length (xs.map (Value.int .i64)) ∧ xs.length ≤ k ∧ Hid (xs ++ standsFrom a.data.toList k (ss.drop k) = standsFrom a.data.toList 0 ss) ∧ Below w2.heap.size w2 wr) (fun _ _ _ i _ => n - (intOf i).toNat)
      case atStart => exact ⟨0, [], Nat.zero_le _, rfl, World.ownsRow_nil _ _ _ _, Nat.le_refl _, Lib.hid rfl, Below.refl _ _⟩
      case round =>
        obtain ⟨k, xs, hk, rfl, hown, hxk, hst, hbr⟩ := hrel
        obtain ⟨O, capo, rfl⟩ := own_form hown
        by_cases hlt : k < n
        · have hks : k < ss.length := by rw [← HN.out]; exact hlt
          obtain ⟨b1, o1, rfl, c1, c2⟩ := (CS.out.below hbr).spell k hks
          have QK := Lib.hid (QH.out k hks)
          have hdr := standsFrom_drop a.data.toList ss k hks
          have HST : Hid (xs ++ ((if shortB a.data.toList ss[k].data.toList then [(k : Int)] else []) ++ standsFrom a.data.toList (k + 1) (ss.drop (k + 1))) = standsFrom a.data.toList 0 ss) := Lib.hid (by rw [← hdr]; exact hst.out)
          generalize shortB a.data.toList ss[k].data.toList = v at *
          generalize keyS ss[k] = KY at *
          generalize alphaN ss[k].data.toList = q at *
          have j1 : (0 : Int) ≤ (k : Int) := by omega
          have j2 : (k : Int) < (n : Int) := by omega
          have hb3 := hbr.alloc (o := .cells #[.string KY, .int .i64 q] 84) hbr.size
          have hown1 := hown.alloc (.cells #[.string KY, .int .i64 q] 84)
          have c0 : (wr.alloc (.cells #[.string KY, .int .i64 q] 84)).cell? ⟨wr.heap.size, 0, none⟩ = some (.string KY) := by rw [Lib.cell_of_heap (heap_alloc_new wr _)]; rfl
          clear hst hdr hown hbr
          go_wp2_with fail
          generalize wr.alloc (.cells #[.string KY, .int .i64 q] 84) = W at *
          refine (QK.out _).mono ?_
          rintro e w3 ⟨rfl, hb4⟩
          have hown2 := own_below hown1 hb4
          have hb5 := hb3.trans (hb4.mono hb3.size)
          have hs5 := hb5.size
          clear hown1 hb3 hb4 c0 c1 c2
          cases v with
          | false =>
            go_wp2_with fail
            go_roundw
            case rel => exact ⟨k + 1, xs, by omega, by go_num, hown2, by omega, Lib.hid (by simpa using HST.out), hb5⟩
            case measure => simp [intOf]; omega
          | true =>
            go_wp2_with (at_builtin; refine wpList_append_own _ rfl _ _ 23 rfl w2.heap.size 3 si (.int .i64 0) 1 8 Tryz.underlying23 hi hz0 hz1 hz2 rfl (by decide) _ _ _ rfl (hown2.alloc _) ⟨w3.heap.size, 0, none⟩ 1 1 [.int .i64 k] rfl rfl (cell_one_new _ _ _) (by simp [Value.oneCell']) (by unfold maxLen; omega) (by omega) (by simp; omega) ?_; intro v' wN hownN hgN _)
            have hbN := (hb5.alloc hs5 (.cells #[.int .i64 k] 3)).grown hgN (by simp; omega) (fun j hj => (hown2.lt j hj).1)
            go_wp2_with fail
            go_roundw
            case rel => exact ⟨k + 1, xs ++ [(k : Int)], by omega, by go_num, by rw [List.length_append, List.map_append]; exact hownN, by simp; omega, Lib.hid (by rw [List.append_assoc]; exact HST.out), hbN⟩
            case measure => simp [intOf]; omega
        · have hkn : k = n := by omega
          have he : xs = standsFrom a.data.toList 0 ss := by
            have := hst.out
            rw [List.drop_of_length_le (by rw [hkn, HN.out]; exact Nat.le_refl _)] at this
            simpa [standsFrom] using this
          have HE := Lib.hid he
          clear he hst
          go_wp2_with fail
          go_ret2
          refine ⟨_, rfl, ?_, hb.trans (hbr.mono hb.size)⟩
          rw [← HE.out]
          exact hown.mono hb.size
    · have e2 : standsL a.data.toList ss = [] := by unfold standsL; rw [e1, if_neg hl]
      rw [e1, e2]
      have QR := Lib.hid (fun W (hW : Cells W A (ss.map Value.string)) => readList_err A n c ss W hn hl hW)
      generalize listErr ss = E at *
      generalize lettersOf a = K at *
      clear hL hx e1 e2 hl h ha hn
      go_enter Tryz.func31, Tryz.ntmps31
      go_wp2_with fail
      refine (QS.out _).mono ?_
      rintro e w1 ⟨rfl, hb1⟩
      go_wp2_with fail
      refine (QR.out _ (HX.out.below hb1)).mono ?_
      rintro e w2 ⟨rfl, hb2⟩
      have hb := hb1.trans (hb2.mono hb1.size)
      go_wp2_with fail
      refine (codeOf_err E _ (HL.out.below hb)).mono ?_
      rintro e w3 ⟨rfl, hb4⟩
      go_wp2_with fail
      go_ret2
      exact ⟨_, rfl, World.ownsRow_nil _ _ _ _, hb.trans (hb4.mono hb.size)⟩
  · have e1 : standsErr a.data.toList ss = 2 := by unfold standsErr; rw [if_neg (by rw [h]; decide), h]
    have e2 : standsL a.data.toList ss = [] := by unfold standsL; rw [e1, if_neg (by decide)]
    rw [e1, e2]
    have QS := Lib.hid (fun W => readShort_err a W ha h)
    clear hL hx e1 e2 ha h hn
    go_enter Tryz.func31, Tryz.ntmps31
    go_wp2_with fail
    refine (QS.out _).mono ?_
    rintro e w1 ⟨rfl, hb1⟩
    go_wp2_with fail
    refine (codeOf_err 2 _ (HL.out.below hb1)).mono ?_
    rintro e w3 ⟨rfl, hb4⟩
    go_wp2_with fail
    go_ret2
    exact ⟨_, rfl, World.ownsRow_nil _ _ _ _, hb1.trans (hb4.mono hb1.size)⟩
end Go.Proofs.YtljlkhaolfihjaaGreatDoor
