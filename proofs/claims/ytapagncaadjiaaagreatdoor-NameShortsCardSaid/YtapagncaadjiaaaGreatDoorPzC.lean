/- Short and Stands of any strings and lists. -/
import Derived.Test.YtapagncaadjiaaaGreatDoorPzB
import Derived.Test.YtapagncaadjiaaaGreatDoorPgE
import Derived.Test.YtapagncaadjiaaaGreatDoorRefK
namespace Go.Proofs.YtapagncaadjiaaaGreatDoor
open Go.RowKit Go.Shelf

theorem shortErr_vals (l : List UInt8) : shortErr l = 0 ∨ shortErr l = 2 := by
  unfold shortErr
  split
  · exact .inl rfl
  · exact .inr rfl
theorem letters_facts {a : ByteArray} (h : shortErr a.data.toList = 0) : 1 ≤ (lettersOf a).size ∧ (lettersOf a).size ≤ 12 ∧ ∀ b, b ∈ (lettersOf a).data.toList → b.toNat < 128 := by
  unfold shortErr at h
  split at h
  · rename_i h1
    have h2 := h1.2
    unfold lettersB at h2
    simp only [Bool.and_eq_true, decide_eq_true_eq] at h2
    have hz : (lettersOf a).data.toList.length = (lettersOf a).size := by simp
    have hll : (lettersOf a).data.toList = a.data.toList.dropLast := rfl
    rw [← hll, hz] at h2
    refine ⟨by omega, by omega, fun b hb => ?_⟩
    have := List.all_eq_true.1 h2.2 b hb
    unfold Sp.latin at this
    simp at this
    omega
  · cases h
theorem readShort_ok (a : ByteArray) (w : World) (ha : a.size ≤ 2000) (h : shortErr a.data.toList = 0) : Calls Tryz.prog 103 #[.string a] w fun e w' => e = .returned (.tuple #[.string (lettersOf a), .nilIface]) ∧ Below w.heap.size w w' := by
  refine (readShort_any a w ha).mono ?_
  rintro e w' ⟨⟨_, he⟩ | ⟨h2, _⟩, hb⟩
  · exact ⟨he, hb⟩
  · rw [h] at h2; cases h2
theorem readShort_err (a : ByteArray) (w : World) (ha : a.size ≤ 2000) (h : shortErr a.data.toList = 2) : Calls Tryz.prog 103 #[.string a] w fun e w' => e = .returned (.tuple #[.string ⟨#[]⟩, .iface 152 (.agg #[.int .i64 2])]) ∧ Below w.heap.size w w' := by
  refine (readShort_any a w ha).mono ?_
  rintro e w' ⟨⟨h2, _⟩ | ⟨_, he⟩, hb⟩
  · rw [h] at h2; cases h2
  · exact ⟨he, hb⟩
theorem keyS_len {s : ByteArray} (h : Sp.check s.data.toList = 0) : (keyS s).size ≤ 1000 := by
  have h1 : AllOk [s, s] := by
    intro x hx
    simp at hx
    subst hx
    exact h
  have := keyS_le h1
  omega
theorem shortens_call {a s : ByteArray} (h : shortErr a.data.toList = 0) (hs : Sp.check s.data.toList = 0) (W : World) : Calls Tryz.prog 104 #[.string (lettersOf a), .string (keyS s)] W fun e w' => e = .returned (.bool (shortB a.data.toList s.data.toList)) ∧ Below W.heap.size W w' := by
  obtain ⟨h1, h2, h3⟩ := letters_facts h
  exact shortens_any (lettersOf a) (keyS s) W h1 (by omega) (keyS_len hs) h3

set_option maxRecDepth 100000 in
set_option maxHeartbeats 1600000 in
theorem pShort_any (a n : ByteArray) (w : World) (hL : LaidErr w) (ha : a.size ≤ 2000) :
    Calls Tryz.prog 49 #[.string a, .string n] w (ShortPost a n w) := by
  have HL := Lib.hid hL
  unfold ShortPost
  rcases shortErr_vals a.data.toList with h | h
  · have QS := Lib.hid (fun W => readShort_ok a W ha h)
    by_cases hn : Sp.check n.data.toList = 0
    · have e1 : shortPairErr a.data.toList n.data.toList = 0 := by unfold shortPairErr; rw [if_pos h, hn]
      rw [e1]
      have QR := Lib.hid (fun W => read_ok n W hn)
      have QH := Lib.hid (fun W => shortens_call (a := a) h hn W)
      generalize shortB a.data.toList n.data.toList = v at *
      generalize lettersOf a = K at *
      clear hL e1 ha h hn
      go_enter Tryz.func49, Tryz.ntmps49
      go_wp2_with fail
      refine (QS.out _).mono ?_
      rintro e w1 ⟨rfl, hb1⟩
      go_wp2_with fail
      refine (QR.out _).mono ?_
      rintro e w2 ⟨rfl, hb2⟩
      have hb := hb1.trans (hb2.mono hb1.size)
      have hb3 := hb.alloc (o := .cells #[.string (keyS n), .int .i64 (alphaN n.data.toList)] 88) hb.size
      generalize alphaN n.data.toList = q at *
      generalize keyS n = K2 at *
      have c0 : (w2.alloc (.cells #[.string K2, .int .i64 q] 88)).cell? ⟨w2.heap.size, 0, none⟩ = some (.string K2) := by rw [Lib.cell_of_heap (heap_alloc_new w2 _)]; rfl
      go_wp2_with fail
      generalize w2.alloc (.cells #[.string K2, .int .i64 q] 88) = W at *
      refine (QH.out _).mono ?_
      rintro e w3 ⟨rfl, hb4⟩
      go_wp2_with fail
      go_ret2
      exact ⟨by simp, hb3.trans (hb4.mono hb3.size)⟩
    · have e1 : shortPairErr a.data.toList n.data.toList = Sp.check n.data.toList := by unfold shortPairErr; rw [if_pos h]
      have e2 : (decide (shortPairErr a.data.toList n.data.toList = 0) && shortB a.data.toList n.data.toList) = false := by rw [e1, decide_eq_false hn]; rfl
      rw [e2, e1]
      have QR := Lib.hid (fun W => read_err n W hn)
      generalize Sp.check n.data.toList = c at *
      generalize lettersOf a = K at *
      clear hL e1 ha h hn e2
      go_enter Tryz.func49, Tryz.ntmps49
      go_wp2_with fail
      refine (QS.out _).mono ?_
      rintro e w1 ⟨rfl, hb1⟩
      go_wp2_with fail
      refine (QR.out _).mono ?_
      rintro e w2 ⟨rfl, hb2⟩
      have hb := hb1.trans (hb2.mono hb1.size)
      have hb3 := hb.alloc (o := .cells #[.string ⟨#[]⟩, .int .i64 0] 88) hb.size
      go_wp2_with fail
      refine (codeOf_err c _ (HL.out.below hb3)).mono ?_
      rintro e w3 ⟨rfl, hb4⟩
      go_wp2_with fail
      go_ret2
      exact ⟨rfl, hb3.trans (hb4.mono hb3.size)⟩
  · have e1 : shortPairErr a.data.toList n.data.toList = 2 := by unfold shortPairErr; rw [if_neg (by rw [h]; decide), h]
    rw [e1]
    have QS := Lib.hid (fun W => readShort_err a W ha h)
    clear hL e1 ha h
    go_enter Tryz.func49, Tryz.ntmps49
    go_wp2_with fail
    refine (QS.out _).mono ?_
    rintro e w1 ⟨rfl, hb1⟩
    go_wp2_with fail
    refine (codeOf_err 2 _ (HL.out.below hb1)).mono ?_
    rintro e w3 ⟨rfl, hb4⟩
    go_wp2_with fail
    go_ret2
    exact ⟨by simp, hb1.trans (hb4.mono hb1.size)⟩

theorem list_facts {ss : List ByteArray} (h : listErr ss = 0) : ss.length ≤ 6 ∧ AllOk ss := by
  unfold listErr at h
  split at h
  · cases h
  · exact ⟨by omega, firstErr_allok ss h⟩

set_option maxRecDepth 100000 in
set_option maxHeartbeats 3200000 in
theorem pStands_any (a : ByteArray) (A : Option Addr) (n c : Nat) (ss : List ByteArray) (w : World) (hL : LaidErr w) (ha : a.size ≤ 2000) (hn : n = ss.length) (hx : Cells w A (ss.map Value.string)) :
    Calls Tryz.prog 51 #[.string a, .slice A n c] w (IntsPost (standsL a.data.toList ss) (standsErr a.data.toList ss) w) := by
  obtain ⟨si, hi, hz0, hz1, hz2⟩ := info_parts infoInt
  have HL := Lib.hid hL
  have HX := Lib.hid hx
  unfold IntsPost
  rcases shortErr_vals a.data.toList with h | h
  · have QS := Lib.hid (fun W => readShort_ok a W ha h)
    have e1 : standsErr a.data.toList ss = listErr ss := by unfold standsErr; rw [if_pos h]
    by_cases hl : listErr ss = 0
    · have e2 : standsL a.data.toList ss = standsFrom a.data.toList 0 ss := by unfold standsL; rw [e1, if_pos hl]
      rw [e1, e2, hl]
      obtain ⟨l6, hok⟩ := list_facts hl
      have hn6 : n ≤ 6 := by omega
      have QR := Lib.hid (fun W (hW : Cells W A (ss.map Value.string)) => readList_ok A n c ss W hn hn6 hok hW)
      have QH := Lib.hid (fun k (hk : k < ss.length) W => shortens_call (a := a) h (hok _ (List.getElem_mem hk)) W)
      have HN := Lib.hid hn
      generalize lettersOf a = K at *
      clear hL hx e1 e2 hl hok l6 h ha hn
      go_enter Tryz.func51, Tryz.ntmps51
      go_wp2_with fail
      refine (QS.out _).mono ?_
      rintro e w1 ⟨rfl, hb1⟩
      go_wp2_with fail
      refine (QR.out _ (HX.out.below hb1)).mono ?_
      rintro e w2 ⟨o, rfl, ho, hb2⟩
      have hb := hb1.trans (hb2.mono hb1.size)
      rw [← HN.out] at ho
      obtain ⟨G, cap, rfl⟩ := own_form ho
      have CS := Lib.hid (cells_own ho)
      clear ho hb1 hb2 QS QR
      go_wp2_with fail
      go_loopw [9, 10, 11, 32] (fun o _ _ i wr => ∃ (k : Nat) (xs : List Int), k ≤ n ∧ i = .int .i64 k ∧ wr.ownsRow w2.heap.size 3 1 o xs.length (xs.map (Value.int .i64)) ∧ xs.length ≤ k ∧ Hid (xs ++ standsFrom a.data.toList k (ss.drop k) = standsFrom a.data.toList 0 ss) ∧ Below w2.heap.size w2 wr) (fun _ _ _ i _ => n - (intOf i).toNat)
      case atStart => exact ⟨0, [], Nat.zero_le _, rfl, World.ownsRow_nil _ _ _ _, Nat.le_refl _, Lib.hid rfl, Below.refl _ _⟩
      case round =>
        obtain ⟨k, xs, hk, rfl, hown, hxk, hst, hbr⟩ := hrel
        obtain ⟨O, capo, rfl⟩ := own_form hown
        by_cases hlt : k < n
        · have hks : k < ss.length := by rw [← HN.out]; exact hlt
          obtain ⟨b1, o1, rfl, c1, c2⟩ := (CS.out.below hbr).spell k hks
          have QK := Lib.hid (QH.out k hks)
          have hdr := standsFrom_drop a.data.toList ss k hks
          have HST : Hid (xs ++ ((if shortB a.data.toList ss[k].data.toList then [(k : Int)] else []) ++ standsFrom a.data.toList (k + 1) (ss.drop (k + 1))) = standsFrom a.data.toList 0 ss) := Lib.hid (by rw [← hdr]; exact hst.out)
          generalize shortB a.data.toList ss[k].data.toList = v at *
          generalize keyS ss[k] = KY at *
          generalize alphaN ss[k].data.toList = q at *
          have j1 : (0 : Int) ≤ (k : Int) := by omega
          have j2 : (k : Int) < (n : Int) := by omega
          have hb3 := hbr.alloc (o := .cells #[.string KY, .int .i64 q] 88) hbr.size
          have hown1 := hown.alloc (.cells #[.string KY, .int .i64 q] 88)
          have c0 : (wr.alloc (.cells #[.string KY, .int .i64 q] 88)).cell? ⟨wr.heap.size, 0, none⟩ = some (.string KY) := by rw [Lib.cell_of_heap (heap_alloc_new wr _)]; rfl
          clear hst hdr hown hbr
          go_wp2_with fail
          generalize wr.alloc (.cells #[.string KY, .int .i64 q] 88) = W at *
          refine (QK.out _).mono ?_
          rintro e w3 ⟨rfl, hb4⟩
          have hown2 := own_below hown1 hb4
          have hb5 := hb3.trans (hb4.mono hb3.size)
          have hs5 := hb5.size
          clear hown1 hb3 hb4 c0 c1 c2
          cases v with
          | false =>
            go_wp2_with fail
            go_roundw
            case rel => exact ⟨k + 1, xs, by omega, by go_num, hown2, by omega, Lib.hid (by simpa using HST.out), hb5⟩
            case measure => simp [intOf]; omega
          | true =>
            go_wp2_with (at_builtin; refine wpList_append_own _ rfl _ _ 22 rfl w2.heap.size 3 si (.int .i64 0) 1 8 Tryz.underlying22 hi hz0 hz1 hz2 rfl (by decide) _ _ _ rfl (hown2.alloc _) ⟨w3.heap.size, 0, none⟩ 1 1 [.int .i64 k] rfl rfl (cell_one_new _ _ _) (by simp [Value.oneCell']) (by unfold maxLen; omega) (by omega) (by simp; omega) ?_; intro v' wN hownN hgN _)
            have hbN := (hb5.alloc hs5 (.cells #[.int .i64 k] 3)).grown hgN (by simp; omega) (fun j hj => (hown2.lt j hj).1)
            go_wp2_with fail
            go_roundw
            case rel => exact ⟨k + 1, xs ++ [(k : Int)], by omega, by go_num, by rw [List.length_append, List.map_append]; exact hownN, by simp; omega, Lib.hid (by rw [List.append_assoc]; exact HST.out), hbN⟩
            case measure => simp [intOf]; omega
        · have hkn : k = n := by omega
          have he : xs = standsFrom a.data.toList 0 ss := by
            have := hst.out
            rw [List.drop_of_length_le (by rw [hkn, HN.out]; exact Nat.le_refl _)] at this
            simpa [standsFrom] using this
          have HE := Lib.hid he
          clear he hst
          go_wp2_with fail
          go_ret2
          refine ⟨_, rfl, ?_, hb.trans (hbr.mono hb.size)⟩
          rw [← HE.out]
          exact hown.mono hb.size
    · have e2 : standsL a.data.toList ss = [] := by unfold standsL; rw [e1, if_neg hl]
      rw [e1, e2]
      have QR := Lib.hid (fun W (hW : Cells W A (ss.map Value.string)) => readList_err A n c ss W hn hl hW)
      generalize listErr ss = E at *
      generalize lettersOf a = K at *
      clear hL hx e1 e2 hl h ha hn
      go_enter Tryz.func51, Tryz.ntmps51
      go_wp2_with fail
      refine (QS.out _).mono ?_
      rintro e w1 ⟨rfl, hb1⟩
      go_wp2_with fail
      refine (QR.out _ (HX.out.below hb1)).mono ?_
      rintro e w2 ⟨rfl, hb2⟩
      have hb := hb1.trans (hb2.mono hb1.size)
      go_wp2_with fail
      refine (codeOf_err E _ (HL.out.below hb)).mono ?_
      rintro e w3 ⟨rfl, hb4⟩
      go_wp2_with fail
      go_ret2
      exact ⟨_, rfl, World.ownsRow_nil _ _ _ _, hb.trans (hb4.mono hb.size)⟩
  · have e1 : standsErr a.data.toList ss = 2 := by unfold standsErr; rw [if_neg (by rw [h]; decide), h]
    have e2 : standsL a.data.toList ss = [] := by unfold standsL; rw [e1, if_neg (by decide)]
    rw [e1, e2]
    have QS := Lib.hid (fun W => readShort_err a W ha h)
    clear hL hx e1 e2 ha h hn
    go_enter Tryz.func51, Tryz.ntmps51
    go_wp2_with fail
    refine (QS.out _).mono ?_
    rintro e w1 ⟨rfl, hb1⟩
    go_wp2_with fail
    refine (codeOf_err 2 _ (HL.out.below hb1)).mono ?_
    rintro e w3 ⟨rfl, hb4⟩
    go_wp2_with fail
    go_ret2
    exact ⟨_, rfl, World.ownsRow_nil _ _ _ _, hb1.trans (hb4.mono hb1.size)⟩
end Go.Proofs.YtapagncaadjiaaaGreatDoor
