/- Place, of any list and any name. -/
import Derived.Test.YtljlkhaolfihjaaGreatDoorPgSp
import Derived.Test.YtljlkhaolfihjaaGreatDoorRefI
import Derived.Test.YtljlkhaolfihjaaGreatDoorPzC
namespace Go.Proofs.YtljlkhaolfihjaaGreatDoor
open Go.RowKit Go.Shelf

theorem cmpS_anti (a b : Spell) : cmpSpell b a = - cmpSpell a b := by
  unfold cmpSpell
  rw [cmpB_anti a.1.data.toList b.1.data.toList]
  have h : Lib.compareInt b.2 a.2 = - Lib.compareInt a.2 b.2 := by
    have h1 := cmpI_vals a.2 b.2
    have h2 := cmpI_lt a.2 b.2
    have h3 := cmpI_gt a.2 b.2
    have h4 := cmpI_eq a.2 b.2
    have k1 := cmpI_vals b.2 a.2
    have k2 := cmpI_lt b.2 a.2
    have k3 := cmpI_gt b.2 a.2
    have k4 := cmpI_eq b.2 a.2
    omega
  by_cases e : Lib.compareBytes a.1.data.toList b.1.data.toList = 0
  · rw [if_pos (by omega), if_pos e, h]
  · rw [if_neg (by omega), if_neg e]
theorem cmpS_eq {a b : Spell} (h : cmpSpell a b = 0) : a = b := by
  unfold cmpSpell at h
  by_cases e : Lib.compareBytes a.1.data.toList b.1.data.toList = 0
  · rw [if_pos e] at h
    have h1 : a.1 = b.1 := bytes_inj (by rw [ByteArray.toList_eq, ByteArray.toList_eq]; exact cmpB_eq _ _ e)
    have h2 : a.2 = b.2 := (cmpI_eq _ _).1 h
    exact Prod.ext h1 h2
  · rw [if_neg e] at h
    exact absurd h e
theorem cmpS_le {a b t : Spell} (h : ¬ cmpSpell b a < 0) (k : cmpSpell b t < 0) : cmpSpell a t < 0 := by
  have h1 := cmpS_vals a b
  have h2 := cmpS_anti a b
  have h3 := cmpS_vals b t
  rcases h1 with h1 | h1 | h1
  · have := cmpS_trans a b t h1 (by omega)
    omega
  · rw [cmpS_eq h1]; exact k
  · omega
theorem cmp_before (a b : ByteArray) : beforeB a.data.toList b.data.toList = decide (cmpSpell (spellOf a) (spellOf b) < 0) := by
  unfold beforeB cmpSpell spellOf
  show _ = decide ((if Lib.compareBytes (Sp.key a.data.toList) (Sp.key b.data.toList) = 0 then Lib.compareInt (alphaN a.data.toList) (alphaN b.data.toList) else Lib.compareBytes (Sp.key a.data.toList) (Sp.key b.data.toList)) < 0)
  by_cases e : Sp.key a.data.toList = Sp.key b.data.toList
  · rw [if_pos e, e, cmpB_refl, if_pos rfl]
    unfold alphaN
    cases lat a.data.toList <;> cases lat b.data.toList <;> decide
  · have h0 : ¬ Lib.compareBytes (Sp.key a.data.toList) (Sp.key b.data.toList) = 0 := fun h => e (cmpB_eq _ _ h)
    rw [if_neg e, if_neg h0, less_cmp]
    have h1 := cmpB_vals (Sp.key a.data.toList) (Sp.key b.data.toList)
    by_cases h2 : Lib.compareBytes (Sp.key a.data.toList) (Sp.key b.data.toList) = -1
    · rw [h2]; rfl
    · have h3 : Lib.compareBytes (Sp.key a.data.toList) (Sp.key b.data.toList) = 1 := by omega
      rw [h3]; rfl

theorem ord_step {ss : List ByteArray} (h : ordB ss = true) (i : Nat) (hi : i + 1 < ss.length) : ¬ cmpAt ss (i + 1) i < 0 := by
  unfold ordB at h
  have := List.all_eq_true.1 h i (List.mem_range.2 (by omega))
  simpa using this
theorem ord_mono {ss : List ByteArray} (h : ordB ss = true) (t : Spell) : ∀ a b, a ≤ b → b < ss.length → cmpT ss t b < 0 → cmpT ss t a < 0 := by
  intro a b hab hb hc
  induction b with
  | zero => have : a = 0 := by omega
            rw [this]; exact hc
  | succ b ih =>
    by_cases e : a = b + 1
    · rw [e]; exact hc
    · exact ih (by omega) (by omega) (cmpS_le (ord_step h b hb) hc)
theorem ordered_eq (ss : List ByteArray) : orderedB ss = ordB ss := by
  have key : ∀ d k, ss.length - k = d → (orderedB (ss.drop k) = true ↔ ∀ i, k ≤ i → i + 1 < ss.length → ¬ cmpAt ss (i + 1) i < 0) := by
    intro d
    induction d with
    | zero =>
      intro k hk
      rw [orderedB_end ss k (by omega)]
      exact ⟨fun _ i h1 h2 => by omega, fun _ => rfl⟩
    | succ d ih =>
      intro k hk
      by_cases hl : k + 1 < ss.length
      · have hq := ih (k + 1) (by omega)
        have e1 : cmpAt ss (k + 1) k = cmpSpell (spellOf ss[k + 1]) (spellOf ss[k]) := by unfold cmpAt; rw [getD_at ss _ hl, getD_at ss k (by omega)]
        rw [orderedB_drop ss k hl, cmp_before, Bool.and_eq_true, hq, ← e1]
        constructor
        · rintro ⟨h1, h2⟩ i hi hil
          by_cases e : i = k
          · subst e; simpa using h1
          · exact h2 i (by omega) hil
        · intro h
          exact ⟨by have := h k (Nat.le_refl _) hl; simpa using this, fun i hi hil => h i (by omega) hil⟩
      · rw [orderedB_end ss k (by omega)]
        exact ⟨fun _ i h1 h2 => by omega, fun _ => rfl⟩
  have h := key ss.length 0 (by omega)
  rw [List.drop_zero] at h
  cases ho : ordB ss with
  | true => exact h.2 fun i _ hi => ord_step ho i hi
  | false =>
    cases hq : orderedB ss with
    | false => rfl
    | true =>
      rw [ord_true fun i hi => h.1 hq i (Nat.zero_le _) hi] at ho
      cases ho
/-- How many names come before one, where all that do lie ahead. -/
theorem place_eq (ss : List ByteArray) (m : ByteArray) (P : Nat) (h1 : P ≤ ss.length) (h2 : ∀ i, i < P → cmpT ss (spellOf m) i < 0) (h3 : ∀ i, P ≤ i → i < ss.length → 0 ≤ cmpT ss (spellOf m) i) : placeN ss m = P := by
  have hd : ∀ d k, ss.length - k = d → k ≤ ss.length → placeN (ss.drop k) m = P - k := by
    intro d
    induction d with
    | zero =>
      intro k hk hkl
      rw [List.drop_eq_nil_of_le (by omega)]
      show 0 = P - k
      omega
    | succ d ih =>
      intro k hk hkl
      have hl : k < ss.length := by omega
      rw [placeN_drop ss m k hl, ih (k + 1) (by omega) (by omega), cmp_before]
      have e : cmpT ss (spellOf m) k = cmpSpell (spellOf ss[k]) (spellOf m) := by unfold cmpT; rw [getD_at ss k hl]
      by_cases hp : k < P
      · have := h2 k hp
        rw [e] at this
        rw [if_pos (decide_eq_true this)]
        omega
      · have := h3 k (by omega) hl
        rw [e] at this
        rw [if_neg (by simp; exact this)]
        omega
  have := hd ss.length 0 (by omega) (Nat.zero_le _)
  rwa [List.drop_zero, Nat.sub_zero] at this

set_option maxRecDepth 100000 in
theorem inOrder_any (A : Option Addr) (n c : Nat) (ss : List ByteArray) (w : World) (hn : n = ss.length) (hb : n ≤ 1000) (hx : Cells w A (spellCells ss)) :
    Calls Tryz.prog 55 #[.slice A n c] w fun e w' => e = .returned (.bool (ordB ss)) ∧ Below w.heap.size w w' := by
  have Q := Lib.hid (isSorted_any A n c ss w hn hb hx)
  generalize ordB ss = b at *
  clear hx hn
  go_enter Tryz.func55, Tryz.ntmps55
  go_wp2_with fail
  refine Q.out.mono ?_
  rintro e w' ⟨rfl, h⟩
  go_wp2_with fail
  go_ret
  exact ⟨rfl, h⟩

/-- Place's answer. -/
def PlaceAns (ss : List ByteArray) (m : ByteArray) (w : World) (e : Ending) (w' : World) : Prop :=
  e = .returned (.tuple #[.int .i64 (placeB ss m), .int .i64 (placeErr ss m)]) ∧ Below w.heap.size w w'
set_option maxRecDepth 100000 in
set_option maxHeartbeats 1600000 in
theorem pPlace_any (A : Option Addr) (n c : Nat) (ss : List ByteArray) (m : ByteArray) (w : World) (hL : LaidErr w) (hn : n = ss.length) (hx : Cells w A (ss.map Value.string)) :
    Calls Tryz.prog 18 #[.slice A n c, .string m] w (PlaceAns ss m w) := by
  have HX := Lib.hid hx
  have HL := Lib.hid hL
  unfold PlaceAns
  by_cases hle : listErr ss = 0
  · obtain ⟨l6, hok⟩ := list_facts hle
    have QR := Lib.hid (readList_ok A n c ss w hn (by omega) hok hx)
    unfold SpellsPost at QR
    by_cases hme : Sp.check m.data.toList = 0
    · have qm := fun W => read_ok m W hme
      unfold ReadOk at qm
      have QM := Lib.hid qm
      have QO := Lib.hid (fun B c W (h : Cells W B (spellCells ss)) => inOrder_any B n c ss W hn (by omega) h)
      cases ho : ordB ss with
      | false =>
        have e1 : placeErr ss m = 5 := by unfold placeErr; rw [if_pos hle, if_pos hme, ordered_eq, ho]; rfl
        have e2 : placeB ss m = 0 := by unfold placeB; rw [e1]; rfl
        rw [e1, e2]
        rw [ho] at QO
        have HN := Lib.hid hn
        clear e1 e2 ho hx hL hle hme hok hn
        go_enter Tryz.func18, Tryz.ntmps18
        go_wp2_with fail
        refine QR.out.mono ?_
        rintro e w1 ⟨o, rfl, ho1, hb1⟩
        rw [← HN.out] at ho1
        obtain ⟨B, cb, rfl⟩ := own_form ho1
        have CS := Lib.hid (cells_own ho1)
        clear ho1 QR
        go_wp2_with fail
        refine (QM.out _).mono ?_
        rintro e w2 ⟨rfl, hb2⟩
        have CS2 := Lib.hid (CS.out.below (hb2.trans ((Below.refl _ _).alloc (Nat.le_refl _) (.cells #[.string (keyS m), .int .i64 (alphaN m.data.toList)] 84) |>.mono hb2.size)))
        have hb3 := (hb1.trans (hb2.mono hb1.size)).alloc (o := .cells #[.string (keyS m), .int .i64 (alphaN m.data.toList)] 84) (by have := hb1.size; have := hb2.size; omega)
        clear QM hb1 hb2
        go_wp2_with fail
        refine (QO.out B cb _ CS2.out).mono ?_
        rintro e w3 ⟨rfl, hb4⟩
        have hb5 := hb3.trans (hb4.mono hb3.size)
        clear QO CS CS2
        go_wp2_with fail
        go_ret2
        exact ⟨rfl, hb5⟩
      | true =>
        have e1 : placeErr ss m = 0 := by unfold placeErr; rw [if_pos hle, if_pos hme, ordered_eq, ho]; rfl
        have e2 : placeB ss m = placeN ss m := by unfold placeB; rw [if_pos e1]
        rw [e1, e2]
        rw [ho] at QO
        have qs := fun B c W (h : Cells W B (spellCells ss)) => search_any B n c ss (keyS m) (alphaN m.data.toList) W hn (by omega) h (ord_mono ho (keyS m, alphaN m.data.toList))
        unfold SearchPost at qs
        have QS := Lib.hid qs
        have HN := Lib.hid hn
        have HPE := Lib.hid (place_eq ss m)
        unfold spellOf at HPE
        clear e1 e2 ho hx hL hle hme hok hn qs
        go_enter Tryz.func18, Tryz.ntmps18
        go_wp2_with fail
        refine QR.out.mono ?_
        rintro e w1 ⟨o, rfl, ho1, hb1⟩
        rw [← HN.out] at ho1
        obtain ⟨B, cb, rfl⟩ := own_form ho1
        have CS := Lib.hid (cells_own ho1)
        clear ho1 QR
        go_wp2_with fail
        refine (QM.out _).mono ?_
        rintro e w2 ⟨rfl, hb2⟩
        have hbb : Below w1.heap.size w1 (w2.alloc (.cells #[.string (keyS m), .int .i64 (alphaN m.data.toList)] 84)) := hb2.alloc hb2.size _
        have CS2 := Lib.hid (CS.out.below hbb)
        have hb3 := hb1.trans (hbb.mono hb1.size)
        have hr := heap_alloc_new w2 (.cells #[.string (keyS m), .int .i64 (alphaN m.data.toList)] 84)
        obtain ⟨z1, z2, _, _⟩ := block2_cells hr
        have Z1 := Lib.hid z1
        have Z2 := Lib.hid z2
        have hsz : (w2.alloc (.cells #[.string (keyS m), .int .i64 (alphaN m.data.toList)] 84)).heap.size = w2.heap.size + 1 := by simp
        clear QM hb1 hb2 hbb CS hr z1 z2
        go_wp2_with fail
        generalize w2.alloc (.cells #[.string (keyS m), .int .i64 (alphaN m.data.toList)] 84) = W2 at *
        refine (QO.out B cb _ CS2.out).mono ?_
        rintro e w3 ⟨rfl, hb4⟩
        have hb5 := hb3.trans (hb4.mono hb3.size)
        have CS3 := Lib.hid (CS2.out.below hb4)
        have y1 := (hb4.cell (p := ⟨w2.heap.size, 0, none⟩) (by show w2.heap.size < _; omega)).trans Z1.out
        have y2 := (hb4.cell (p := ⟨w2.heap.size, 1, none⟩) (by show w2.heap.size < _; omega)).trans Z2.out
        clear QO CS2 hb3 hb4 Z1 Z2
        go_wp2_with fail
        refine (QS.out B cb _ CS3.out).mono ?_
        rintro e w4 ⟨P, f, rfl, h1, h2, h3, hb6⟩
        have hP := HPE.out P h1 h2 h3
        have HP := Lib.hid hP
        clear h1 h2 h3 hP HPE y1 y2 QS CS3
        go_wp2_with fail
        go_ret2
        exact ⟨ret_two (int_val (by rw [HP.out])) rfl, hb5.trans (hb6.mono hb5.size)⟩
    · have qm := fun W => read_err m W hme
      unfold ReadErr at qm
      have QM := Lib.hid qm
      have e1 : placeErr ss m = Sp.check m.data.toList := by unfold placeErr; rw [if_pos hle, if_neg hme]
      have e2 : placeB ss m = 0 := by unfold placeB; rw [e1, if_neg hme]
      rw [e1, e2]
      generalize Sp.check m.data.toList = E at *
      have QE := Lib.hid (fun W h => codeOf_err E W h)
      have HN := Lib.hid hn
      clear e1 e2 hx hL hle hme hok hn qm
      go_enter Tryz.func18, Tryz.ntmps18
      go_wp2_with fail
      refine QR.out.mono ?_
      rintro e w1 ⟨o, rfl, ho1, hb1⟩
      rw [← HN.out] at ho1
      obtain ⟨B, cb, rfl⟩ := own_form ho1
      clear ho1 QR
      go_wp2_with fail
      refine (QM.out _).mono ?_
      rintro e w2 ⟨rfl, hb2⟩
      have hb3 := (hb1.trans (hb2.mono hb1.size)).alloc (o := .cells #[.string ⟨#[]⟩, .int .i64 0] 84) (by have := hb1.size; have := hb2.size; omega)
      clear QM hb1 hb2
      go_wp2_with fail
      refine (QE.out _ (HL.out.below hb3)).mono ?_
      rintro e w3 ⟨rfl, hb4⟩
      have hb5 := hb3.trans (hb4.mono hb3.size)
      go_wp2_with fail
      go_ret2
      exact ⟨rfl, hb5⟩
  · have qr := readList_err A n c ss w hn hle hx
    unfold ListErrAns at qr
    have QR := Lib.hid qr
    have e1 : placeErr ss m = listErr ss := by unfold placeErr; rw [if_neg hle]
    have e2 : placeB ss m = 0 := by unfold placeB; rw [e1, if_neg hle]
    rw [e1, e2]
    generalize listErr ss = E at *
    have QE := Lib.hid (fun W h => codeOf_err E W h)
    clear e1 e2 hx hL hle hn qr
    go_enter Tryz.func18, Tryz.ntmps18
    go_wp2_with fail
    refine QR.out.mono ?_
    rintro e w1 ⟨rfl, hb1⟩
    go_wp2_with fail
    refine (QE.out _ (HL.out.below hb1)).mono ?_
    rintro e w3 ⟨rfl, hb4⟩
    have hb5 := hb1.trans (hb4.mono hb1.size)
    go_wp2_with fail
    go_ret2
    exact ⟨rfl, hb5⟩
end Go.Proofs.YtljlkhaolfihjaaGreatDoor
