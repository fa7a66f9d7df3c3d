/- Names at a wrong place. -/
import Derived.Test.YtljlkhaolfihjaaGreatDoorPgRd
namespace Go.Proofs.YtljlkhaolfihjaaGreatDoor
open Go.RowKit Go.Shelf

def seqI (p : Nat) : Value := .func (.func 91) #[] #[.pointer (some ⟨p + 1, 0, none⟩), .pointer (some ⟨p, 0, none⟩)]
structure SeqRI (base nn : Nat) (bs : List Nat) (v : Value) (W : World) : Prop where
  row : W.ownsRow base 98 1 v bs.length (bs.map seqI)
  at_ : ∀ (j : Nat), j < bs.length → W.heap[bs.getD j 0]? = some (.cells #[.int .i64 nn] 3 (0, 0)) ∧ W.heap[bs.getD j 0 + 1]? = some (.cells #[.int .i64 (j : Nat)] 3 (0, 0))
theorem SeqRI.seqs {base nn : Nat} {bs : List Nat} {W : World} {A : Option Addr} {n c : Nat} (hn : n = bs.length) (h : SeqRI base nn bs (.slice A n c) W) : SeqsI W A nn (List.range n) := by
  subst hn
  intro i hi
  have hil : i < bs.length := by simpa using hi
  have hc := cells_own h.row
  obtain ⟨b, off, e, hb⟩ := hc i (by simpa using hil)
  obtain ⟨a1, a2⟩ := h.at_ i hil
  refine ⟨b, off, bs.getD i 0 + 1, bs.getD i 0, e, ?_, by rw [List.getElem_range]; exact a2, a1⟩
  rw [hb, List.getD_eq_getElem?_getD, List.getElem?_map, List.getElem?_eq_getElem hil, List.getD_eq_getElem?_getD, List.getElem?_eq_getElem hil]
  rfl
theorem SeqRI.none (base nn : Nat) (W : World) : SeqRI base nn [] (.slice none 0 0) W := ⟨World.ownsRow_nil _ _ _ _, fun j h => by simp at h⟩
theorem SeqRI.step {base nn : Nat} {bs : List Nat} {v v' : Value} {W wn : World} {m : Nat} (h : SeqRI base nn bs v W) (hm : m = bs.length)
    (hg : (((W.alloc (.cells #[.int .i64 nn] 3)).alloc (.cells #[.int .i64 m] 3)).alloc (.cells #[seqI W.heap.size] 98)).grownBy wn v.ownBlock) (ho : wn.ownsRow base 98 1 v' (bs.length + 1) (bs.map seqI ++ [seqI W.heap.size])) :
    SeqRI base nn (bs ++ [W.heap.size]) v' wn := by
  have hrow := ((h.row.alloc (.cells #[.int .i64 nn] 3)).alloc (.cells #[.int .i64 m] 3)).alloc (.cells #[seqI W.heap.size] 98)
  have keep : ∀ (b : Nat) c t, t ≠ 98 → (((W.alloc (.cells #[.int .i64 nn] 3)).alloc (.cells #[.int .i64 m] 3)).alloc (.cells #[seqI W.heap.size] 98)).heap[b]? = some (.cells c t (0, 0)) → wn.heap[b]? = some (.cells c t (0, 0)) := by
    intro b c t ht hb
    refine (hg.block b (Array.getElem?_eq_some_iff.1 hb).1 (fun e => ?_)).trans hb
    obtain ⟨c', hc'⟩ := own_block hrow b e.symm
    rw [hb] at hc'
    injection hc' with hc'
    injection hc' with _ h3 _
    exact ht h3
  have hb3 : Below W.heap.size W (((W.alloc (.cells #[.int .i64 nn] 3)).alloc (.cells #[.int .i64 m] 3)).alloc (.cells #[seqI W.heap.size] 98)) := (((Below.refl _ W).alloc (Nat.le_refl _) _).alloc (by simp) _).alloc (by simp; omega) _
  refine ⟨by rw [List.length_append, List.map_append]; exact ho, fun j hj => ?_⟩
  by_cases hlt : j < bs.length
  · obtain ⟨a1, a2⟩ := h.at_ j hlt
    have e1 : (bs ++ [W.heap.size]).getD j 0 = bs.getD j 0 := by
      rw [List.getD_eq_getElem?_getD, List.getD_eq_getElem?_getD, List.getElem?_append_left hlt]
    rw [e1]
    exact ⟨keep _ _ _ (by decide) ((hb3.block _ (Array.getElem?_eq_some_iff.1 a1).1).trans a1), keep _ _ _ (by decide) ((hb3.block _ (Array.getElem?_eq_some_iff.1 a2).1).trans a2)⟩
  · have hj2 : j = m := by simp at hj; omega
    subst hj2
    have e1 : (bs ++ [W.heap.size]).getD j 0 = W.heap.size := by
      rw [List.getD_eq_getElem?_getD, List.getElem?_append_right (by omega), hm]; simp
    rw [e1]
    refine ⟨keep _ _ _ (by decide) ((Below.heap_alloc _ _ _ (by simp; omega)).trans ((Below.heap_alloc _ _ _ (by simp)).trans (heap_alloc_new W _))), keep _ _ _ (by decide) ?_⟩
    refine (Below.heap_alloc _ _ _ (by simp)).trans ?_
    have := heap_alloc_new (W.alloc (.cells #[.int .i64 nn] 3)) (.cells #[.int .i64 j] 3)
    rwa [World.size_alloc] at this
theorem infoSeqI : (Tryz.prog.info? 98).map (fun i => (i.zero, i.size, i.bytes)) = some (some .nilFunc, 1, 8) := by kernel_rfl

/-- The fewest names at a wrong place. -/
def wrongX (ss : List ByteArray) : List Int := ((allI ss.length (List.range (ss.length + 1))).find? (fineI ss)).getD []
def wrongL (ss : List ByteArray) : List Int := if listErr ss = 0 then wrongX ss else []
/-- Wrong's answer. -/
def WrongAns (ss : List ByteArray) (w : World) (e : Ending) (w' : World) : Prop :=
  ∃ v : Value, e = .returned (.tuple #[v, .int .i64 (listErr ss)]) ∧ w'.ownsRow w.heap.size 3 1 v (wrongL ss).length ((wrongL ss).map (Value.int .i64)) ∧ (wrongL ss).length ≤ 6 ∧ Below w.heap.size w w'

set_option maxRecDepth 100000 in
set_option maxHeartbeats 3200000 in
theorem Wrong_ok (A : Option Addr) (n c : Nat) (ss : List ByteArray) (w : World) (hn : n = ss.length) (hle : listErr ss = 0) (hx : Cells w A (ss.map Value.string)) :
    Calls Tryz.prog 20 #[.slice A n c] w (WrongAns ss w) := by
  obtain ⟨si, hif, hz0, hz1, hz2⟩ := info_parts infoSeqI
  obtain ⟨l6, hok⟩ := list_facts hle
  have QR := Lib.hid (readList_ok A n c ss w hn (by omega) hok hx)
  unfold SpellsPost at QR
  have HWX : Hid (∀ o : Option (List Int), (allI n (List.range (n + 1))).find? (fineI ss) = o → wrongL ss = o.getD []) := Lib.hid fun o ho => by
    unfold wrongL wrongX; rw [if_pos hle, ← hn, ho]
  unfold WrongAns
  rw [hle]
  generalize wrongL ss = WL at *
  have QF := Lib.hid (fun (O : Option Addr) (Bl c' cb : Nat) B W (hs : SeqsI W O n (List.range (n + 1))) (hbl : W.cell? ⟨Bl, 0, none⟩ = some (.slice B n cb)) (hcs : Cells W B (spellCells ss)) =>
    firstI_any O B Bl (n + 1) c' n cb n (List.range (n + 1)) ss W (by simp) (by omega) (fun m hm => by have := List.mem_range.1 hm; omega) (by omega) hs hn (by omega) hbl hcs)
  have hn6 : n ≤ 6 := by omega
  have HN := Lib.hid hn
  clear hn hle hok hx l6
  go_enter Tryz.func20, Tryz.ntmps20
  go_wp2_with fail
  refine QR.out.mono ?_
  rintro e w1 ⟨o, rfl, ho1, hb1⟩
  rw [← HN.out] at ho1
  obtain ⟨B, cb, rfl⟩ := own_form ho1
  have hP := heap_alloc_new w1 (.cells #[.slice B n cb] 76)
  have hbP : Below w1.heap.size w1 (w1.alloc (.cells #[.slice B n cb] 76)) := (Below.refl _ _).alloc (Nat.le_refl _) _
  have hPs : (w1.alloc (.cells #[.slice B n cb] 76)).heap.size = w1.heap.size + 1 := by simp
  have CS := Lib.hid ((cells_own ho1).below hbP)
  clear ho1 QR
  go_wp2_with fail
  generalize w1.alloc (.cells #[.slice B n cb] 76) = W0 at *
  have hb0 := hb1.trans (hbP.mono hb1.size)
  generalize w1.heap.size = Pb at *
  have HB0 := Lib.hid hb0
  have hw1 : IntKind.i64.wrap ((n : Int) + 1) = (n : Int) + 1 := IntWalk.i64_in _ (by omega)
  obtain ⟨pp0, pp1⟩ := cells_at hP
  clear hb0 hb1 hbP
  go_wp2_with fail
  go_loopw [6, 7, 22] (fun s6 _ i wr => ∃ (bs : List Nat), bs.length ≤ n + 1 ∧ i = .int .i64 bs.length ∧ SeqRI W0.heap.size n bs s6 wr ∧ Below W0.heap.size W0 wr) (fun _ _ i _ => n + 1 - (intOf i).toNat)
  case atStart => exact ⟨[], Nat.zero_le _, rfl, SeqRI.none _ _ _, Below.refl _ _⟩
  case round =>
    obtain ⟨bs, hbs, rfl, hrow, hb⟩ := hrel
    obtain ⟨p0, p1⟩ := cells_at ((hb.block Pb (by omega)).trans hP)
    obtain ⟨O, cp, rfl⟩ := own_form hrow.row
    have hsw := hb.size
    by_cases hlt : bs.length < n + 1
    · have hlti : (bs.length : Int) < (n : Int) + 1 := by omega
      have hbc : Below wr.heap.size wr ((wr.alloc (.cells #[.int .i64 n] 3)).alloc (.cells #[.int .i64 bs.length] 3)) := ((Below.refl _ wr).alloc (Nat.le_refl _) _).alloc (by simp) _
      have hrow2 := (hrow.row.alloc (.cells #[.int .i64 n] 3)).alloc (.cells #[.int .i64 bs.length] 3)
      have HROW := Lib.hid hrow
      clear hrow
      go_wp2_with fail
      refine (choices_any n bs.length wr).mono ?_
      rintro e w' ⟨rfl, rfl⟩
      have hone : ∀ (j : Nat) (u : Value), [seqI wr.heap.size][j]? = some u → ((((wr.alloc (.cells #[.int .i64 n] 3)).alloc (.cells #[.int .i64 bs.length] 3)).alloc (.cells #[seqI wr.heap.size] 98)).cell? ((⟨wr.heap.size + 2, 0, none⟩ : Addr).add j) = some u) := by
        have := cell_one_new ((wr.alloc (.cells #[.int .i64 n] 3)).alloc (.cells #[.int .i64 bs.length] 3)) (seqI wr.heap.size) 98
        rwa [World.size_alloc, World.size_alloc] at this
      unfold seqI at hone
      go_wp2_with (at_builtin; refine wpList_append_own _ rfl _ _ 96 rfl W0.heap.size 98 si .nilFunc 1 8 Tryz.underlying96 hif hz0 hz1 hz2 rfl (by decide) _ _ _ rfl (hrow2.alloc _) ⟨wr.heap.size + 2, 0, none⟩ 1 1 [seqI wr.heap.size] rfl rfl hone (by simp [Value.oneCell', seqI]) (by unfold maxLen; omega) (by omega) (by simp; omega) ?_; intro v' wn hownN hgN _)
      have hbN := (((hb.trans (hbc.mono (by omega))).alloc (by simp; omega) (.cells #[seqI wr.heap.size] 98)).grown hgN (by simp; omega) (fun j hj => (hrow2.lt j hj).1))
      have hst := HROW.out.step rfl hgN hownN
      go_wp2_with fail
      go_roundw
      case rel => exact ⟨bs ++ [wr.heap.size], by simp; omega, by rw [List.length_append]; go_num, hst, hbN⟩
      case measure => simp [intOf]; omega
    · have hbn : bs.length = n + 1 := by omega
      rw [hbn]
      have hlti : ¬ ((n : Int) + 1 < (n : Int) + 1) := by omega
      have hlti2 : decide (((n + 1 : Nat) : Int) < (n : Int) + 1) = false := decide_eq_false (by omega)
      have hsq := hrow.seqs rfl
      have q := QF.out O Pb cp cb B wr (by rw [hbn] at hsq; exact hsq) p0 (CS.out.below (hb.mono (by omega)))
      unfold FirstIPost goodI at q
      have Q := Lib.hid q
      have hbe := HB0.out.trans (hb.mono (by have := HB0.out.size; omega))
      clear q hrow hsq QF CS hbn
      go_wp2_with fail
      refine Q.out.mono ?_
      rintro e w' ⟨v, b, rfl, q1, q2, hb2⟩
      have hbf := hbe.trans (hb2.mono hbe.size)
      have hbes := hbe.size
      have hfin : w'.ownsRow w.heap.size 3 1 v WL.length (WL.map (Value.int .i64)) ∧ WL.length ≤ 6 := by
        cases b with
        | true =>
          obtain ⟨x, h1, h2, h3⟩ := q1 rfl
          rw [HWX.out _ h1]
          exact ⟨h3.mono hbes, h2⟩
        | false =>
          obtain ⟨rfl, h1⟩ := q2 rfl
          rw [HWX.out _ h1]
          exact ⟨World.ownsRow_nil _ _ _ _, Nat.zero_le _⟩
      have HF := Lib.hid hfin
      clear q1 q2 hfin Q
      go_wp2_with fail
      go_ret2
      exact ⟨v, rfl, HF.out.1, HF.out.2, hbf⟩

set_option maxRecDepth 100000 in
set_option maxHeartbeats 1600000 in
theorem pWrong_any (A : Option Addr) (n c : Nat) (ss : List ByteArray) (w : World) (hL : LaidErr w) (hn : n = ss.length) (hx : Cells w A (ss.map Value.string)) :
    Calls Tryz.prog 20 #[.slice A n c] w (WrongAns ss w) := by
  by_cases hle : listErr ss = 0
  · exact Wrong_ok A n c ss w hn hle hx
  · have HL := Lib.hid hL
    have qr := readList_err A n c ss w hn hle hx
    unfold ListErrAns at qr
    have QR := Lib.hid qr
    unfold WrongAns wrongL
    rw [if_neg hle]
    generalize listErr ss = E at *
    have QE := Lib.hid (fun W h => codeOf_err E W h)
    clear hx hL hle hn qr
    go_enter Tryz.func20, Tryz.ntmps20
    go_wp2_with fail
    refine QR.out.mono ?_
    rintro e w1 ⟨rfl, hb1⟩
    have hb2 := hb1.alloc (o := .cells #[.slice none 0 0] 76) hb1.size
    go_wp2_with fail
    refine (QE.out _ (HL.out.below hb2)).mono ?_
    rintro e w3 ⟨rfl, hb4⟩
    have hb5 := hb2.trans (hb4.mono hb2.size)
    go_wp2_with fail
    go_ret2
    exact ⟨_, rfl, World.ownsRow_nil _ _ _ _, Nat.zero_le _, hb5⟩
end Go.Proofs.YtljlkhaolfihjaaGreatDoor
