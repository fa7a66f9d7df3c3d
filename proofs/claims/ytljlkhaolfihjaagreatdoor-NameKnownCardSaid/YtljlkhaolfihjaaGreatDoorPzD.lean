/- The shortest abbreviation and the column's, the program's way and the reference's. Nothing of the program's code. -/
import Derived.Test.YtljlkhaolfihjaaGreatDoorSpecZ
import Derived.Test.YtljlkhaolfihjaaGreatDoorPzC
import Derived.Test.YtljlkhaolfihjaaGreatDoorPgS
namespace Go.Proofs.YtljlkhaolfihjaaGreatDoor

theorem fine_ok (ss : List ByteArray) (i : Nat) (hi : i < ss.length) (a : ByteArray) : fineG (othersK ss i) a.data.toList = okAll ss (keyS ss[i]) a := by
  have hk : Sp.key (at' ss i) = (keyS ss[i]).data.toList := by rw [at_get ss i hi]; rfl
  rw [Bool.eq_iff_iff]
  unfold fineG okAll othersK
  rw [hk]
  simp only [List.all_eq_true, List.mem_filter, List.mem_map, decide_eq_true_eq]
  constructor
  · intro h x hx
    unfold okOne
    rw [Bool.or_eq_true]
    by_cases he : (keyS x).data.toList = (keyS ss[i]).data.toList
    · left
      rw [beq_iff_eq, ByteArray.toList_eq, ByteArray.toList_eq]
      exact he
    · right
      exact h _ ⟨⟨x, hx, rfl⟩, he⟩
  · rintro h o ⟨⟨x, hx, rfl⟩, hne⟩
    have h1 := h x hx
    unfold okOne at h1
    rw [Bool.or_eq_true] at h1
    rcases h1 with h1 | h1
    · rw [beq_iff_eq, ByteArray.toList_eq, ByteArray.toList_eq] at h1
      exact absurd h1 hne
    · exact h1

/-- The first fine one of m + 1 letters and up, f numbers of letters. -/
def findUp (q : List UInt8 → Bool) (k : List UInt8) : Nat → Nat → Option (List UInt8)
  | 0, _ => none
  | f + 1, m => match (cutsG k (m + 1)).find? q with
    | some a => some a
    | none => findUp q k f (m + 1)
theorem flat_up (q : List UInt8 → Bool) (k : List UInt8) : ∀ f m, ((List.range' m f).map fun m => cutsG k (m + 1)).flatten.find? q = findUp q k f m
  | 0, m => rfl
  | f + 1, m => by
    rw [List.range'_succ, List.map_cons, List.flatten_cons, List.find?_append, flat_up q k f (m + 1)]
    show _ = (match (cutsG k (m + 1)).find? q with | some a => some a | none => findUp q k f (m + 1))
    cases (cutsG k (m + 1)).find? q <;> rfl
/-- The first fine one of n letters and down. -/
def findDown (q : List UInt8 → Bool) (k : List UInt8) : Nat → Option (List UInt8)
  | 0 => none
  | n + 1 => match (cutsG k (n + 1)).find? q with
    | some a => some a
    | none => findDown q k n
theorem flat_down (q : List UInt8 → Bool) (k : List UInt8) : ∀ n, ((List.range n).map fun m => cutsG k (n - m)).flatten.find? q = findDown q k n
  | 0 => rfl
  | n + 1 => by
    have e : (List.range (n + 1)).map (fun m => cutsG k (n + 1 - m)) = cutsG k (n + 1) :: (List.range n).map fun m => cutsG k (n - m) := by
      rw [List.range_succ_eq_map, List.map_cons, List.map_map]
      congr 1
      refine List.map_congr_left fun m _ => ?_
      show cutsG k (n + 1 - (m + 1)) = cutsG k (n - m)
      rw [Nat.add_sub_add_right]
    rw [e, List.flatten_cons, List.find?_append, flat_down q k n]
    show _ = (match (cutsG k (n + 1)).find? q with | some a => some a | none => findDown q k n)
    cases (cutsG k (n + 1)).find? q <;> rfl

def ansOf : Option (List UInt8) → ByteArray × Int
  | none => (ByteArray.empty, 11)
  | some a => (⟨(a ++ [46]).toArray⟩, 0)
theorem join_point (a : List UInt8) : (⟨a.toArray⟩ : ByteArray) ++ ⟨#[46]⟩ = ⟨(a ++ [46]).toArray⟩ := bz_inj (by rw [ByteArray.data_append, Array.toList_append])

theorem from_find (ss : List ByteArray) (S : ByteArray) (q : List UInt8 → Bool) (hq : ∀ a : ByteArray, q a.data.toList = okAll ss S a) : ∀ f m, S.size ≤ m + f + 1 → fromB ss S f m = ansOf (findUp q S.data.toList (S.size - 1 - m) m)
  | 0, m, h => by
    rw [show S.size - 1 - m = 0 from by omega]
    rfl
  | f + 1, m, h => by
    unfold fromB
    by_cases hm : m + 1 < S.size
    · have hb := best_find ss S q hq m hm
      rw [show S.size - 1 - m = (S.size - 1 - (m + 1)) + 1 from by omega]
      have hbp : bestP ss S m = ((bestF ss S m).1 ++ ⟨#[46]⟩, (bestF ss S m).2) := by unfold bestP; rw [if_neg (by omega)]
      unfold findUp
      rw [hbp, hb]
      cases (cutsG S.data.toList (m + 1)).find? q with
      | none =>
        show fromB ss S f (m + 1) = _
        rw [from_find ss S q hq f (m + 1) (by omega)]
      | some a =>
        show ((⟨a.toArray⟩ : ByteArray) ++ ⟨#[46]⟩, (0 : Int)) = _
        rw [join_point]
        rfl
    · have hb : bestP ss S m = (ByteArray.empty, false) := by unfold bestP; rw [if_pos (by omega)]
      rw [hb]
      show fromB ss S f (m + 1) = _
      rw [from_find ss S q hq f (m + 1) (by omega), show S.size - 1 - m = 0 from by omega, show S.size - 1 - (m + 1) = 0 from by omega]
      rfl
theorem down_find (ss : List ByteArray) (S : ByteArray) (q : List UInt8 → Bool) (hq : ∀ a : ByteArray, q a.data.toList = okAll ss S a) : ∀ n, n < S.size → downB ss S n = ansOf (findDown q S.data.toList n)
  | 0, _ => rfl
  | n + 1, h => by
    unfold downB findDown
    have hb := best_find ss S q hq n h
    have hbp : bestP ss S n = ((bestF ss S n).1 ++ ⟨#[46]⟩, (bestF ss S n).2) := by unfold bestP; rw [if_neg (by omega)]
    rw [hbp, hb]
    cases (cutsG S.data.toList (n + 1)).find? q with
    | none =>
      show downB ss S n = _
      rw [down_find ss S q hq n (by omega)]
    | some a =>
      show ((⟨a.toArray⟩ : ByteArray) ++ ⟨#[46]⟩, (0 : Int)) = _
      rw [join_point]
      rfl

theorem first_ans (o : List (List UInt8)) (s : List (List (List UInt8))) : ((⟨(firstG o s).1.toArray⟩ : ByteArray), (firstG o s).2) = ansOf (s.flatten.find? (fineG o)) := by
  unfold firstG
  cases s.flatten.find? (fineG o) <;> rfl

theorem first_ok : ∀ (ss : List ByteArray), firstErr ss = 0 → ∀ s, s ∈ ss → Sp.check s.data.toList = 0
  | [], _, s, hs => by cases hs
  | x :: t, h, s, hs => by
    unfold firstErr at h
    by_cases hc : Sp.check x.data.toList = 0
    · rw [if_pos hc] at h
      rcases List.mem_cons.1 hs with rfl | hs
      · exact hc
      · exact first_ok t h s hs
    · rw [if_neg hc] at h
      exact absurd h hc
theorem check_keys (ss : List ByteArray) (h : listErr ss = 0) (i : Nat) (hi : i < ss.length) : (keyS ss[i]).size ≤ 12 := by
  have hc : Sp.check ss[i].data.toList = 0 := by
    unfold listErr at h
    split at h
    · cases h
    · exact first_ok ss h _ (List.getElem_mem hi)
  have h1 := check_size hc
  have h2 := latP_flat_le ss[i].data.toList
  have h3 := latP_flat hc
  show (Sp.key ss[i].data.toList).toArray.size ≤ 12
  rw [List.size_toArray, ← h3]
  have := bz_len ss[i]
  omega

/-- The same shortest abbreviation. -/
theorem shortest_eq (ss : List ByteArray) (i : Nat) (hi : i < ss.length) (h : listErr ss = 0) : shortestP ss (i : Int) = (⟨(shortestG ss i).1.toArray⟩, (shortestG ss i).2) := by
  have hv := (check_keys ss h i hi)
  have e1 : shortestP ss (i : Int) = fromB ss (keyS ss[i]) 12 0 := by
    unfold shortestP
    rw [if_pos h, if_neg (by omega)]
    rw [show ((i : Int)).toNat = i from by omega, List.getElem?_eq_getElem hi]
    rfl
  have hk : Sp.key (at' ss i) = (keyS ss[i]).data.toList := by rw [at_get ss i hi]; rfl
  have hz := bz_len (keyS ss[i])
  rw [e1, from_find ss (keyS ss[i]) (fineG (othersK ss i)) (fun a => fine_ok ss i hi a) 12 0 (by omega)]
  unfold shortestG
  rw [first_ans, List.range_eq_range', flat_up, hk, hz]
  rfl

/-- The same in a column. -/
theorem fit_eq (ss : List ByteArray) (i wd : Nat) (hi : i < ss.length) (h : listErr ss = 0) (h1 : 1 ≤ wd) : fitP ss (i : Int) (wd : Int) = (⟨(fitG ss i wd).1.toArray⟩, (fitG ss i wd).2) := by
  have e1 : fitP ss (i : Int) (wd : Int) = fitAt ss (keyS ss[i]) (wd : Int) := by
    unfold fitP
    rw [if_pos h, if_neg (by omega)]
    rw [show ((i : Int)).toNat = i from by omega, List.getElem?_eq_getElem hi]
    rfl
  have hk : Sp.key (at' ss i) = (keyS ss[i]).data.toList := by rw [at_get ss i hi]; rfl
  have hz := bz_len (keyS ss[i])
  rw [e1]
  unfold fitAt fitG
  rw [if_neg (by omega), hk, hz]
  by_cases hw : (keyS ss[i]).size ≤ wd
  · rw [if_pos (show ((keyS ss[i]).size : Int) ≤ (wd : Int) by omega)]
    simp only [if_pos hw] <;> rfl
  · rw [if_neg (show ¬ ((keyS ss[i]).size : Int) ≤ (wd : Int) by omega), if_neg hw, show ((wd : Int)).toNat = wd from by omega, first_ans, flat_down, down_find ss (keyS ss[i]) (fineG (othersK ss i)) (fun a => fine_ok ss i hi a) _ (by omega)]
end Go.Proofs.YtljlkhaolfihjaaGreatDoor

/- Shortest and Fit of any list, any index, any width. -/
namespace Go.Proofs.YtljlkhaolfihjaaGreatDoor
open Go.RowKit Go.Shelf

/-- What beginLine gives where it gives no line. -/
def LineErr (c : Int) (w : World) (e : Ending) (w' : World) : Prop :=
  e = .returned (.tuple #[.agg #[.string ⟨#[]⟩, .slice none 0 0], .int .i64 c]) ∧ Below w.heap.size w w'

set_option maxRecDepth 100000 in
set_option maxHeartbeats 1600000 in
theorem beginLine_list (A : Option Addr) (n c : Nat) (i : Int) (ss : List ByteArray) (w : World) (hL : LaidErr w) (hn : n = ss.length) (hv : listErr ss ≠ 0) (hx : Cells w A (ss.map Value.string)) :
    Calls Tryz.prog 72 #[.slice A n c, .int .i64 i] w (LineErr (listErr ss) w) := by
  have Q := Lib.hid (fun W h => readList_err A n c ss W hn hv h)
  have HX := Lib.hid hx
  have HL := Lib.hid hL
  generalize listErr ss = E at *
  clear hn hv hx hL
  unfold LineErr
  have hbV : Below w.heap.size w (w.alloc (.cells #[.string ⟨#[]⟩, .slice none 0 0] 119)) := (Below.refl _ _).alloc (Nat.le_refl _) _
  have hr := heap_alloc_new w (.cells #[.string ⟨#[]⟩, .slice none 0 0] 119)
  have hVs : (w.alloc (.cells #[.string ⟨#[]⟩, .slice none 0 0] 119)).heap.size = w.heap.size + 1 := by simp
  go_enter Tryz.func72, Tryz.ntmps72
  go_wp2_with fail
  generalize w.alloc (.cells #[.string ⟨#[]⟩, .slice none 0 0] 119) = V at *
  refine (Q.out _ (HX.out.below hbV)).mono ?_
  rintro e w1 ⟨rfl, hb1⟩
  have hb2 := hbV.trans (hb1.mono hbV.size)
  have hr1 := (hb1.block _ (by omega)).trans hr
  clear Q hr hbV
  go_wp2_with fail
  refine (codeOf_err E _ (HL.out.below hb2)).mono ?_
  rintro e w2 ⟨rfl, hb3⟩
  have hb4 := hb2.trans (hb3.mono hb2.size)
  have hr2 := (hb3.block _ (Array.getElem?_eq_some_iff.1 hr1).1).trans hr1
  obtain ⟨c0, c1, f0, f1⟩ := block2_cells hr2
  obtain ⟨z0, z1, _, _⟩ := block2_cells (block2 hr2 (.string ⟨#[]⟩) (.slice none 0 0))
  have hbb := (hb4.setCell (p := ⟨w.heap.size, 0, none⟩) (Nat.le_refl _) (.string ⟨#[]⟩)).setCell (p := ⟨w.heap.size, 1, none⟩) (Nat.le_refl _) (.slice none 0 0)
  have Z0 := Lib.hid z0
  have Z1 := Lib.hid z1
  clear z0 z1 hb1 hb3 hr1
  go_wp2_with fail
  have z0 := Z0.out
  have z1 := Z1.out
  exact bodyPost_ret (v := .tuple #[.agg #[.string ⟨#[]⟩, .slice none 0 0], .int .i64 E]) (by simp [results, Tryz.results72, go_sem, z0, z1]) rfl ⟨rfl, hbb⟩

set_option maxRecDepth 100000 in
set_option maxHeartbeats 1600000 in
theorem beginLine_at (A : Option Addr) (n c : Nat) (i : Int) (ss : List ByteArray) (w : World) (hn : n = ss.length) (hb : n ≤ 6) (hv : AllOk ss) (hx : Cells w A (ss.map Value.string)) (hi : i < 0 ∨ (n : Int) ≤ i) :
    Calls Tryz.prog 72 #[.slice A n c, .int .i64 i] w (LineErr 3 w) := by
  have Q := Lib.hid (fun W h => readList_ok A n c ss W hn hb hv h)
  have HX := Lib.hid hx
  have HN := Lib.hid hn
  clear hn hv hx
  unfold LineErr
  have hbV : Below w.heap.size w (w.alloc (.cells #[.string ⟨#[]⟩, .slice none 0 0] 119)) := (Below.refl _ _).alloc (Nat.le_refl _) _
  have hr := heap_alloc_new w (.cells #[.string ⟨#[]⟩, .slice none 0 0] 119)
  have hVs : (w.alloc (.cells #[.string ⟨#[]⟩, .slice none 0 0] 119)).heap.size = w.heap.size + 1 := by simp
  go_enter Tryz.func72, Tryz.ntmps72
  go_wp2_with fail
  generalize w.alloc (.cells #[.string ⟨#[]⟩, .slice none 0 0] 119) = V at *
  refine (Q.out _ (HX.out.below hbV)).mono ?_
  rintro e w1 ⟨o, rfl, ho, hb1⟩
  rw [← HN.out] at ho
  obtain ⟨O, cap, rfl⟩ := own_form ho
  have hb2 := hbV.trans (hb1.mono hbV.size)
  have hr1 := (hb1.block _ (by omega)).trans hr
  obtain ⟨c0, c1, f0, f1⟩ := block2_cells hr1
  obtain ⟨z0, z1, _, _⟩ := block2_cells (block2 hr1 (.string ⟨#[]⟩) (.slice none 0 0))
  have hbb := (hb2.setCell (p := ⟨w.heap.size, 0, none⟩) (Nat.le_refl _) (.string ⟨#[]⟩)).setCell (p := ⟨w.heap.size, 1, none⟩) (Nat.le_refl _) (.slice none 0 0)
  have Z0 := Lib.hid z0
  have Z1 := Lib.hid z1
  clear z0 z1 Q hr hbV ho hb1
  by_cases h0 : i < 0
  · have d0 : decide (i < 0) = true := decide_eq_true h0
    go_wp2_with fail
    have z0 := Z0.out
    have z1 := Z1.out
    exact bodyPost_ret (v := .tuple #[.agg #[.string ⟨#[]⟩, .slice none 0 0], .int .i64 3]) (by simp [results, Tryz.results72, go_sem, z0, z1]) rfl ⟨rfl, hbb⟩
  · have h1 : (n : Int) ≤ i := by omega
    have d0 : decide (i < 0) = false := decide_eq_false h0
    have d1 : decide ((n : Int) ≤ i) = true := decide_eq_true h1
    go_wp2_with fail
    have z0 := Z0.out
    have z1 := Z1.out
    exact bodyPost_ret (v := .tuple #[.agg #[.string ⟨#[]⟩, .slice none 0 0], .int .i64 3]) (by simp [results, Tryz.results72, go_sem, z0, z1]) rfl ⟨rfl, hbb⟩

set_option maxRecDepth 100000 in
set_option maxHeartbeats 800000 in
theorem Shortest_none (A : Option Addr) (n c : Nat) (i E : Int) (w : World) (hE : E ≠ 0) (Q : Hid (∀ W, Below w.heap.size w W → Calls Tryz.prog 72 #[.slice A n c, .int .i64 i] W (LineErr E W))) :
    Calls Tryz.prog 33 #[.slice A n c, .int .i64 i] w (StrErrPost (ByteArray.empty, E) w) := by
  have m1 : (E != 0) = true := by simp [hE]
  unfold StrErrPost
  unfold LineErr at Q
  go_enter Tryz.func33, Tryz.ntmps33
  go_wp2_with fail
  refine (Q.out _ (Below.refl _ _)).mono ?_
  rintro e w1 ⟨rfl, hb1⟩
  have hb2 := hb1.alloc (o := .cells #[.string ⟨#[]⟩, .slice none 0 0] 119) hb1.size
  go_wp2_with fail
  go_ret2
  exact ⟨rfl, hb2⟩
set_option maxRecDepth 100000 in
set_option maxHeartbeats 800000 in
theorem Fit_none (A : Option Addr) (n c : Nat) (i wd E : Int) (w : World) (hE : E ≠ 0) (Q : Hid (∀ W, Below w.heap.size w W → Calls Tryz.prog 72 #[.slice A n c, .int .i64 i] W (LineErr E W))) :
    Calls Tryz.prog 34 #[.slice A n c, .int .i64 i, .int .i64 wd] w (StrErrPost (ByteArray.empty, E) w) := by
  have m1 : (E != 0) = true := by simp [hE]
  unfold StrErrPost
  unfold LineErr at Q
  go_enter Tryz.func34, Tryz.ntmps34
  go_wp2_with fail
  refine (Q.out _ (Below.refl _ _)).mono ?_
  rintro e w1 ⟨rfl, hb1⟩
  have hb2 := hb1.alloc (o := .cells #[.string ⟨#[]⟩, .slice none 0 0] 119) hb1.size
  go_wp2_with fail
  go_ret2
  exact ⟨rfl, hb2⟩

set_option maxRecDepth 100000 in
set_option maxHeartbeats 800000 in
theorem Fit_wide (A : Option Addr) (n c i : Nat) (wd : Int) (ss : List ByteArray) (w : World) (hn : n = ss.length) (hb : n ≤ 6) (hv : AllOk ss) (hx : Cells w A (ss.map Value.string)) (hi : i < n) (hw : wd < 1 ∨ (((keyS (ss.getD i ByteArray.empty)).size : Nat) : Int) ≤ wd) :
    Calls Tryz.prog 34 #[.slice A n c, .int .i64 i, .int .i64 wd] w (StrErrPost (if wd < 1 then (ByteArray.empty, 1) else (keyS (ss.getD i ByteArray.empty), 0)) w) := by
  have QB := Lib.hid (beginLine_ok A n c i ss w hn hb hv hx hi)
  unfold LinePost at QB
  unfold StrErrPost
  generalize othersB ss i = os at *
  generalize keyS (ss.getD i ByteArray.empty) = K at *
  clear hn hv hx
  by_cases h1 : wd < 1
  · rw [if_pos h1]
    have d1 : decide (wd < 1) = true := decide_eq_true h1
    go_enter Tryz.func34, Tryz.ntmps34
    go_wp2_with fail
    refine QB.out.mono ?_
    rintro e w1 ⟨B, n2, c2, rfl, hn2, hcs, hb1⟩
    subst hn2
    have hb2 := hb1.alloc (o := .cells #[.string K, .slice B os.length c2] 119) hb1.size
    clear hcs
    go_wp2_with fail
    go_ret2
    exact ⟨rfl, hb2⟩
  · rw [if_neg h1]
    have h2 : (K.size : Int) ≤ wd := by
      rcases hw with h | h
      · exact absurd h h1
      · exact h
    have d1 : decide (wd < 1) = false := decide_eq_false h1
    have d2 : decide ((K.size : Int) ≤ wd) = true := decide_eq_true h2
    go_enter Tryz.func34, Tryz.ntmps34
    go_wp2_with fail
    refine QB.out.mono ?_
    rintro e w1 ⟨B, n2, c2, rfl, hn2, hcs, hb1⟩
    subst hn2
    have hb2 := hb1.alloc (o := .cells #[.string K, .slice B os.length c2] 119) hb1.size
    have hr := heap_alloc_new w1 (.cells #[.string K, .slice B os.length c2] 119)
    obtain ⟨p0, p1, _, _⟩ := block2_cells hr
    clear hcs hr
    go_wp2_with fail
    go_ret2
    exact ⟨rfl, hb2⟩

theorem found_ans {p : List UInt8 × Int} {f : FuncId} {args : Array Value} {w : World} (h : Calls Tryz.prog f args w (FoundPost p w)) : Calls Tryz.prog f args w (StrErrPost (⟨p.1.toArray⟩, p.2) w) := by
  refine h.mono ?_
  rintro e w' ⟨s, h1, rfl, hb⟩
  refine ⟨?_, hb⟩
  rw [← h1]
theorem pShortest_any (A : Option Addr) (n c : Nat) (ss : List ByteArray) (i : Int) (w : World) (hL : LaidErr w) (hn : n = ss.length) (hx : Cells w A (ss.map Value.string)) :
    Calls Tryz.prog 33 #[.slice A n c, .int .i64 i] w (StrErrPost (shortestP ss i) w) := by
  by_cases h : listErr ss = 0
  · obtain ⟨l6, hok⟩ := list_facts h
    by_cases hi : i < 0 ∨ (n : Int) ≤ i
    · have e : shortestP ss i = (ByteArray.empty, 3) := by unfold shortestP; rw [if_pos h, if_pos (by rw [← hn]; exact hi)]
      rw [e]
      exact Shortest_none A n c i 3 w (by decide) (Lib.hid fun W hW => beginLine_at A n c i ss W hn (by omega) hok (hx.below hW) hi)
    · obtain ⟨k, rfl⟩ : ∃ k : Nat, i = (k : Int) := ⟨i.toNat, by omega⟩
      have hk : k < ss.length := by omega
      rw [shortest_eq ss k hk h]
      exact found_ans (Shortest_ok A n c k ss w hn (by omega) hok hx (by omega))
  · have e : shortestP ss i = (ByteArray.empty, listErr ss) := by unfold shortestP; rw [if_neg h]
    rw [e]
    exact Shortest_none A n c i _ w h (Lib.hid fun W hW => beginLine_list A n c i ss W (hL.below hW) hn h (hx.below hW))
theorem pFit_any (A : Option Addr) (n c : Nat) (ss : List ByteArray) (i width : Int) (w : World) (hL : LaidErr w) (hn : n = ss.length) (hx : Cells w A (ss.map Value.string)) :
    Calls Tryz.prog 34 #[.slice A n c, .int .i64 i, .int .i64 width] w (StrErrPost (fitP ss i width) w) := by
  by_cases h : listErr ss = 0
  · obtain ⟨l6, hok⟩ := list_facts h
    by_cases hi : i < 0 ∨ (n : Int) ≤ i
    · have e : fitP ss i width = (ByteArray.empty, 3) := by unfold fitP; rw [if_pos h, if_pos (by rw [← hn]; exact hi)]
      rw [e]
      exact Fit_none A n c i width 3 w (by decide) (Lib.hid fun W hW => beginLine_at A n c i ss W hn (by omega) hok (hx.below hW) hi)
    · obtain ⟨k, rfl⟩ : ∃ k : Nat, i = (k : Int) := ⟨i.toNat, by omega⟩
      have hk : k < ss.length := by omega
      have hg : ss.getD k ByteArray.empty = ss[k] := by rw [List.getD_eq_getElem?_getD, List.getElem?_eq_getElem hk]; rfl
      have e0 : fitP ss (k : Int) width = fitAt ss (keyS ss[k]) width := by
        unfold fitP
        rw [if_pos h, if_neg (by omega), show ((k : Int)).toNat = k from by omega, List.getElem?_eq_getElem hk]
        rfl
      by_cases hw : width < 1 ∨ ((keyS ss[k]).size : Int) ≤ width
      · have q := Fit_wide A n c k width ss w hn (by omega) hok hx (by omega) (by rw [hg]; exact hw)
        rw [hg] at q
        have e : fitP ss (k : Int) width = if width < 1 then (ByteArray.empty, 1) else (keyS ss[k], 0) := by
          rw [e0]
          unfold fitAt
          by_cases h1 : width < 1
          · rw [if_pos h1, if_pos h1]
          · rw [if_neg h1, if_neg h1, if_pos (by rcases hw with hw | hw; · exact absurd hw h1
                                                 · exact hw)]
        rw [e]
        exact q
      · obtain ⟨wd, rfl⟩ : ∃ wd : Nat, width = (wd : Int) := ⟨width.toNat, by omega⟩
        rw [fit_eq ss k wd hk h (by omega)]
        exact found_ans (Fit_ok A n c k wd ss w hn (by omega) hok hx (by omega) (by omega) (by rw [hg]; omega))
  · have e : fitP ss i width = (ByteArray.empty, listErr ss) := by unfold fitP; rw [if_neg h]
    rw [e]
    exact Fit_none A n c i width _ w h (Lib.hid fun W hW => beginLine_list A n c i ss W (hL.below hW) hn h (hx.below hW))
end Go.Proofs.YtljlkhaolfihjaaGreatDoor
