/- The shortest abbreviation and the column's, the program's way and the reference's. Nothing of the program's code. -/
import Derived.Test.YtlhiekeolmgilaaGreatDoorSpecZ
namespace Go.Proofs.YtlhiekeolmgilaaGreatDoor

theorem fine_ok (ss : List ByteArray) (i : Nat) (hi : i < ss.length) (a : ByteArray) : fineG (othersK ss i) a.data.toList = okAll ss (keyS ss[i]) a := by
  have hk : Sp.key (at' ss i) = (keyS ss[i]).data.toList := by rw [at_get ss i hi]; rfl
  rw [Bool.eq_iff_iff]
  unfold fineG okAll othersK
  rw [hk]
  simp only [List.all_eq_true, List.mem_filter, List.mem_map, decide_eq_true_eq]
  constructor
  · intro h x hx
    unfold okOne
    rw [Bool.or_eq_true]
    by_cases he : (keyS x).data.toList = (keyS ss[i]).data.toList
    · left
      rw [beq_iff_eq, ByteArray.toList_eq, ByteArray.toList_eq]
      exact he
    · right
      exact h _ ⟨⟨x, hx, rfl⟩, he⟩
  · rintro h o ⟨⟨x, hx, rfl⟩, hne⟩
    have h1 := h x hx
    unfold okOne at h1
    rw [Bool.or_eq_true] at h1
    rcases h1 with h1 | h1
    · rw [beq_iff_eq, ByteArray.toList_eq, ByteArray.toList_eq] at h1
      exact absurd h1 hne
    · exact h1

/-- The first fine one of m + 1 letters and up, f numbers of letters. -/
def findUp (q : List UInt8 → Bool) (k : List UInt8) : Nat → Nat → Option (List UInt8)
  | 0, _ => none
  | f + 1, m => match (cutsG k (m + 1)).find? q with
    | some a => some a
    | none => findUp q k f (m + 1)
theorem flat_up (q : List UInt8 → Bool) (k : List UInt8) : ∀ f m, ((List.range' m f).map fun m => cutsG k (m + 1)).flatten.find? q = findUp q k f m
  | 0, m => rfl
  | f + 1, m => by
    rw [List.range'_succ, List.map_cons, List.flatten_cons, List.find?_append, flat_up q k f (m + 1)]
    show _ = (match (cutsG k (m + 1)).find? q with | some a => some a | none => findUp q k f (m + 1))
    cases (cutsG k (m + 1)).find? q <;> rfl
/-- The first fine one of n letters and down. -/
def findDown (q : List UInt8 → Bool) (k : List UInt8) : Nat → Option (List UInt8)
  | 0 => none
  | n + 1 => match (cutsG k (n + 1)).find? q with
    | some a => some a
    | none => findDown q k n
theorem flat_down (q : List UInt8 → Bool) (k : List UInt8) : ∀ n, ((List.range n).map fun m => cutsG k (n - m)).flatten.find? q = findDown q k n
  | 0 => rfl
  | n + 1 => by
    have e : (List.range (n + 1)).map (fun m => cutsG k (n + 1 - m)) = cutsG k (n + 1) :: (List.range n).map fun m => cutsG k (n - m) := by
      rw [List.range_succ_eq_map, List.map_cons, List.map_map]
      congr 1
      refine List.map_congr_left fun m _ => ?_
      show cutsG k (n + 1 - (m + 1)) = cutsG k (n - m)
      rw [Nat.add_sub_add_right]
    rw [e, List.flatten_cons, List.find?_append, flat_down q k n]
    show _ = (match (cutsG k (n + 1)).find? q with | some a => some a | none => findDown q k n)
    cases (cutsG k (n + 1)).find? q <;> rfl

def ansOf : Option (List UInt8) → ByteArray × Int
  | none => (ByteArray.empty, 11)
  | some a => (⟨(a ++ [46]).toArray⟩, 0)
theorem join_point (a : List UInt8) : (⟨a.toArray⟩ : ByteArray) ++ ⟨#[46]⟩ = ⟨(a ++ [46]).toArray⟩ := bz_inj (by rw [ByteArray.data_append, Array.toList_append])

theorem from_find (ss : List ByteArray) (S : ByteArray) (q : List UInt8 → Bool) (hq : ∀ a : ByteArray, q a.data.toList = okAll ss S a) : ∀ f m, S.size ≤ m + f + 1 → fromB ss S f m = ansOf (findUp q S.data.toList (S.size - 1 - m) m)
  | 0, m, h => by
    rw [show S.size - 1 - m = 0 from by omega]
    rfl
  | f + 1, m, h => by
    unfold fromB
    by_cases hm : m + 1 < S.size
    · have hb := best_find ss S q hq m hm
      rw [show S.size - 1 - m = (S.size - 1 - (m + 1)) + 1 from by omega]
      have hbp : bestP ss S m = ((bestF ss S m).1 ++ ⟨#[46]⟩, (bestF ss S m).2) := by unfold bestP; rw [if_neg (by omega)]
      unfold findUp
      rw [hbp, hb]
      cases (cutsG S.data.toList (m + 1)).find? q with
      | none =>
        show fromB ss S f (m + 1) = _
        rw [from_find ss S q hq f (m + 1) (by omega)]
      | some a =>
        show ((⟨a.toArray⟩ : ByteArray) ++ ⟨#[46]⟩, (0 : Int)) = _
        rw [join_point]
        rfl
    · have hb : bestP ss S m = (ByteArray.empty, false) := by unfold bestP; rw [if_pos (by omega)]
      rw [hb]
      show fromB ss S f (m + 1) = _
      rw [from_find ss S q hq f (m + 1) (by omega), show S.size - 1 - m = 0 from by omega, show S.size - 1 - (m + 1) = 0 from by omega]
      rfl
theorem down_find (ss : List ByteArray) (S : ByteArray) (q : List UInt8 → Bool) (hq : ∀ a : ByteArray, q a.data.toList = okAll ss S a) : ∀ n, n < S.size → downB ss S n = ansOf (findDown q S.data.toList n)
  | 0, _ => rfl
  | n + 1, h => by
    unfold downB findDown
    have hb := best_find ss S q hq n h
    have hbp : bestP ss S n = ((bestF ss S n).1 ++ ⟨#[46]⟩, (bestF ss S n).2) := by unfold bestP; rw [if_neg (by omega)]
    rw [hbp, hb]
    cases (cutsG S.data.toList (n + 1)).find? q with
    | none =>
      show downB ss S n = _
      rw [down_find ss S q hq n (by omega)]
    | some a =>
      show ((⟨a.toArray⟩ : ByteArray) ++ ⟨#[46]⟩, (0 : Int)) = _
      rw [join_point]
      rfl

theorem first_ans (o : List (List UInt8)) (s : List (List (List UInt8))) : ((⟨(firstG o s).1.toArray⟩ : ByteArray), (firstG o s).2) = ansOf (s.flatten.find? (fineG o)) := by
  unfold firstG
  cases s.flatten.find? (fineG o) <;> rfl

theorem first_ok : ∀ (ss : List ByteArray), firstErr ss = 0 → ∀ s, s ∈ ss → Sp.check s.data.toList = 0
  | [], _, s, hs => by cases hs
  | x :: t, h, s, hs => by
    unfold firstErr at h
    by_cases hc : Sp.check x.data.toList = 0
    · rw [if_pos hc] at h
      rcases List.mem_cons.1 hs with rfl | hs
      · exact hc
      · exact first_ok t h s hs
    · rw [if_neg hc] at h
      exact absurd h hc
theorem check_keys (ss : List ByteArray) (h : listErr ss = 0) (i : Nat) (hi : i < ss.length) : (keyS ss[i]).size ≤ 12 := by
  have hc : Sp.check ss[i].data.toList = 0 := by
    unfold listErr at h
    split at h
    · cases h
    · exact first_ok ss h _ (List.getElem_mem hi)
  have h1 := check_size hc
  have h2 := latP_flat_le ss[i].data.toList
  have h3 := latP_flat hc
  show (Sp.key ss[i].data.toList).toArray.size ≤ 12
  rw [List.size_toArray, ← h3]
  have := bz_len ss[i]
  omega

/-- The same shortest abbreviation. -/
theorem shortest_eq (ss : List ByteArray) (i : Nat) (hi : i < ss.length) (h : listErr ss = 0) : shortestP ss (i : Int) = (⟨(shortestG ss i).1.toArray⟩, (shortestG ss i).2) := by
  have hv := (check_keys ss h i hi)
  have e1 : shortestP ss (i : Int) = fromB ss (keyS ss[i]) 12 0 := by
    unfold shortestP
    rw [if_pos h, if_neg (by omega)]
    rw [show ((i : Int)).toNat = i from by omega, List.getElem?_eq_getElem hi]
    rfl
  have hk : Sp.key (at' ss i) = (keyS ss[i]).data.toList := by rw [at_get ss i hi]; rfl
  have hz := bz_len (keyS ss[i])
  rw [e1, from_find ss (keyS ss[i]) (fineG (othersK ss i)) (fun a => fine_ok ss i hi a) 12 0 (by omega)]
  unfold shortestG
  rw [first_ans, List.range_eq_range', flat_up, hk, hz]
  rfl

/-- The same in a column. -/
theorem fit_eq (ss : List ByteArray) (i wd : Nat) (hi : i < ss.length) (h : listErr ss = 0) (h1 : 1 ≤ wd) : fitP ss (i : Int) (wd : Int) = (⟨(fitG ss i wd).1.toArray⟩, (fitG ss i wd).2) := by
  have e1 : fitP ss (i : Int) (wd : Int) = fitAt ss (keyS ss[i]) (wd : Int) := by
    unfold fitP
    rw [if_pos h, if_neg (by omega)]
    rw [show ((i : Int)).toNat = i from by omega, List.getElem?_eq_getElem hi]
    rfl
  have hk : Sp.key (at' ss i) = (keyS ss[i]).data.toList := by rw [at_get ss i hi]; rfl
  have hz := bz_len (keyS ss[i])
  rw [e1]
  unfold fitAt fitG
  rw [if_neg (by omega), hk, hz]
  by_cases hw : (keyS ss[i]).size ≤ wd
  · rw [if_pos (show ((keyS ss[i]).size : Int) ≤ (wd : Int) by omega)]
    simp only [if_pos hw] <;> rfl
  · rw [if_neg (show ¬ ((keyS ss[i]).size : Int) ≤ (wd : Int) by omega), if_neg hw, show ((wd : Int)).toNat = wd from by omega, first_ans, flat_down, down_find ss (keyS ss[i]) (fineG (othersK ss i)) (fun a => fine_ok ss i hi a) _ (by omega)]
end Go.Proofs.YtlhiekeolmgilaaGreatDoor
