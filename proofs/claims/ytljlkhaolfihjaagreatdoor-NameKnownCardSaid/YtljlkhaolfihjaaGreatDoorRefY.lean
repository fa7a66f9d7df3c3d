/- The reference of names: the parts of a string that have so many letters. -/
import Derived.Test.YtljlkhaolfihjaaGreatDoorRefT
import Derived.Deep.AppendLies
namespace Go.Proofs.YtljlkhaolfihjaaGreatDoor
open Go.RowKit

/-- All strings of so many letters of a string, in their order. -/
def partsL : Nat → ByteArray → List ByteArray
  | 0, _ => [ByteArray.empty]
  | n + 1, s => (List.range (s.size - n)).flatMap fun i => (partsL n (s.extract (i + 1) s.size)).map (s.extract i (i + 1) ++ ·)

theorem pow_sum (m : Nat) : ∀ k, k ≤ m → ((List.range k).map fun i => 2 ^ (m - (i + 1))).sum + 2 ^ (m - k) ≤ 2 ^ m := by
  intro k
  induction k with
  | zero => intro _; simp
  | succ k ih =>
    intro h
    have h1 := ih (by omega)
    have h2 : 2 ^ (m - k) = 2 ^ (m - (k + 1)) * 2 := by rw [← Nat.pow_succ]; congr 1; omega
    rw [List.range_succ, List.map_append, List.sum_append]
    simp only [List.map_cons, List.map_nil, List.sum_cons, List.sum_nil]
    omega

theorem sum_le {α : Type} (l : List α) (f g : α → Nat) (h : ∀ x, x ∈ l → f x ≤ g x) : (l.map f).sum ≤ (l.map g).sum := by
  induction l with
  | nil => simp
  | cons a t ih =>
    have h1 := h a (by simp)
    have h2 := ih fun x hx => h x (by simp [hx])
    simp only [List.map_cons, List.sum_cons]
    omega

theorem partsL_len (n : Nat) : ∀ s : ByteArray, (partsL n s).length ≤ 2 ^ s.size := by
  induction n with
  | zero => intro s; show 1 ≤ _; exact Nat.one_le_two_pow
  | succ n ih =>
    intro s
    unfold partsL
    rw [List.length_flatMap]
    have h1 : ((List.range (s.size - n)).map fun i => ((partsL n (s.extract (i + 1) s.size)).map (s.extract i (i + 1) ++ ·)).length).sum ≤ ((List.range (s.size - n)).map fun i => 2 ^ (s.size - (i + 1))).sum := by
      refine sum_le _ _ _ fun i hi => ?_
      rw [List.length_map]
      have h2 := ih (s.extract (i + 1) s.size)
      rw [ByteArray.size_extract, Nat.min_self] at h2
      exact h2
    exact Nat.le_trans h1 (Nat.le_trans (Nat.le_add_right _ _) (pow_sum s.size (s.size - n) (by omega)))

def partsAt (n : Nat) (s : ByteArray) (i : Nat) : List ByteArray := (partsL n (s.extract (i + 1) s.size)).map (s.extract i (i + 1) ++ ·)
def partsFrom (n : Nat) (s : ByteArray) (k : Nat) : List ByteArray := ((List.range (s.size - n)).drop k).flatMap (partsAt n s)
theorem partsL_from (n : Nat) (s : ByteArray) : partsL (n + 1) s = partsFrom n s 0 := rfl
theorem partsFrom_step (n : Nat) (s : ByteArray) (k : Nat) (h : k < s.size - n) : partsFrom n s k = partsAt n s k ++ partsFrom n s (k + 1) := by
  unfold partsFrom
  rw [List.drop_eq_getElem_cons (by simpa using h), List.flatMap_cons, List.getElem_range]
theorem partsFrom_end (n : Nat) (s : ByteArray) (k : Nat) (h : s.size - n ≤ k) : partsFrom n s k = [] := by
  unfold partsFrom; rw [List.drop_eq_nil_of_le (by simpa using h)]; rfl

theorem partsL_size (n : Nat) : ∀ (s x : ByteArray), x ∈ partsL n s → x.size ≤ n := by
  induction n with
  | zero => intro s x h; rw [List.mem_singleton.1 h]; exact Nat.le_refl _
  | succ n ih =>
    intro s x h
    obtain ⟨i, _, h⟩ := List.mem_flatMap.1 h
    obtain ⟨y, hy, rfl⟩ := List.mem_map.1 h
    have h1 := ih _ _ hy
    rw [ByteArray.size_append, ByteArray.size_extract]
    omega

end Go.Proofs.YtljlkhaolfihjaaGreatDoor

/- The reference of names: the best abbreviation with so many letters. -/
namespace Go.Proofs.YtljlkhaolfihjaaGreatDoor
open Go.RowKit

/-- Whether some letters stand for no key of a list but one. -/
def okOne (S a x : ByteArray) : Bool := (keyS x).toList == S.toList || !abbrB a.data.toList (keyS x).data.toList
def okAll (ss : List ByteArray) (S a : ByteArray) : Bool := ss.all (okOne S a)
def bestStep (ss : List ByteArray) (S : ByteArray) (acc : ByteArray × Bool) (y : ByteArray) : ByteArray × Bool :=
  if okAll ss S (S.extract 0 1 ++ y) && (!acc.2 || Op.bytesLess (S.extract 0 1 ++ y).toList acc.1.toList) then (S.extract 0 1 ++ y, true) else acc
def bestF (ss : List ByteArray) (S : ByteArray) (m : Nat) : ByteArray × Bool := (partsL m (S.extract 1 S.size)).foldl (bestStep ss S) (ByteArray.empty, false)
def bestP (ss : List ByteArray) (S : ByteArray) (m : Nat) : ByteArray × Bool :=
  if S.size ≤ m + 1 then (ByteArray.empty, false) else ((bestF ss S m).1 ++ ⟨#[46]⟩, (bestF ss S m).2)

theorem all_take' {α : Type} (p : α → Bool) (l : List α) (k : Nat) (hk : k < l.length) : (l.take (k + 1)).all p = ((l.take k).all p && p l[k]) := by
  rw [List.take_succ_eq_append_getElem hk, List.all_append]; simp

def BestPost (p : ByteArray × Bool) (w : World) (e : Ending) (w' : World) : Prop :=
  e = .returned (.tuple #[.string p.1, .bool p.2]) ∧ Below w.heap.size w w'

end Go.Proofs.YtljlkhaolfihjaaGreatDoor

/- The reference of names: the shortest abbreviation. -/
namespace Go.Proofs.YtljlkhaolfihjaaGreatDoor
open Go.RowKit

/-- The best abbreviation with the fewest letters, from so many and one on. -/
def fromB (ss : List ByteArray) (S : ByteArray) : Nat → Nat → ByteArray × Int
  | 0, _ => (ByteArray.empty, 11)
  | f + 1, m => if (bestP ss S m).2 then ((bestP ss S m).1, 0) else fromB ss S f (m + 1)
theorem fromB_step (ss : List ByteArray) (S : ByteArray) (m : Nat) (h : m < 12) :
    fromB ss S (12 - m) m = if (bestP ss S m).2 then ((bestP ss S m).1, 0) else fromB ss S (12 - (m + 1)) (m + 1) := by
  rw [show 12 - m = (12 - (m + 1)) + 1 from by omega]; rfl
def shortestP (ss : List ByteArray) (i : Int) : ByteArray × Int :=
  if listErr ss = 0 then (if i < 0 ∨ (ss.length : Int) ≤ i then (ByteArray.empty, 3) else fromB ss (keyS ((ss[i.toNat]?).getD ByteArray.empty)) 12 0) else (ByteArray.empty, listErr ss)

def StrErrPost (p : ByteArray × Int) (w : World) (e : Ending) (w' : World) : Prop :=
  e = .returned (.tuple #[.string p.1, .int .i64 p.2]) ∧ Below w.heap.size w w'

end Go.Proofs.YtljlkhaolfihjaaGreatDoor

/- The reference of names: what is set in a column. -/
namespace Go.Proofs.YtljlkhaolfihjaaGreatDoor
open Go.RowKit

/-- The best abbreviation with so many letters, or with fewer. -/
def downB (ss : List ByteArray) (S : ByteArray) : Nat → ByteArray × Int
  | 0 => (ByteArray.empty, 11)
  | m + 1 => if (bestP ss S m).2 then ((bestP ss S m).1, 0) else downB ss S m
def fitAt (ss : List ByteArray) (S : ByteArray) (width : Int) : ByteArray × Int :=
  if width < 1 then (ByteArray.empty, 1) else if (S.size : Int) ≤ width then (S, 0) else downB ss S (width.toNat - 1)
def fitP (ss : List ByteArray) (i width : Int) : ByteArray × Int :=
  if listErr ss = 0 then (if i < 0 ∨ (ss.length : Int) ≤ i then (ByteArray.empty, 3) else fitAt ss (keyS ((ss[i.toNat]?).getD ByteArray.empty)) width) else (ByteArray.empty, listErr ss)

end Go.Proofs.YtljlkhaolfihjaaGreatDoor

/- The reference of names: names of the other alphabet that stand for a string. -/
namespace Go.Proofs.YtljlkhaolfihjaaGreatDoor
open Go.RowKit

/-- The letter of the other alphabet with this number, and what it stands for. -/
def letterAt (k : Nat) : UInt8 := UInt8.ofNat (65 + k)
theorem letterAt_nat (k : Nat) (h : k ≤ 26) : (letterAt k).toNat = 65 + k := by
  unfold letterAt; rw [UInt8.toNat_ofNat']; omega
def lets (k : Nat) : List UInt8 := Sp.stands (letterAt k)

/-- Whether a string begins with what a letter stands for. -/
def fitsAt (s : ByteArray) (k : Nat) : Bool := decide (lets k ≠ []) && (decide ((lets k).length ≤ s.size) && ((s.extract 0 (lets k).length).toList == lets k))

/-- All strings of letters of the other alphabet that stand for a string (of at most so many letters). -/
def othersL : Nat → ByteArray → List ByteArray
  | 0, _ => [ByteArray.empty]
  | n + 1, s => if s.size = 0 then [ByteArray.empty] else (List.range 26).flatMap fun k => if fitsAt s k then (othersL n (s.extract (lets k).length s.size)).map (⟨#[letterAt k]⟩ ++ ·) else []

theorem heads (a : UInt8) : (List.range 26).countP (fun k => (lets k).head? == some a) ≤ 2 := by
  have h : ∀ n : Fin 256, (List.range 26).countP (fun k => (lets k).head? == some (UInt8.ofNat n.val)) ≤ 2 := by decide +kernel
  have h2 := h ⟨a.toNat, a.toNat_lt⟩
  rwa [show UInt8.ofNat (⟨a.toNat, a.toNat_lt⟩ : Fin 256).val = a from UInt8.ofNat_toNat] at h2

theorem flat_count {α β : Type} (l : List α) (f : α → List β) (q : α → Bool) (B : Nat) (h : ∀ x, x ∈ l → (f x).length ≤ if q x then B else 0) : (l.flatMap f).length ≤ l.countP q * B := by
  induction l with
  | nil => simp
  | cons a t ih =>
    have h1 := h a (by simp)
    have h2 := ih fun x hx => h x (by simp [hx])
    rw [List.flatMap_cons, List.length_append, List.countP_cons, Nat.add_mul]
    split at h1
    · rename_i hq; rw [if_pos hq]; omega
    · rename_i hq; rw [if_neg hq]; omega

theorem fits_head {s : ByteArray} {k : Nat} (hs : 0 < s.size) (h : fitsAt s k = true) : ((lets k).head? == some s[0]) = true := by
  unfold fitsAt at h
  simp only [Bool.and_eq_true, decide_eq_true_eq, beq_iff_eq] at h
  obtain ⟨h1, h2, h3⟩ := h
  have h0 : 0 < (lets k).length := List.length_pos_iff.2 h1
  rw [ByteArray.toList_eq] at h3
  have h5 : 0 < s.data.toList.length := by simpa using hs
  have h4 : (lets k)[0]? = s.data.toList[0]? := by
    rw [← h3]
    simp [ByteArray.data_extract, h0]
  rw [beq_iff_eq, List.head?_eq_getElem?, h4, List.getElem?_eq_getElem h5]; rfl

theorem othersL_len (n : Nat) : ∀ s : ByteArray, (othersL n s).length ≤ 2 ^ n := by
  induction n with
  | zero => intro s; exact Nat.le_refl 1
  | succ n ih =>
    intro s
    unfold othersL
    split
    · exact Nat.one_le_two_pow
    · rename_i h0
      have hs : 0 < s.size := by omega
      have h1 := flat_count (List.range 26) (fun k => if fitsAt s k then (othersL n (s.extract (lets k).length s.size)).map (⟨#[letterAt k]⟩ ++ ·) else []) (fun k => (lets k).head? == some s[0]) (2 ^ n) (fun k _ => by
        by_cases hf : fitsAt s k = true
        · rw [if_pos hf, if_pos (fits_head hs hf), List.length_map]; exact ih _
        · rw [if_neg hf]; exact Nat.zero_le _)
      have h2 := heads s[0]
      have h3 := Nat.mul_le_mul_right (2 ^ n) h2
      rw [Nat.pow_succ, Nat.mul_comm (2 ^ n)]
      omega

def othersAt (n : Nat) (s : ByteArray) (k : Nat) : List ByteArray := if fitsAt s k then (othersL n (s.extract (lets k).length s.size)).map (⟨#[letterAt k]⟩ ++ ·) else []
def othersFrom (n : Nat) (s : ByteArray) (k : Nat) : List ByteArray := ((List.range 26).drop k).flatMap (othersAt n s)
theorem othersL_from (n : Nat) (s : ByteArray) (h : ¬ s.size = 0) : othersL (n + 1) s = othersFrom n s 0 := by
  show (if s.size = 0 then _ else _) = _
  rw [if_neg h]; rfl
theorem othersFrom_step (n : Nat) (s : ByteArray) (k : Nat) (h : k < 26) : othersFrom n s k = othersAt n s k ++ othersFrom n s (k + 1) := by
  unfold othersFrom
  rw [List.drop_eq_getElem_cons (by simpa using h), List.flatMap_cons, List.getElem_range]
theorem othersFrom_end (n : Nat) (s : ByteArray) : othersFrom n s 26 = [] := by
  unfold othersFrom; rw [List.drop_eq_nil_of_le (by simp)]; rfl

theorem fits_no1 {s : ByteArray} {k : Nat} (h : lets k = []) : fitsAt s k = false := by unfold fitsAt; simp [h]
theorem fits_no2 {s : ByteArray} {k : Nat} (h : ¬ (lets k).length ≤ s.size) : fitsAt s k = false := by unfold fitsAt; simp [h]
theorem fits_no3 {s : ByteArray} {k : Nat} (h : ¬ (s.extract 0 (lets k).length).toList = lets k) : fitsAt s k = false := by unfold fitsAt; simp [h]
theorem fits_yes {s : ByteArray} {k : Nat} (h1 : ¬ lets k = []) (h2 : (lets k).length ≤ s.size) (h3 : (s.extract 0 (lets k).length).toList = lets k) : fitsAt s k = true := by unfold fitsAt; simp [h1, h2, h3]
theorem othersAt_no {n : Nat} {s : ByteArray} {k : Nat} (h : fitsAt s k = false) : othersAt n s k = [] := by unfold othersAt; rw [h]; rfl
theorem othersAt_yes {n : Nat} {s : ByteArray} {k : Nat} (h : fitsAt s k = true) : othersAt n s k = (othersL n (s.extract (lets k).length s.size)).map (⟨#[letterAt k]⟩ ++ ·) := by unfold othersAt; rw [h]; rfl

theorem othersL_size (n : Nat) : ∀ (s x : ByteArray), x ∈ othersL n s → x.size ≤ n := by
  induction n with
  | zero => intro s x h; rw [List.mem_singleton.1 h]; exact Nat.le_refl _
  | succ n ih =>
    intro s x h
    unfold othersL at h
    split at h
    · rw [List.mem_singleton.1 h]; exact Nat.zero_le _
    · obtain ⟨k, _, h⟩ := List.mem_flatMap.1 h
      split at h
      · obtain ⟨y, hy, rfl⟩ := List.mem_map.1 h
        have h1 := ih _ _ hy
        rw [ByteArray.size_append]
        show 1 + _ ≤ _
        omega
      · cases h

/-- The name of the other alphabet, and the error. -/
def otherL (l : List ByteArray) : ByteArray × Int := match l with
  | [] => (ByteArray.empty, 11)
  | x :: _ => (x, 0)
def otherP (s : ByteArray) : ByteArray × Int := if Sp.check s.data.toList = 0 then otherL (othersL 12 (keyS s)) else (ByteArray.empty, Sp.check s.data.toList)

end Go.Proofs.YtljlkhaolfihjaaGreatDoor
