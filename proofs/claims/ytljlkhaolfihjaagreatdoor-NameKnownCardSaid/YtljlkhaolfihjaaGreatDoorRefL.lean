/- The reference of names: lists that are sorted. -/
import Derived.Test.YtljlkhaolfihjaaGreatDoorRefK
import Derived.OwnWalk
namespace Go.Proofs.YtljlkhaolfihjaaGreatDoor
open Go.RowKit

/-- The bytes of the name at an index. -/
def at' (ss : List ByteArray) (i : Nat) : List UInt8 := ((ss[i]?).getD ByteArray.empty).data.toList
theorem at_get (ss : List ByteArray) (i : Nat) (h : i < ss.length) : at' ss i = ss[i].data.toList := by
  unfold at'; rw [List.getElem?_eq_getElem h]; rfl

/-- Whether the name at k goes before the one at i. -/
def hitB (ss : List ByteArray) (i k : Nat) : Bool := beforeB (at' ss k) (at' ss i) || (decide (k < i) && !beforeB (at' ss i) (at' ss k))
def rank (ss : List ByteArray) (i : Nat) : Nat := (List.range ss.length).countP (hitB ss i)
def sortTo (ss : List ByteArray) (j : Nat) : List Int := (List.range j).foldl (fun o i => o.set (rank ss i) (i : Int)) (List.replicate ss.length 0)

theorem bytesLess_irrefl : ∀ l : List UInt8, Op.bytesLess l l = false
  | [] => rfl
  | c :: t => by unfold Op.bytesLess; simp [bytesLess_irrefl t]

theorem before_irrefl (l : List UInt8) : beforeB l l = false := by
  unfold beforeB; simp

theorem rank_lt (ss : List ByteArray) (i : Nat) (h : i < ss.length) : rank ss i < ss.length := by
  unfold rank
  have h1 : (List.range ss.length).countP (hitB ss i) ≤ (List.range ss.length).length := List.countP_le_length
  rw [List.length_range] at h1
  rcases Nat.lt_or_ge ((List.range ss.length).countP (hitB ss i)) ss.length with h2 | h2
  · exact h2
  · have h3 : (List.range ss.length).countP (hitB ss i) = (List.range ss.length).length := by rw [List.length_range]; omega
    have h4 := List.countP_eq_length.1 h3 i (List.mem_range.2 h)
    unfold hitB at h4
    rw [before_irrefl] at h4
    simp at h4

theorem sortTo_len (ss : List ByteArray) (j : Nat) : (sortTo ss j).length = ss.length := by
  unfold sortTo
  have : ∀ (l : List Nat) (o : List Int), (l.foldl (fun o i => o.set (rank ss i) (i : Int)) o).length = o.length := by
    intro l
    induction l with
    | nil => intro o; rfl
    | cons a t ih => intro o; rw [List.foldl_cons, ih, List.length_set]
  rw [this, List.length_replicate]
theorem sortTo_succ (ss : List ByteArray) (j : Nat) : sortTo ss (j + 1) = (sortTo ss j).set (rank ss j) (j : Int) := by
  unfold sortTo; rw [List.range_succ, List.foldl_append]; rfl

def sortL (ss : List ByteArray) : List Int := if listErr ss = 0 then sortTo ss ss.length else []

theorem hit_step (ss : List ByteArray) (i k : Nat) : (List.range (k + 1)).countP (hitB ss i) = (List.range k).countP (hitB ss i) + (if hitB ss i k then 1 else 0) := by
  rw [List.range_succ, List.countP_append, List.countP_cons, List.countP_nil, Nat.zero_add]

theorem before_set (a b : ByteArray) (v : Bool) (hv : beforeB a.data.toList b.data.toList = v) (a1 : 1 ≤ a.size) (a6 : a.size ≤ 6) (b1 : 1 ≤ b.size) (b6 : b.size ≤ 6) (w : World) :
    Calls Tryz.prog 43 #[.string a, .string b] w fun e w' => e = .returned (.bool v) ∧ Below w.heap.size w w' :=
  (before_any a b w a1 a6 b1 b6).mono fun _ _ h => ⟨by rw [h.1, hv], h.2⟩

end Go.Proofs.YtljlkhaolfihjaaGreatDoor
