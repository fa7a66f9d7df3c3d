/- The reference of names: chains of uses. -/
import Derived.Test.YtljlkhaolfihjaaGreatDoorRefO
import Derived.Deep.Onto
namespace Go.Proofs.YtljlkhaolfihjaaGreatDoor
open Go.RowKit

/-- An append of a whole row that somebody owns, at the list of a plain region. -/
theorem wpList_append_row {P : Program} (w : World) {ops : Array Oper} {rest : List Oper} {o : Oper} {a : Act} {Q : Exit → Act → World → Prop} (hgd : o.guard = none) (s x : Operand) (t : TypeId)
    (ho : o.op = .call { callee := .builtin .append, args := #[s, x], argTypes := #[t, t] })
    (base : Nat) (e : TypeId) (i : TypeInfo) (z : Value) (bytes : Nat) (ht : P.underlying t = some (.slice e)) (hi : P.info? e = some i) (hz : i.zero = some z)
    (hsize : i.size = 1) (hby : i.bytes = bytes) (hzs : z.cells.size = 1)
    (v : Value) (n : Nat) (xs : List Value) (hs : a.eval s = v) (hown : w.ownsRow base e 1 v n xs)
    (base2 : Nat) (u : Value) (m : Nat) (news : List Value) (hx : a.eval x = u) (hsrc : w.ownsRow base2 e 1 u m news) (h1 : ∀ y ∈ news, y.oneCell' = true)
    (h63 : n + m ≤ maxLen) (hbytes : (n + m) * bytes ≤ 140737488355328) (hbase : base ≤ w.heap.size)
    (h : ∀ v' w', w'.ownsRow base e 1 v' (n + m) (xs ++ news) → w.grownBy w' v.ownBlock → wpList P ops Q rest (a.put o.dst v') w') : wpList P ops Q (o :: rest) a w := by
  refine wpList_plain hgd fun K hK => ?_
  obtain ⟨v', w', hr, h2, h3⟩ := run_append_row (P := P) w base t o.type e i z bytes ht hi hz hsize hby hzs v n xs hown base2 u m news hsrc h1 h63 hbytes hbase
  unfold Oper.wp execOp
  simp only [ho, resolve, invoke, builtin, Sem.run_bind, Sem.run_pure, Result.andThen_ok, List.map_toArray, List.map_cons, List.map_nil, hs, hx, hr]
  exact hK _ _ (h v' w' h2 h3)

/-- One string more: is the chain by way of it the first so far? -/
def stepC (s : ByteArray) (f : ByteArray → List ByteArray × Bool) (acc : List ByteArray × Bool) (x : ByteArray) : List ByteArray × Bool :=
  if (f x).2 && (!acc.2 || Op.bytesLess x.toList ((acc.1[1]?).getD ByteArray.empty).toList) then (s :: (f x).1, true) else acc
/-- The first chain with so many uses; whether there is one. -/
def chainL (rs : List (ByteArray × ByteArray)) : Nat → ByteArray → ByteArray → List ByteArray × Bool
  | 0, s, t => ([s], s.toList == t.toList)
  | u + 1, s, t => (madeL rs s).foldl (stepC s (fun x => chainL rs u x t)) ([], false)

def Good (u : Nat) (p : List ByteArray × Bool) : Prop := p.1.length ≤ u + 1 ∧ (p.2 = true → 1 ≤ p.1.length)
def Good2 (u : Nat) (p : List ByteArray × Bool) : Prop := p.1.length ≤ u + 2 ∧ (p.2 = true → 2 ≤ p.1.length)

theorem stepC_good (s : ByteArray) (f : ByteArray → List ByteArray × Bool) (u : Nat) (hf : ∀ x, Good u (f x)) (acc : List ByteArray × Bool) (x : ByteArray) (h : Good2 u acc) : Good2 u (stepC s f acc x) := by
  unfold stepC
  split
  · rename_i h1
    simp only [Bool.and_eq_true] at h1
    obtain ⟨g1, g2⟩ := hf x
    exact ⟨by simp; omega, fun _ => by have := g2 h1.1; simp; omega⟩
  · exact h
theorem foldC_good (s : ByteArray) (f : ByteArray → List ByteArray × Bool) (u : Nat) (hf : ∀ x, Good u (f x)) (l : List ByteArray) : ∀ acc, Good2 u acc → Good2 u (l.foldl (stepC s f) acc) := by
  induction l with
  | nil => exact fun _ h => h
  | cons a t ih => exact fun acc h => ih _ (stepC_good s f u hf acc a h)
theorem chainL_good (rs : List (ByteArray × ByteArray)) (u : Nat) : ∀ s t, Good u (chainL rs u s t) := by
  induction u with
  | zero => exact fun s t => ⟨by simp [chainL], fun _ => by simp [chainL]⟩
  | succ u ih =>
    intro s t
    obtain ⟨h1, h2⟩ := foldC_good s (fun x => chainL rs u x t) u (fun x => ih x t) (madeL rs s) ([], false) ⟨by simp, by simp⟩
    exact ⟨h1, fun h => by have := h2 h; show 1 ≤ _; exact Nat.le_trans (by omega) this⟩

theorem made_small {rs : List (ByteArray × ByteArray)} {s x : ByteArray} (h : x ∈ madeL rs s) : x.size ≤ 12 := by
  unfold madeL at h
  obtain ⟨r, _, h⟩ := List.mem_flatMap.1 h
  have key : ∀ a b, x ∈ repL s a b → x.size ≤ 12 := by
    intro a b hx
    unfold repL repTo at hx
    obtain ⟨i, _, hi⟩ := List.mem_filterMap.1 hx
    unfold repAt at hi
    split at hi
    · split at hi
      · rename_i h2; rw [← Option.some.inj hi]; exact h2.2
      · cases hi
    · cases hi
  rcases List.mem_append.1 h with h | h
  · exact key _ _ h
  · exact key _ _ h

theorem foldl_take {α β : Type} (f : β → α → β) (b : β) (l : List α) (k : Nat) (hk : k < l.length) : (l.take (k + 1)).foldl f b = f ((l.take k).foldl f b) l[k] := by
  rw [List.take_succ_eq_append_getElem hk, List.foldl_append]; rfl

theorem madeL_len (rs : List (ByteArray × ByteArray)) (s : ByteArray) (hs : s.size ≤ 12) : (madeL rs s).length ≤ 26 * rs.length := by
  induction rs with
  | nil => simp [madeL]
  | cons r t ih =>
    have h1 := repL_len s r.1 r.2 hs
    have h2 := repL_len s r.2 r.1 hs
    have e : madeL (r :: t) s = repL s r.1 r.2 ++ repL s r.2 r.1 ++ madeL t s := rfl
    rw [e, List.length_append, List.length_append, List.length_cons]
    omega

def ChainPost (p : List ByteArray × Bool) (w : World) (e : Ending) (w' : World) : Prop :=
  ∃ o : Value, e = .returned (.tuple #[o, .bool p.2]) ∧ w'.ownsRow w.heap.size 9 1 o p.1.length (p.1.map Value.string) ∧ Below w.heap.size w w'

end Go.Proofs.YtljlkhaolfihjaaGreatDoor

/- The reference of names: the chain of two names, how many uses it has, and the verdict. -/
namespace Go.Proofs.YtljlkhaolfihjaaGreatDoor
open Go.RowKit

/-- The key of a name, as a string. -/
def keyS (s : ByteArray) : ByteArray := ⟨(Sp.key s.data.toList).toArray⟩
theorem keyS_size {s : ByteArray} (h : s.size ≤ 6) : (keyS s).size ≤ 12 := by
  have := key_size h
  show (Sp.key s.data.toList).toArray.size ≤ _
  simp; omega
theorem key_S (s : ByteArray) (w : World) (h1 : 1 ≤ s.size) (h6 : s.size ≤ 6) :
    Calls Tryz.prog 78 #[.string s] w fun e w' => e = .returned (.string (keyS s)) ∧ Below w.heap.size w w' :=
  (key_any s w h1 h6).mono fun _ _ h => h

/-- The chain with the fewest uses, from so many on. -/
def fromC (rs : List (ByteArray × ByteArray)) (x y : ByteArray) : Nat → Nat → List ByteArray × Int
  | 0, _ => ([], 11)
  | f + 1, u => if (chainL rs u x y).2 then ((chainL rs u x y).1, 0) else fromC rs x y f (u + 1)
theorem fromC_step (rs : List (ByteArray × ByteArray)) (x y : ByteArray) (k : Nat) (h : k ≤ 2) :
    fromC rs x y (3 - k) k = if (chainL rs k x y).2 then ((chainL rs k x y).1, 0) else fromC rs x y (3 - (k + 1)) (k + 1) := by
  rw [show 3 - k = (3 - (k + 1)) + 1 from by omega]; rfl

/-- The chain of two names and its error. -/
def chainP (rs : List (ByteArray × ByteArray)) (a b : ByteArray) : List ByteArray × Int :=
  if usesErr rs a.data.toList b.data.toList = 0 then fromC rs (keyS a) (keyS b) 3 0 else ([], usesErr rs a.data.toList b.data.toList)

theorem ruleOk_small {r : ByteArray × ByteArray} (h : ruleOk r = true) : r.1.size ≤ 1000 ∧ r.2.size ≤ 1000 := by
  unfold ruleOk lettersB at h
  simp only [Bool.and_eq_true, decide_eq_true_eq] at h
  have h1 := h.1.1.1
  have h2 := h.1.2.1
  rw [size_list] at h1 h2
  omega
theorem rulesErr_zero {rs : List (ByteArray × ByteArray)} (h : rulesErr rs = 0) : rs.length ≤ 4 ∧ Short100 rs := by
  unfold rulesErr at h
  split at h
  · omega
  · split at h
    · rename_i h1 h2
      exact ⟨by omega, fun r hr => ruleOk_small (List.all_eq_true.1 h2 r hr)⟩
    · omega
theorem usesErr_zero {rs : List (ByteArray × ByteArray)} {a b : ByteArray} (h : usesErr rs a.data.toList b.data.toList = 0) :
    rs.length ≤ 4 ∧ Short100 rs ∧ (1 ≤ a.size ∧ a.size ≤ 6) ∧ (1 ≤ b.size ∧ b.size ≤ 6) := by
  unfold usesErr at h
  split at h
  · rename_i h1
    obtain ⟨g1, g2⟩ := rulesErr_zero h1
    unfold pairErr at h
    split at h
    · rename_i h2; exact ⟨g1, g2, check_size h2, check_size h⟩
    · rename_i h2; exact absurd h h2
  · rename_i h1; exact absurd h h1

def ChainsPost (p : List ByteArray × Int) (w : World) (e : Ending) (w' : World) : Prop :=
  ∃ o : Value, e = .returned (.tuple #[o, .int .i64 p.2]) ∧ w'.ownsRow w.heap.size 9 1 o p.1.length (p.1.map Value.string) ∧ Below w.heap.size w w'

end Go.Proofs.YtljlkhaolfihjaaGreatDoor

/- The reference of names: the number of uses, and the verdict. -/
namespace Go.Proofs.YtljlkhaolfihjaaGreatDoor
open Go.RowKit

theorem fromC_len (rs : List (ByteArray × ByteArray)) (x y : ByteArray) (f : Nat) : ∀ u, (fromC rs x y f u).1.length ≤ f + u := by
  induction f with
  | zero => intro u; simp [fromC]
  | succ f ih =>
    intro u
    have h1 := (chainL_good rs u x y).1
    have h2 := ih (u + 1)
    unfold fromC
    split
    · show (chainL rs u x y).1.length ≤ _; omega
    · omega
theorem chainP_len (rs : List (ByteArray × ByteArray)) (a b : ByteArray) : (chainP rs a b).1.length ≤ 3 := by
  unfold chainP
  split
  · exact fromC_len _ _ _ 3 0
  · simp

def usesP (rs : List (ByteArray × ByteArray)) (a b : ByteArray) : Int × Int := if (chainP rs a b).2 = 0 then (((chainP rs a b).1.length : Int) - 1, 0) else (0, (chainP rs a b).2)
def verdictP (rs : List (ByteArray × ByteArray)) (a b : ByteArray) : Int × Int :=
  if (usesP rs a b).2 = 11 then (2, 0) else if (usesP rs a b).2 = 0 then (if (usesP rs a b).1 = 0 then (1, 0) else (3, 0)) else (0, (usesP rs a b).2)

def TwoPost (p : Int × Int) (w : World) (e : Ending) (w' : World) : Prop :=
  e = .returned (.tuple #[.int .i64 p.1, .int .i64 p.2]) ∧ Below w.heap.size w w'

end Go.Proofs.YtljlkhaolfihjaaGreatDoor

/- The reference of names: near names. -/
namespace Go.Proofs.YtljlkhaolfihjaaGreatDoor
open Go.RowKit

def nearErr (rs : List (ByteArray × ByteArray)) (m : ByteArray) (ss : List ByteArray) : Int :=
  if rulesErr rs = 0 then (if Sp.check m.data.toList = 0 then listErr ss else Sp.check m.data.toList) else rulesErr rs
/-- The indices, from one on, of the names that are so many uses away. -/
def nearFrom (rs : List (ByteArray × ByteArray)) (m : ByteArray) (u : Nat) : Nat → List ByteArray → List Int
  | _, [] => []
  | k, s :: t => if (usesP rs m s).2 = 0 ∧ (usesP rs m s).1 = (u : Int) then (k : Int) :: nearFrom rs m u (k + 1) t else nearFrom rs m u (k + 1) t
def nearTo (rs : List (ByteArray × ByteArray)) (m : ByteArray) (ss : List ByteArray) : Nat → List Int
  | 0 => []
  | u + 1 => nearTo rs m ss u ++ nearFrom rs m u 0 ss
def nearL (rs : List (ByteArray × ByteArray)) (m : ByteArray) (ss : List ByteArray) : List Int := if nearErr rs m ss = 0 then nearTo rs m ss 3 else []

theorem nearFrom_drop (rs : List (ByteArray × ByteArray)) (m : ByteArray) (u : Nat) (ss : List ByteArray) (k : Nat) (hk : k < ss.length) :
    nearFrom rs m u k (ss.drop k) = (if (usesP rs m ss[k]).2 = 0 ∧ (usesP rs m ss[k]).1 = (u : Int) then [(k : Int)] else []) ++ nearFrom rs m u (k + 1) (ss.drop (k + 1)) := by
  rw [List.drop_eq_getElem_cons hk]
  show (if _ then _ else _) = _
  split <;> rfl

end Go.Proofs.YtljlkhaolfihjaaGreatDoor
