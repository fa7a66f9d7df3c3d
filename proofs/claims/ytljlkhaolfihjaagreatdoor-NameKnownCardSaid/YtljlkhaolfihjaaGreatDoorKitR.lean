/- A range over an iterator that writes rows of its own: what lay before its call, and what is no cells, it leaves. -/
import Derived.RangeFuncWrites
namespace Go.Proofs.YtljlkhaolfihjaaGreatDoor
open Go.RowKit

/-- A step of the iterator's own. -/
structure OwnStep (B : Nat) (A C : World) : Prop where
  below : Below B A C
  other : ∀ (k : Nat) (o : Obj), A.heap[k]? = some o → o.isCells = false → C.heap[k]? = some o
/-- What a round that goes on leaves to the iterator: all cells. -/
structure CellsKept (n₀ : Nat) (A C : World) : Prop where
  below : Below n₀ A C
  cells : ∀ (k : Nat) (c : Array Value) (t : TypeId) (fz : Nat × Nat), A.heap[k]? = some (.cells c t fz) → C.heap[k]? = some (.cells c t fz)

theorem OwnStep.refl (B : Nat) (A : World) : OwnStep B A A := ⟨Below.refl _ _, fun _ _ h _ => h⟩
theorem OwnStep.trans {B : Nat} {A C D : World} (h : OwnStep B A C) (k : OwnStep B C D) : OwnStep B A D := ⟨h.below.trans k.below, fun i o hi ho => k.other i o (h.other i o hi ho) ho⟩
theorem CellsKept.trans {n₀ : Nat} {A C D : World} (h : CellsKept n₀ A C) (k : CellsKept n₀ C D) : CellsKept n₀ A D := ⟨h.below.trans k.below, fun i c t fz hi => k.cells i c t fz (h.cells i c t fz hi)⟩
theorem CellsKept.refl (n₀ : Nat) (A : World) : CellsKept n₀ A A := ⟨Below.refl _ _, fun _ _ _ _ h => h⟩
theorem CellsKept.of_below {n₀ : Nat} {A C : World} (h : Below A.heap.size A C) (hn : n₀ ≤ A.heap.size) : CellsKept n₀ A C := ⟨h.mono hn, fun k _ _ _ hk => (h.block k (Array.getElem?_eq_some_iff.1 hk).1).trans hk⟩
theorem OwnStep.of_below {B : Nat} {A C : World} (h : Below A.heap.size A C) (hB : B ≤ A.heap.size) : OwnStep B A C := ⟨h.mono hB, fun k _ hk _ => (h.block k (Array.getElem?_eq_some_iff.1 hk).1).trans hk⟩

theorem put_below {B l : Nat} {A : World} {o : Obj} (o' : Obj) (hB : B ≤ l) (_ : A.heap[l]? = some o) : Below B A (A.putObj l o') :=
  ⟨rfl, rfl, rfl, by simp [World.putObj], fun k hk => World.putObj_heap_other (by omega)⟩
theorem put_cells {n₀ l : Nat} {A : World} {o : Obj} (o' : Obj) (hB : n₀ ≤ l) (hl : A.heap[l]? = some o) (ho : o.isCells = false) : CellsKept n₀ A (A.putObj l o') :=
  ⟨put_below o' hB hl, fun k c t fz hk => (World.putObj_heap_other (fun e => by subst e; rw [hl] at hk; cases hk; cases ho)).trans hk⟩

/-- What an iterator owes that hands out items, each of them as 'Ok' says of it and of memory. -/
def SeqWrites {α : Type} (n : Nat) (P : Program) (g : Nat) (lb : Array Value) (encs : α → Array Value) (Ok : α → World → Prop) (n₀ : Nat) (S Sp : List α → Prop) (N : Nat) (w : World) : Prop :=
  ∀ (l : Nat) (J Jx : List α → World → Prop) (W : World), Below w.heap.size w W → n₀ ≤ W.heap.size → (∀ s A C, J s A → OwnStep W.heap.size A C → J s C) →
    (∀ pre x W1, J pre W1 → Ok x W1 → pre.length < N → YieldAt Fence.wide (n - 1) P l (encs x) W1 fun e W' =>
      (e = .returned (.bool true) ∧ J (pre ++ [x]) W' ∧ CellsKept n₀ W1 W') ∨ (e = .returned (.bool false) ∧ Jx (pre ++ [x]) W')) →
    J [] W →
    CallsIn Fence.wide n P g (#[.func (.yield l) #[] #[]] ++ lb) W fun e W' => (∃ v, e = .returned v) ∧ ((∃ xs, S xs ∧ J xs W') ∨ (∃ pre, Sp pre ∧ Jx pre W'))

variable {n : Nat} {P : Program}

/-- The two blocks of the loop's own. -/
def Loops (m : Nat) (r : Loop) (W : World) : Prop := W.heap[m + 1]? = some (.loop r) ∧ W.heap[m]? = some (.deferred (some []))
theorem Loops.own {m B : Nat} {r : Loop} {A C : World} (h : Loops m r A) (k : OwnStep B A C) : Loops m r C := ⟨k.other _ _ h.1 rfl, k.other _ _ h.2 rfl⟩
theorem Loops.from {m : Nat} {r : Loop} {A C : World} (h : Loops m r A) (k : KeepsFrom m A C) : Loops m r C := ⟨k.same _ _ (by omega) h.1 rfl, k.same _ _ (Nat.le_refl _) h.2 rfl⟩
theorem Loops.put {m : Nat} {r : Loop} {A : World} (h : Loops m r A) (r' : Loop) : Loops m r' (A.putObj (m + 1) (.loop r')) :=
  ⟨World.putObj_heap_same (Array.getElem?_eq_some_iff.1 h.1).1, (World.putObj_heap_other (by omega)).trans h.2⟩

theorem range_writes {α : Type} {g : Operand} {ps : Array Tmp} {assign body : Code} {Q : Exit → Act → World → Prop} {a : Act} {w : World}
    (h1 : 1 ≤ n) {gf : Nat} {lb : Array Value} (hg : a.eval g = .func (.func gf) #[] lb) (eg : ∀ args w, (callFunc gf args).run P w = .ok (.enter gf args) w)
    {encs : α → Array Value} {Ok : α → World → Prop} {n₀ : Nat} {S Sp : List α → Prop} {N : Nat} (hn0 : n₀ ≤ w.heap.size) (hseq : SeqWrites (n - 1) P gf lb encs Ok n₀ S Sp N w) (hps : ∀ x, (encs x).size = ps.size)
    (hOk : ∀ x A C, Ok x A → CellsKept n₀ A C → Ok x C)
    (I : List α → World → Prop) (Ix : Code → List α → World → Prop) (hI : ∀ s A C, I s A → Below w.heap.size A C → I s C)
    (hIx : ∀ c s A l o o', Ix c s A → w.heap.size ≤ l → A.heap[l]? = some o → o.isCells = false → Ix c s (A.putObj l o')) (h0 : I [] w) (a₁ : α → Act)
    (hassign : ∀ (l : Nat) (x : α) (W : World) (K : Act → World → Prop), K (a₁ x) W →
      assign.wpIn (Fence.wide.inRound l) (n - 1 - 1) P (Exit.then K (fun _ _ _ => False)) { tmps := (ps.zip (encs x)).foldl (fun t (p, v) => t.setIfInBounds p v) a.tmps, defers := [] } W)
    (hbody : ∀ (l : Nat) (pre : List α) (x : α) (W : World), I pre W → Ok x W → pre.length < N → body.wpIn (Fence.wide.inRound l) (n - 1 - 1) P (ownPostG w.heap.size (CellsKept n₀) I Ix (pre ++ [x]) W) (a₁ x) W)
    (hdone : ∀ (D : Nat) (xs : List α) (W : World), w.heap.size ≤ D → S xs → I xs W → W.heap[D]? = some (.deferred (some [])) → Q .normal { a with defers := { target := .collected D, args := #[] } :: a.defers } W)
    (hstop : ∀ (D : Nat) (c : Code) (pre : List α) (W : World), w.heap.size ≤ D → Sp pre → Ix c pre W → W.heap[D]? = some (.deferred (some [])) → c.wpIn Fence.wide n P Q { a with defers := { target := .collected D, args := #[] } :: a.defers } W) :
    (Code.rangeFunc g ps assign body).wpIn Fence.wide n P Q a w := by
  refine wpIn_rangeFunc fun fn hfn => ?_
  obtain ⟨W1, hW1⟩ : ∃ W1, (w.alloc (.deferred (some []))).alloc (.loop { state := .ready, pending := none, fn, tmps := a.tmps, params := ps, assign, body, defers := w.heap.size }) = W1 := ⟨_, rfl⟩
  have hsz : W1.heap.size = w.heap.size + 2 := by rw [← hW1]; simp
  have hL0 : Loops w.heap.size { state := .ready, pending := none, fn, tmps := a.tmps, params := ps, assign, body, defers := w.heap.size } W1 := by
    rw [← hW1]
    constructor
    · have h := World.alloc_heap_new (w.alloc (.deferred (some []))) (.loop { state := .ready, pending := none, fn, tmps := a.tmps, params := ps, assign, body, defers := w.heap.size })
      rwa [World.size_alloc] at h
    · exact (Below.heap_alloc _ _ _ (by simp)).trans (World.alloc_heap_new w _)
  have hb0 : Below w.heap.size w W1 := by rw [← hW1]; exact ((Below.refl _ w).alloc (Nat.le_refl _) _).alloc (by simp) _
  refine ⟨w.heap.size + 1, [{ target := .collected w.heap.size, args := #[] }], W1, { target := .fn (.func gf) lb, args := #[.func (.yield (w.heap.size + 1)) #[] #[]] }, W1, gf,
    #[.func (.yield (w.heap.size + 1)) #[] #[]] ++ lb, W1, ?_, ?_, fun _ _ => trivial, ?_, fun _ => h1, ?_⟩
  · rw [← hW1]; exact run_enterLoop_outer _ _ _ _ _
  · simp only [resolve, hg]
    simp [go_sem]
  · simp [invoke, go_sem, eg]
  refine (hseq (w.heap.size + 1) (fun pre W => I pre W ∧ Loops w.heap.size { state := .ready, pending := none, fn, tmps := a.tmps, params := ps, assign, body, defers := w.heap.size } W)
    (fun pre W => ∃ c, Ix c pre W ∧ Loops w.heap.size { state := .done, pending := some c, fn, tmps := a.tmps, params := ps, assign, body, defers := w.heap.size } W)
    W1 hb0 (by omega) (fun s A C hs hk => ⟨hI _ _ _ hs.1 (hk.below.mono (by omega)), hs.2.own hk⟩) ?_ ⟨hI _ _ _ h0 hb0, hL0⟩).mono ?_
  · rintro pre x W ⟨hi, hl⟩ hx hlen
    refine ⟨fn, _, assign, body, run_yield hl.1 (hps x), roundIn_of_wpIn hfn (hassign _ x W _ ⟨_, run_beginRound hl.1 rfl, ?_⟩)⟩
    have hl2 := hl.put { state := .busy, pending := none, fn, tmps := a.tmps, params := ps, assign, body, defers := w.heap.size }
    have hk1 : CellsKept n₀ W (W.putObj (w.heap.size + 1) (.loop { state := .busy, pending := none, fn, tmps := a.tmps, params := ps, assign, body, defers := w.heap.size })) := put_cells _ (by omega) hl.1 rfl
    refine wpIn_mono (hbody _ pre x _ (hI _ _ _ hi (put_below _ (by omega) hl.1)) (hOk _ _ _ hx hk1) hlen) ?_
    rintro e a3 W3 hp
    cases e with
    | normal =>
      obtain ⟨hk3, hkp3, hi3⟩ := hp
      have hl3 := hl2.from hk3
      exact ⟨_, _, run_endRound none hl3.1, .inl ⟨rfl, ⟨hI _ _ _ hi3 (put_below _ (by omega) hl3.1), hl3.put _⟩, (hk1.trans hkp3).trans (put_cells _ (by omega) hl3.1 rfl)⟩⟩
    | ret =>
      obtain ⟨hk3, hi3⟩ := hp
      have hl3 := hl2.from hk3
      exact ⟨_, _, run_endRound (some .ret) hl3.1, .inr ⟨rfl, .ret, hIx _ _ _ _ _ _ hi3 (by omega) hl3.1 rfl, hl3.put _⟩⟩
    | exit id =>
      obtain ⟨hk3, hi3⟩ := hp
      have hl3 := hl2.from hk3
      exact ⟨_, _, run_endRound (some (.exit id)) hl3.1, .inr ⟨rfl, .exit id, hIx _ _ _ _ _ _ hi3 (by omega) hl3.1 rfl, hl3.put _⟩⟩
    | goto t =>
      obtain ⟨hk3, hi3⟩ := hp
      have hl3 := hl2.from hk3
      exact ⟨_, _, run_endRound (some (.goto t)) hl3.1, .inr ⟨rfl, .goto t, hIx _ _ _ _ _ _ hi3 (by omega) hl3.1 rfl, hl3.put _⟩⟩
    | panic ch => exact hp.elim
    | outgrown => exact hp.elim
  · rintro e W2 ⟨⟨v, rfl⟩, (⟨xs, hS, hi, hl⟩ | ⟨pre, hSp, c, hi, hl⟩)⟩
    · exact ⟨none, _, run_endLoop hl.1 (by simp), hdone _ xs _ (Nat.le_refl _) hS (hI _ _ _ hi (put_below _ (by omega) hl.1)) ((World.putObj_heap_other (by omega)).trans hl.2)⟩
    · exact ⟨some c, _, run_endLoop hl.1 (by simp), hstop _ c pre _ (Nat.le_refl _) hSp (hIx _ _ _ _ _ _ hi (by omega) hl.1 rfl) ((World.putObj_heap_other (by omega)).trans hl.2)⟩
end Go.Proofs.YtljlkhaolfihjaaGreatDoor
