/- Regions that draw their order and lay rows: one invariant for all orders. -/
import Derived.Test.YtlhiekeolmgilaaGreatDoorKitE
import Derived.OrdersHeld
namespace Go.Proofs.YtlhiekeolmgilaaGreatDoor
open Go.RowKit

section
variable {P : Program} {ops : Array Oper} {Q : Exit → Act → World → Prop} {md : Region.Mode} {S : World → Prop}

/-- How many operations have not come up yet. -/
def left_ (n : Nat) (listed : Array Bool) : Nat := (List.range n).countP fun i => !listed.getD i true

theorem ready_facts {listed : Array Bool} {i : Nat} (h : i ∈ Region.ready md ops listed) : i < ops.size ∧ listed.getD i true = false ∧
    ((ops[i]?).map (·.after.all fun e => !Region.binds md e || listed.getD e.on false)).getD false = true := by
  unfold Region.ready at h
  obtain ⟨h1, h2⟩ := List.mem_filter.1 h
  simp only [Bool.and_eq_true, Bool.not_eq_true'] at h2
  exact ⟨List.mem_range.1 h1, h2.1, h2.2⟩

theorem left_zero {n : Nat} {listed : Array Bool} (h : left_ n listed = 0) (i : Nat) (hi : i < n) : listed.getD i true = true := by
  unfold left_ at h
  have := List.countP_eq_zero.1 h i (List.mem_range.2 hi)
  simpa using this

theorem ready_nil {listed : Array Bool} (h : left_ ops.size listed = 0) : Region.ready md ops listed = [] := by
  cases hr : Region.ready md ops listed with
  | nil => rfl
  | cons i t =>
    obtain ⟨h1, h2, _⟩ := ready_facts (md := md) (ops := ops) (listed := listed) (i := i) (by rw [hr]; simp)
    rw [left_zero h i h1] at h2
    cases h2

theorem getD_set_true (listed : Array Bool) (i j : Nat) : (listed.setIfInBounds i true).getD j true = if i = j then true else listed.getD j true := by
  simp only [Array.getD_eq_getD_getElem?, Array.getElem?_setIfInBounds]
  split
  · rename_i h
    subst h
    split <;> rfl
  · rfl

theorem countP_lt {l : List Nat} {p q : Nat → Bool} (h : ∀ x, q x = true → p x = true) {i : Nat} (hi : i ∈ l) (hp : p i = true) (hq : q i = false) : l.countP q < l.countP p := by
  induction l with
  | nil => cases hi
  | cons a t ih =>
    rw [List.countP_cons, List.countP_cons]
    rcases List.mem_cons.1 hi with rfl | hi
    · have h1 : t.countP q ≤ t.countP p := List.countP_mono_left fun x _ => h x
      rw [hp, hq]
      simp
      omega
    · have h1 := ih hi
      have h2 : (if q a = true then 1 else 0) ≤ (if p a = true then 1 else 0) := by
        by_cases hqa : q a = true
        · rw [if_pos hqa, if_pos (h a hqa)]; exact Nat.le_refl _
        · rw [if_neg hqa]; exact Nat.zero_le _
      omega

theorem left_less {n i : Nat} {listed : Array Bool} (hi : i < n) (h : listed.getD i true = false) : left_ n (listed.setIfInBounds i true) < left_ n listed := by
  unfold left_
  refine countP_lt (i := i) (fun x hx => ?_) (List.mem_range.2 hi) (by rw [h]; rfl) (by rw [getD_set_true, if_pos rfl]; rfl)
  rw [getD_set_true] at hx
  split at hx
  · cases hx
  · exact hx

/-- ONE INVARIANT FOR ALL ORDERS. -/
theorem wpAny_settles (I : Array Bool → Act → World → Prop)
    (hstep : ∀ listed a w i, I listed a w → i < ops.size → listed.getD i true = false → ((ops[i]?).map (·.after.all fun e => !Region.binds md e || listed.getD e.on false)).getD false = true →
      wpOp P ops Q i (fun a' w' => I (listed.setIfInBounds i true) a' w') a w)
    (hend : ∀ listed a w, I listed a w → Region.ready md ops listed = [] → Q .normal a w) :
    ∀ (fuel : Nat) (listed : Array Bool) (a : Act) (w : World), left_ ops.size listed ≤ fuel → I listed a w → wpAny P md ops Q fuel listed a w := by
  intro fuel
  induction fuel with
  | zero =>
    intro listed a w hl hI
    have hr := ready_nil (md := md) (ops := ops) (listed := listed) (by omega)
    exact ⟨hr, hend _ _ _ hI hr⟩
  | succ fuel ih =>
    intro listed a w hl hI
    refine ⟨fun hr => hend _ _ _ hI hr, fun i hi => ?_⟩
    obtain ⟨h1, h2, h3⟩ := ready_facts hi
    refine wpOp_mono (fun a' w' h => ih _ a' w' ?_ h) (hstep _ _ _ i hI h1 h2 h3)
    have := left_less (n := ops.size) h1 h2
    omega

/-- The slots after the operations that have come up, in the order of the text. -/
def fillTo (ds : List (Option Tmp)) (a0 : Act) (listed : Array Bool) (vals : Nat → Value) : Nat → Act
  | 0 => a0
  | n + 1 => if listed.getD n false = true then (fillTo ds a0 listed vals n).put (ds.getD n none) (vals n) else fillTo ds a0 listed vals n
def fillAll (ds : List (Option Tmp)) (a0 : Act) (vals : Nat → Value) : Nat → Act
  | 0 => a0
  | n + 1 => (fillAll ds a0 vals n).put (ds.getD n none) (vals n)

theorem fill_congr {ds : List (Option Tmp)} {a0 : Act} {l1 l2 : Array Bool} {v1 v2 : Nat → Value} : ∀ {n : Nat}, (∀ j, j < n → l1.getD j false = l2.getD j false ∧ v1 j = v2 j) → fillTo ds a0 l1 v1 n = fillTo ds a0 l2 v2 n
  | 0, _ => rfl
  | n + 1, h => by
    unfold fillTo
    rw [fill_congr (n := n) fun j hj => h j (by omega), (h n (by omega)).1, (h n (by omega)).2]
theorem fill_all {ds : List (Option Tmp)} {a0 : Act} {l : Array Bool} {v : Nat → Value} : ∀ {n : Nat}, (∀ j, j < n → l.getD j false = true) → fillTo ds a0 l v n = fillAll ds a0 v n
  | 0, _ => rfl
  | n + 1, h => by
    unfold fillTo fillAll
    rw [if_pos (h n (by omega)), fill_all (n := n) fun j hj => h j (by omega)]

/-- No slot is written twice. -/
def Apart (ds : List (Option Tmp)) : Prop := ∀ j k t, j ≠ k → ds.getD j none = some t → ds.getD k none ≠ some t
def upd (vals : Nat → Value) (i : Nat) (v : Value) : Nat → Value := fun j => if j = i then v else vals j

theorem getD_set_false (listed : Array Bool) (i j : Nat) (hi : i < listed.size) : (listed.setIfInBounds i true).getD j false = if i = j then true else listed.getD j false := by
  simp only [Array.getD_eq_getD_getElem?, Array.getElem?_setIfInBounds]
  split
  · rename_i h
    subst h
    first | rfl | (rw [if_pos hi]; rfl)
  · rfl

theorem fill_put {ds : List (Option Tmp)} (hd : Apart ds) {a0 : Act} {listed : Array Bool} {vals : Nat → Value} {i : Nat} (v : Value) (hs : i < listed.size) (hl : listed.getD i false = false) :
    ∀ {n : Nat}, i < n → (fillTo ds a0 listed vals n).put (ds.getD i none) v = fillTo ds a0 (listed.setIfInBounds i true) (upd vals i v) n
  | 0, h => absurd h (Nat.not_lt_zero _)
  | n + 1, h => by
    unfold fillTo
    rw [getD_set_false _ _ _ hs]
    by_cases e : i = n
    · subst e
      rw [if_neg (by rw [hl]; simp), if_pos rfl, if_pos rfl]
      rw [show upd vals i v i = v from if_pos rfl]
      rw [fill_congr (n := i) (l2 := listed.setIfInBounds i true) (v2 := upd vals i v) fun j hj => ⟨by rw [getD_set_false _ _ _ hs, if_neg (by omega)], by unfold upd; rw [if_neg (by omega)]⟩]
    · rw [if_neg e, show upd vals i v n = vals n from if_neg (by omega)]
      have ih := fill_put hd (a0 := a0) (vals := vals) v hs hl (n := n) (by omega)
      split
      · rw [Act.put_comm _ _ _ (fun d h1 h2 => hd n i d (by omega) h1 h2), ih]
      · exact ih

/-- What an operand reads: what its operation has left, or what stood there before the region. -/
theorem fill_size {ds : List (Option Tmp)} {a0 : Act} {listed : Array Bool} {vals : Nat → Value} : ∀ {n : Nat}, (fillTo ds a0 listed vals n).tmps.size = a0.tmps.size
  | 0 => rfl
  | n + 1 => by
    unfold fillTo
    split
    · rw [← fill_size (ds := ds) (a0 := a0) (listed := listed) (vals := vals) (n := n)]
      unfold Act.put
      split
      · simp
      · rfl
    · exact fill_size
theorem fill_other {ds : List (Option Tmp)} {a0 : Act} {listed : Array Bool} {vals : Nat → Value} {x : Operand} (h : ∀ j t, ds.getD j none = some t → x ≠ .tmp t) :
    ∀ {n : Nat}, (fillTo ds a0 listed vals n).eval x = a0.eval x
  | 0 => rfl
  | n + 1 => by
    unfold fillTo
    split
    · rw [Act.eval_put (fun d hd => h n d hd)]; exact fill_other h
    · exact fill_other h
theorem fill_at {ds : List (Option Tmp)} (hd : Apart ds) {a0 : Act} {listed : Array Bool} {vals : Nat → Value} {j t : Nat} (hj : listed.getD j false = true) (ht : ds.getD j none = some t) (hb : t < a0.tmps.size) :
    ∀ {n : Nat}, j < n → (fillTo ds a0 listed vals n).eval (.tmp t) = vals j
  | 0, h => absurd h (Nat.not_lt_zero _)
  | n + 1, h => by
    unfold fillTo
    by_cases e : j = n
    · subst e
      rw [if_pos hj, ht]
      show ((fillTo ds a0 listed vals j).tmps.setIfInBounds t (vals j)).getD t undef = _
      have hs : t < (fillTo ds a0 listed vals j).tmps.size := by rw [fill_size]; exact hb
      simp [Array.getD_eq_getD_getElem?, hs]
    · have ih := fill_at hd (vals := vals) hj ht hb (n := n) (by omega)
      split
      · rw [Act.eval_put (fun d hd' e' => by injection e' with e'; subst e'; exact hd n j _ (by omega) hd' ht)]; exact ih
      · exact ih

/-- For which operations one waits. -/
def deps (o : Oper) : List Nat := (o.after.toList.filter (Region.binds .any)).map (·.on)
def apartB (ds : List (Option Tmp)) : Bool := (List.range ds.length).all fun j => (List.range ds.length).all fun k => j == k || (match ds.getD j none, ds.getD k none with | some t, some u => t != u | _, _ => true)
theorem apart_of {ds : List (Option Tmp)} (h : apartB ds = true) : Apart ds := by
  intro j k t hne hj hk
  unfold apartB at h
  have jl : j < ds.length := by
    rcases Nat.lt_or_ge j ds.length with h | h
    · exact h
    · rw [List.getD_eq_getElem?_getD, List.getElem?_eq_none h] at hj; cases hj
  have kl : k < ds.length := by
    rcases Nat.lt_or_ge k ds.length with h | h
    · exact h
    · rw [List.getD_eq_getElem?_getD, List.getElem?_eq_none h] at hk; cases hk
  have h1 := List.all_eq_true.1 (List.all_eq_true.1 h j (List.mem_range.2 jl)) k (List.mem_range.2 kl)
  rw [hj, hk] at h1
  simp [hne] at h1

/-- THE INVARIANT: the class, the slots, and what is true of each value. -/
def Settled (ds : List (Option Tmp)) (a0 : Act) (n : Nat) (C : World → Prop) (spec : Nat → Value → World → Prop) (listed : Array Bool) (a : Act) (w : World) : Prop :=
  listed.size = n ∧ C w ∧ ∃ vals, a = fillTo ds a0 listed vals n ∧ ∀ j, j < n → listed.getD j false = true → spec j (vals j) w

theorem wp_region_settles {id : Nat} {a0 : Act} {w : World} {l : List Oper} (ds : List (Option Tmp)) (C : World → Prop) (spec : Nat → Value → World → Prop) (R : World → World → Prop)
    (hm : P.follows .mixedOrders = true) (hds : l.map (·.dst) = ds) (hap : apartB ds = true) (hgd : (l.all fun o => o.guard.isNone) = true)
    (hback : ((List.range l.length).all fun i => ((l[i]?).map fun o => (deps o).all (· < i)).getD true) = true)
    (hC : C w.drew) (hst : ∀ j v w w', R w w' → spec j v w → spec j v w')
    (hstep : ∀ (i : Nat) (o : Oper), l[i]? = some o → ∀ (a : Act) (w : World) (vals : Nat → Value), C w → (∀ j, j ∈ deps o → spec j (vals j) w) →
      (∀ j t, j ∈ deps o → ds.getD j none = some t → t < a0.tmps.size → a.eval (.tmp t) = vals j) → (∀ x, (∀ j t, ds.getD j none = some t → x ≠ .tmp t) → a.eval x = a0.eval x) →
      o.wp P a w (fun a' w' => ∃ v, a' = a.put o.dst v ∧ R w w' ∧ C w' ∧ spec i v w') Q)
    (hend : ∀ (vals : Nat → Value) (w' : World), C w' → (∀ j, j < l.length → spec j (vals j) w') → Q .normal (fillAll ds a0 vals l.length) w') :
    (Code.region id l.toArray true).wp P Q a0 w := by
  have hA := apart_of hap
  refine wp_region_any hm (wpAny_settles (Settled ds a0 l.length C spec) ?_ ?_ _ _ _ _ ?_ ?_)
  · rintro listed a w1 i ⟨hsz, hCw, vals, rfl, hsp⟩ hi hli hdep
    have hil : i < l.length := by simpa using hi
    obtain ⟨o, ho⟩ : ∃ o, l[i]? = some o := ⟨l[i], List.getElem?_eq_getElem hil⟩
    have hoa : l.toArray[i]? = some o := by simpa using ho
    have hog : o.guard = none := by
      have := List.all_eq_true.1 hgd o (List.mem_of_getElem? ho)
      simpa using this
    have hlf : listed.getD i false = false := by
      simp only [Array.getD_eq_getD_getElem?] at hli ⊢
      cases hq : listed[i]? with
      | none => rfl
      | some b => rw [hq] at hli; exact hli
    have hdl : ∀ j, j ∈ deps o → listed.getD j false = true ∧ j < l.length := by
      intro j hj
      rw [hoa] at hdep
      unfold deps at hj
      obtain ⟨e, he, rfl⟩ := List.mem_map.1 hj
      obtain ⟨he1, he2⟩ := List.mem_filter.1 he
      have h1 : (o.after.all fun e => !Region.binds .any e || listed.getD e.on false) = true := hdep
      have h2 := Array.all_eq_true_iff_forall_mem.1 h1 e (by simpa using he1)
      rw [he2] at h2
      have h3 : listed.getD e.on false = true := by simpa using h2
      refine ⟨h3, ?_⟩
      rcases Nat.lt_or_ge e.on l.length with h | h
      · exact h
      · simp only [Array.getD_eq_getD_getElem?] at h3
        rw [Array.getElem?_eq_none (by omega)] at h3
        cases h3
    have hdst : o.dst = ds.getD i none := by
      rw [← hds, List.getD_eq_getElem?_getD, List.getElem?_map, ho]; rfl
    unfold wpOp
    rw [hoa]
    have hw : Region.wanted o (yielded l.toArray (fillTo ds a0 listed vals l.length).tmps) = true := by simp [Region.wanted, hog]
    simp only [hw, if_true]
    refine .inl (Oper.wp_mono ?_ (hstep i o ho _ w1 vals hCw (fun j hj => hsp j (hdl j hj).2 (hdl j hj).1) (fun j t hj ht hb => fill_at hA (hdl j hj).1 ht hb (hdl j hj).2) (fun x hx => fill_other hx)))
    rintro a' w' ⟨v, rfl, hR, hC', hsv⟩
    refine ⟨by simpa using hsz, hC', upd vals i v, by rw [hdst]; exact fill_put hA v (by omega) hlf hil, fun j hj hl => ?_⟩
    unfold upd
    split
    · rename_i e; subst e; exact hsv
    · rename_i e
      rw [getD_set_false _ _ _ (by omega), if_neg (fun h => e h.symm)] at hl
      exact hst _ _ _ _ hR (hsp j hj hl)
  · rintro listed a w1 ⟨hsz, hCw, vals, rfl, hsp⟩ hr
    have hall : ∀ i, i < l.length → listed.getD i false = true := by
      intro i
      induction i using Nat.strongRecOn with
      | _ i ih =>
        intro hil
        cases hb : listed.getD i false with
        | true => rfl
        | false =>
          exfalso
          have ho : l[i]? = some l[i] := List.getElem?_eq_getElem hil
          have hmem : i ∈ Region.ready .any l.toArray listed := by
            unfold Region.ready
            refine List.mem_filter.2 ⟨by simpa using hil, ?_⟩
            have h1 : listed.getD i true = false := by
              simp only [Array.getD_eq_getD_getElem?] at hb ⊢
              rw [Array.getElem?_eq_getElem (by omega)] at hb ⊢
              exact hb
            rw [h1]
            have hoa : l.toArray[i]? = some l[i] := by simp
            rw [hoa]
            show (!false && _) = true
            simp only [Bool.not_false, Bool.true_and, Option.map_some, Option.getD_some]
            rw [Array.all_eq_true_iff_forall_mem]
            intro e he
            cases hbd : Region.binds .any e with
            | false => rfl
            | true =>
              have h2 := List.all_eq_true.1 hback i (List.mem_range.2 hil)
              rw [ho] at h2
              have h3 : e.on < i := by
                have h4 := List.all_eq_true.1 (show (deps l[i]).all (· < i) = true from h2) e.on (List.mem_map.2 ⟨e, List.mem_filter.2 ⟨by simpa using he, hbd⟩, rfl⟩)
                simpa using h4
              rw [ih e.on h3 (by omega)]
              rfl
          rw [hr] at hmem
          cases hmem
    rw [fill_all hall]
    exact hend vals w1 hCw fun j hj => hsp j hj (hall j hj)
  · unfold left_
    exact Nat.le_trans List.countP_le_length (by simp)
  · refine ⟨by simp, hC, fun _ => undef, ?_, fun j hj h => ?_⟩
    · have : ∀ n, a0 = fillTo ds a0 (Array.replicate l.toArray.size false) (fun _ => undef) n := by
        intro n
        induction n with
        | zero => rfl
        | succ n ih =>
          unfold fillTo
          rw [if_neg]
          · exact ih
          · simp only [Array.getD_eq_getD_getElem?, Array.getElem?_replicate]
            split <;> simp
      exact this _
    · simp only [Array.getD_eq_getD_getElem?, Array.getElem?_replicate] at h
      split at h <;> simp at h
end

theorem wp_move {P : Program} {o : Oper} {a : Act} {w : World} {K : Act → World → Prop} {Q : Exit → Act → World → Prop} (x : Operand) (h : o.op = .move x) (hk : K (a.put o.dst (a.eval x)) w) : o.wp P a w K Q := by
  unfold Oper.wp; rw [BigFrame.run_move x h]; exact hk
theorem wp_assign {P : Program} {o : Oper} {a : Act} {w : World} {K : Act → World → Prop} {Q : Exit → Act → World → Prop} (x : Operand) (h : o.op = .assign x) (hk : K (a.put o.dst (a.eval x)) w) : o.wp P a w K Q := by
  unfold Oper.wp; rw [BigFrame.run_assign x h]; exact hk
theorem not_in {ds : List (Option Tmp)} {t : Tmp} (h : (ds.all fun d => d != some t) = true) : ∀ j u, ds.getD j none = some u → Operand.tmp t ≠ .tmp u := by
  intro j u hj e
  injection e with e
  subst e
  have jl : j < ds.length := by
    rcases Nat.lt_or_ge j ds.length with h | h
    · exact h
    · rw [List.getD_eq_getElem?_getD, List.getElem?_eq_none h] at hj; cases hj
  rw [List.getD_eq_getElem?_getD, List.getElem?_eq_getElem jl] at hj
  have h1 := List.all_eq_true.1 h ds[j] (List.getElem_mem _)
  have h2 : ds[j] = some t := hj
  rw [h2] at h1
  simp at h1
end Go.Proofs.YtlhiekeolmgilaaGreatDoor
