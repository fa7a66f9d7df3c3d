/- Lists of rules in a law's hands; an append of rules that can be read. -/
import Derived.Test.YtlhiekeolmgilaaGreatDoorLawF0
import Derived.Test.YtlhiekeolmgilaaGreatDoorKitG
import Derived.Test.YtlhiekeolmgilaaGreatDoorKitU
import Derived.Test.YtlhiekeolmgilaaGreatDoorSpecE
namespace Go.Proofs.YtlhiekeolmgilaaGreatDoor
open Go.RowKit

theorem ruleCells_len (rs : List (ByteArray × ByteArray)) : (ruleCells rs).length = rs.length * 2 := by
  induction rs with
  | nil => rfl
  | cons r t ih =>
    have e : ruleCells (r :: t) = .string r.1 :: .string r.2 :: ruleCells t := rfl
    rw [e, List.length_cons, List.length_cons, ih, List.length_cons]
    omega

/-- A slice of rules, not long. -/
def RuleList (w : World) (v : Value) (rs : List (ByteArray × ByteArray)) : Prop := ∃ A n c, v = .slice A n c ∧ n = rs.length ∧ n ≤ 1000 ∧ (A = none → c = 0) ∧ Cells w A (ruleCells rs)
theorem RuleList.below {w w' : World} {v : Value} {rs : List (ByteArray × ByteArray)} (h : RuleList w v rs) (hb : Below w.heap.size w w') : RuleList w' v rs := by
  obtain ⟨A, n, c, e, hn, hm, h0, hc⟩ := h
  exact ⟨A, n, c, e, hn, hm, h0, hc.below hb⟩
theorem RuleList.own {w : World} {base n : Nat} {e : TypeId} {v : Value} {rs : List (ByteArray × ByteArray)} (h : w.ownsRow base e 2 v n (ruleCells rs)) (hn : n = rs.length) (hm : n ≤ 1000) : RuleList w v rs := by
  rcases h.2 with ⟨rfl, h0⟩ | ⟨g, cap, cur, rfl, _⟩
  · exact ⟨none, 0, 0, rfl, by omega, by omega, (fun _ => rfl), by have : rs = [] := List.eq_nil_of_length_eq_zero (by omega); subst this; intro i hi; cases hi⟩
  · exact ⟨_, n, cap, rfl, hn, hm, (fun q => nomatch q), cells_own h⟩
/-- Cells that hold such slices. -/
def RuleLists (w : World) (B : Option Addr) (vs : List Value) : Prop := Cells w B vs ∧ ∀ i (h : i < vs.length), ∃ rs, RuleList w vs[i] rs ∧ Short20 rs
theorem RuleLists.below {w w' : World} {B : Option Addr} {vs : List Value} (h : RuleLists w B vs) (hb : Below w.heap.size w w') : RuleLists w' B vs :=
  ⟨h.1.below hb, fun i hi => by obtain ⟨rs, hs, h2⟩ := h.2 i hi; exact ⟨rs, hs.below hb, h2⟩⟩

theorem run_append_read2 {P : Program} (w : World) (base : Nat) (t ty e : TypeId) (i : TypeInfo) (z : Value) (bytes : Nat) (ht : P.underlying t = some (.slice e)) (hi : P.info? e = some i) (hz : i.zero = some z)
    (hsize : i.size = 2) (hby : i.bytes = bytes) (hzs : z.cells.size = 2)
    (v : Value) (n : Nat) (xs : List Value) (hown : w.ownsRow base e 2 v n xs)
    (A : Option Addr) (m c : Nat) (news : List Value) (hl : news.length = m * 2) (hA : A = none → c = 0) (hsrc : Cells w A news) (h1 : ∀ y ∈ news, y.oneCell' = true)
    (h63 : n + m ≤ maxLen) (hbytes : (n + m) * bytes ≤ 140737488355328) (hbase : base ≤ w.heap.size) :
    ∃ v' w', (Builtin.append_ #[t, t] ty #[v, .slice A m c]).run P w = .ok v' w' ∧ w'.ownsRow base e 2 v' (n + m) (xs ++ news) ∧ w.grownBy w' v.ownBlock := by
  cases A with
  | none =>
    have hm : m = 0 := by
      rcases Nat.eq_zero_or_pos m with h | h
      · exact h
      · obtain ⟨b, off, e, _⟩ := hsrc 0 (by omega)
        cases e
    subst hm
    have hn : news = [] := List.eq_nil_of_length_eq_zero (by omega)
    subst hn
    rw [hA rfl]
    exact ⟨v, w, run_append_owned_none w base t ty e i 2 ht hi v n xs hown, by simpa using hown, rfl, rfl, rfl, Nat.le_refl _, fun _ _ _ => rfl⟩
  | some ad =>
    have hnews : ∀ j y, news[j]? = some y → w.cell? (ad.add j) = some y := by
      intro j y hy
      have hj : j < news.length := by
        rcases Nat.lt_or_ge j news.length with h | h
        · exact h
        · rw [List.getElem?_eq_none h] at hy; cases hy
      obtain ⟨b, off, e, hc⟩ := hsrc j hj
      injection e with e
      subst e
      rw [List.getD_eq_getElem?_getD, hy] at hc
      have ea : ((⟨b, off, none⟩ : Addr).add j) = ⟨b, off + j, none⟩ := by
        unfold Addr.add
        split
        · rename_i h0; subst h0; rfl
        · simp
      rw [ea, hc]
      rfl
    obtain ⟨v', w', q1, q2, q3, _⟩ := run_append_own (P := P) w base t ty e i z 2 bytes ht hi hz hsize hby hzs (by decide) v n xs hown ad m c news (by omega) hnews h1 h63 hbytes hbase
    exact ⟨v', w', q1, q2, q3⟩
theorem wpList_append_read2 {P : Program} (w : World) {ops : Array Oper} {rest : List Oper} {o : Oper} {a : Act} {Q : Exit → Act → World → Prop} (hgd : o.guard = none) (s x : Operand) (t : TypeId)
    (ho : o.op = .call { callee := .builtin .append, args := #[s, x], argTypes := #[t, t] })
    (base : Nat) (e : TypeId) (i : TypeInfo) (z : Value) (bytes : Nat) (ht : P.underlying t = some (.slice e)) (hi : P.info? e = some i) (hz : i.zero = some z)
    (hsize : i.size = 2) (hby : i.bytes = bytes) (hzs : z.cells.size = 2)
    (v : Value) (n : Nat) (xs : List Value) (hs : a.eval s = v) (hown : w.ownsRow base e 2 v n xs)
    (A : Option Addr) (m c : Nat) (news : List Value) (hx : a.eval x = .slice A m c) (hl : news.length = m * 2) (hA : A = none → c = 0) (hsrc : Cells w A news) (h1 : ∀ y ∈ news, y.oneCell' = true)
    (h63 : n + m ≤ maxLen) (hbytes : (n + m) * bytes ≤ 140737488355328) (hbase : base ≤ w.heap.size)
    (h : ∀ v' w', w'.ownsRow base e 2 v' (n + m) (xs ++ news) → w.grownBy w' v.ownBlock → wpList P ops Q rest (a.put o.dst v') w') : wpList P ops Q (o :: rest) a w := by
  refine wpList_plain hgd fun K hK => ?_
  obtain ⟨v', w', hr, h2, h3⟩ := run_append_read2 (P := P) w base t o.type e i z bytes ht hi hz hsize hby hzs v n xs hown A m c news hl hA hsrc h1 h63 hbytes hbase
  unfold Oper.wp execOp
  simp only [ho, resolve, invoke, builtin, Sem.run_bind, Sem.run_pure, Result.andThen_ok, List.map_toArray, List.map_cons, List.map_nil, hs, hx, hr]
  exact hK _ _ (h v' w' h2 h3)
/-- An append to an empty row that lies there: nothing that lay is changed. -/
theorem step_append_lit2 {P : Program} {w : World} {o : Oper} {a : Act} {K : Act → World → Prop} {Q : Exit → Act → World → Prop} (s x : Operand) (t : TypeId)
    (ho : o.op = .call { callee := .builtin .append, args := #[s, x], argTypes := #[t, t] })
    (e : TypeId) (i : TypeInfo) (z : Value) (bytes : Nat) (ht : P.underlying t = some (.slice e)) (hi : P.info? e = some i) (hz : i.zero = some z)
    (hsize : i.size = 2) (hby : i.bytes = bytes) (hzs : z.cells.size = 2)
    (G : Nat) (hs : a.eval s = .slice (some ⟨G, 0, none⟩) 0 0) (hg : w.heap[G]? = some (.cells #[] e (0, 0)))
    (A : Option Addr) (m c : Nat) (news : List Value) (hx : a.eval x = .slice A m c) (hl : news.length = m * 2) (hA : A = none → c = 0) (hsrc : Cells w A news) (h1 : ∀ y ∈ news, y.oneCell' = true)
    (h63 : m ≤ 1000) (hbytes : m * bytes ≤ 140737488355328)
    (h : ∀ v' w', (∃ B c', v' = .slice B m c' ∧ Cells w' B news) → Below w.heap.size w w' → K (a.put o.dst v') w') : o.wp P a w K Q := by
  have hown : w.ownsRow 0 e 2 (.slice (some ⟨G, 0, none⟩) 0 0) 0 [] := ⟨rfl, .inr ⟨G, 0, #[], rfl, Nat.zero_le _, hg, Nat.le_refl _, Nat.zero_le _, rfl, rfl⟩⟩
  obtain ⟨v', w', hr, h2, h3⟩ := run_append_read2 (P := P) w 0 t o.type e i z bytes ht hi hz hsize hby hzs _ 0 [] hown A m c news hl hA hsrc h1 (by unfold maxLen; omega) (by rw [Nat.zero_add]; exact hbytes) (Nat.zero_le _)
  rw [Nat.zero_add, List.nil_append] at h2
  have hb : Below w.heap.size w w' := by
    refine ⟨h3.os, h3.tape, h3.output, h3.size, fun k hk => ?_⟩
    by_cases hkG : k = G
    · subst hkG
      cases A with
      | none =>
        have hm : m = 0 := by
          rcases Nat.eq_zero_or_pos m with h | h
          · exact h
          · obtain ⟨b, off, e, _⟩ := hsrc 0 (by omega)
            cases e
        have h4 := run_append_owned_none (P := P) w 0 t o.type e i 2 ht hi _ 0 [] hown
        rw [hm, hA rfl] at hr
        rw [hr] at h4
        injection h4 with _ h5
        rw [h5]
      | some ad =>
        have hnews : ∀ j y, news[j]? = some y → w.cell? (ad.add j) = some y := by
          intro j y hy
          have hj : j < news.length := by
            rcases Nat.lt_or_ge j news.length with h | h
            · exact h
            · rw [List.getElem?_eq_none h] at hy; cases hy
          obtain ⟨b, off, e, hc⟩ := hsrc j hj
          injection e with e
          subst e
          rw [List.getD_eq_getElem?_getD, hy] at hc
          have ea : ((⟨b, off, none⟩ : Addr).add j) = ⟨b, off + j, none⟩ := by
            unfold Addr.add
            split
            · rename_i h0; subst h0; rfl
            · simp
          rw [ea, hc]
          rfl
        by_cases hm : m = 0
        · have hn : news = [] := List.eq_nil_of_length_eq_zero (by omega)
          have h4 := run_append_room (P := P) w t o.type e i ht hi k 0 0 #[] hg ad m c news (by rw [hl, hsize]) hnews h1 (by omega) (by rw [hn]; simp)
          rw [hr] at h4
          injection h4 with _ h5
          rw [h5, setRow_heap w k #[] _ e (0, 0) hg, hg, hn]
          simp
        · have h4 := run_append_grow (P := P) w t o.type e i z ht hi hz ⟨k, 0, none⟩ 0 0 [] (by simp) (fun j v h => by simp at h) ad m c news (by rw [hl, hsize]) hnews (by omega) (by omega) (growslice_fits (by omega) (by rw [Nat.zero_add, hby]; exact hbytes))
          rw [hr] at h4
          injection h4 with _ h5
          rw [h5]
          exact heap_alloc_old w.drew _ hk
    · exact h3.block k hk (by simp [Value.ownBlock]; omega)
  obtain ⟨B, c', hv⟩ := own_form h2
  rw [hv] at h2
  unfold Oper.wp execOp
  simp only [ho, resolve, invoke, builtin, Sem.run_bind, Sem.run_pure, Result.andThen_ok, List.map_toArray, List.map_cons, List.map_nil, hs, hx, hr]
  exact h v' w' ⟨B, c', hv, cells_own h2⟩ hb
theorem long_rules {rs : List (ByteArray × ByteArray)} {ss : List ByteArray} (h : longB rs ss = false) : rs.length ≤ 20 ∧ Short20 rs ∧ ss.length ≤ 20 ∧ ∀ s, s ∈ ss → s.size ≤ 20 := by
  rw [longB_eq] at h
  simp only [Bool.or_eq_false_iff, decide_eq_false_iff_not] at h
  obtain ⟨⟨⟨h1, h2⟩, h3⟩, h4⟩ := h
  refine ⟨by omega, fun r hr => ?_, by omega, fun s hs => ?_⟩
  · rw [List.any_eq_false] at h2
    have h5 := h2 r hr
    unfold ruleLong at h5
    simp only [decide_eq_true_eq] at h5
    omega
  · rw [List.any_eq_false] at h1
    have h5 := h1 s hs
    unfold strLong at h5
    simp only [decide_eq_true_eq] at h5
    omega
theorem nearFrom_len (rs : List (ByteArray × ByteArray)) (m : ByteArray) (u : Nat) : ∀ (l : List ByteArray) (k : Nat), (nearFrom rs m u k l).length ≤ l.length
  | [], _ => Nat.le_refl _
  | s :: t, k => by
    have := nearFrom_len rs m u t (k + 1)
    unfold nearFrom
    split <;> simp <;> omega
theorem nearTo_len (rs : List (ByteArray × ByteArray)) (m : ByteArray) (ss : List ByteArray) : ∀ u : Nat, (nearTo rs m ss u).length ≤ u * ss.length
  | 0 => Nat.le_of_eq (by rw [Nat.zero_mul]; rfl)
  | u + 1 => by
    have h1 := nearFrom_len rs m u ss 0
    have h2 := nearTo_len rs m ss u
    unfold nearTo
    rw [List.length_append, Nat.succ_mul]
    omega
theorem nearL_len (rs : List (ByteArray × ByteArray)) (m : ByteArray) (ss : List ByteArray) : (nearL rs m ss).length ≤ 3 * ss.length := by
  unfold nearL
  split
  · exact nearTo_len rs m ss 3
  · simp
theorem froms_short : ∀ x, x ∈ froms → x.size ≤ 1000 := by decide +kernel
theorem tos_short : ∀ x, x ∈ tos → x.size ≤ 1000 := by decide +kernel
theorem made_short {rs : List (ByteArray × ByteArray)} (h : ∀ r, r ∈ rs → r.1 ∈ froms ∧ r.2 ∈ tos) : Short20 rs := fun r hr => ⟨froms_short _ (h r hr).1, tos_short _ (h r hr).2⟩
theorem Short20.fine {rs : List (ByteArray × ByteArray)} (h : Short20 rs) : Fine rs := fun r hr => by have := h r hr; omega
end Go.Proofs.YtlhiekeolmgilaaGreatDoor
