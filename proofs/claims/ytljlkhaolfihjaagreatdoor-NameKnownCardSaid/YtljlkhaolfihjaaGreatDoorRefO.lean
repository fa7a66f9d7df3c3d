/- The reference of names: all that one use of a rule makes of a string. -/
import Derived.Test.YtljlkhaolfihjaaGreatDoorRefN
import Derived.Laws.AppendOwnNone
import Derived.Deep.RegionLaw
namespace Go.Proofs.YtljlkhaolfihjaaGreatDoor
open Go.RowKit

/-- An append of a whole row that somebody owns, be it nil or not. -/
theorem run_append_row {P : Program} (w : World) (base : Nat) (t ty e : TypeId) (i : TypeInfo) (z : Value) (bytes : Nat) (ht : P.underlying t = some (.slice e)) (hi : P.info? e = some i) (hz : i.zero = some z)
    (hsize : i.size = 1) (hby : i.bytes = bytes) (hzs : z.cells.size = 1)
    (v : Value) (n : Nat) (xs : List Value) (hown : w.ownsRow base e 1 v n xs)
    (base2 : Nat) (u : Value) (m : Nat) (news : List Value) (hsrc : w.ownsRow base2 e 1 u m news) (h1 : ∀ y ∈ news, y.oneCell' = true)
    (h63 : n + m ≤ maxLen) (hbytes : (n + m) * bytes ≤ 140737488355328) (hbase : base ≤ w.heap.size) :
    ∃ v' w', (Builtin.append_ #[t, t] ty #[v, u]).run P w = .ok v' w' ∧ w'.ownsRow base e 1 v' (n + m) (xs ++ news) ∧ w.grownBy w' v.ownBlock := by
  have hl := hsrc.1
  rcases own_form hsrc with ⟨A, cap, rfl⟩
  rcases hsrc.2 with ⟨hv, hm⟩ | ⟨g, cap', cur, hv, _⟩
  · subst hm
    have hn : news = [] := List.eq_nil_of_length_eq_zero (by omega)
    subst hn
    exact ⟨v, w, by rw [hv]; exact run_append_owned_none w base t ty e i 1 ht hi v n xs hown, by simpa using hown, rfl, rfl, rfl, Nat.le_refl _, fun _ _ _ => rfl⟩
  · injection hv with e1 e2 e3
    subst e1 e3
    have hnews : ∀ j y, news[j]? = some y → w.cell? ((⟨g, 0, none⟩ : Addr).add j) = some y := by
      intro j y hy
      have hj : j < news.length := by
        rcases Nat.lt_or_ge j news.length with h | h
        · exact h
        · rw [List.getElem?_eq_none h] at hy; cases hy
      have hc := hsrc.cellAt j (by omega)
      rw [hy] at hc
      have ea : ((⟨g, 0, none⟩ : Addr).add j) = ⟨g, j, none⟩ := by
        unfold Addr.add
        split
        · rename_i h0; subst h0; rfl
        · simp
      rw [ea, hc]
    obtain ⟨v', w', q1, q2, q3, _⟩ := run_append_own (P := P) w base t ty e i z 1 bytes ht hi hz hsize hby hzs (by decide) v n xs hown ⟨g, 0, none⟩ m cap news (by omega) hnews h1 h63 hbytes hbase
    exact ⟨v', w', q1, q2, q3⟩

/-- The same, as a step of a region that draws its order. -/
theorem step_append_row {P : Program} {w : World} {ops : Array Oper} {o : Oper} {a : Act} {K : Act → World → Prop} {Q : Exit → Act → World → Prop} {E : Prop} (hgd : o.guard = none) (s x : Operand) (t : TypeId)
    (ho : o.op = .call { callee := .builtin .append, args := #[s, x], argTypes := #[t, t] })
    (base : Nat) (e : TypeId) (i : TypeInfo) (z : Value) (bytes : Nat) (ht : P.underlying t = some (.slice e)) (hi : P.info? e = some i) (hz : i.zero = some z)
    (hsize : i.size = 1) (hby : i.bytes = bytes) (hzs : z.cells.size = 1)
    (v : Value) (n : Nat) (xs : List Value) (hs : a.eval s = v) (hown : w.ownsRow base e 1 v n xs)
    (base2 : Nat) (u : Value) (m : Nat) (news : List Value) (hx : a.eval x = u) (hsrc : w.ownsRow base2 e 1 u m news) (h1 : ∀ y ∈ news, y.oneCell' = true)
    (h63 : n + m ≤ maxLen) (hbytes : (n + m) * bytes ≤ 140737488355328) (hbase : base ≤ w.heap.size)
    (h : ∀ v' w', w'.ownsRow base e 1 v' (n + m) (xs ++ news) → w.grownBy w' v.ownBlock → K (a.put o.dst v') w') :
    if Region.wanted o (yielded ops a.tmps) = true then Oper.wp P o a w K Q else E := by
  have hw : Region.wanted o (yielded ops a.tmps) = true := by simp [Region.wanted, hgd]
  rw [if_pos hw]
  obtain ⟨v', w', hr, h2, h3⟩ := run_append_row (P := P) w base t o.type e i z bytes ht hi hz hsize hby hzs v n xs hown base2 u m news hsrc h1 h63 hbytes hbase
  unfold Oper.wp execOp
  simp only [ho, resolve, invoke, builtin, Sem.run_bind, Sem.run_pure, Result.andThen_ok, List.map_toArray, List.map_cons, List.map_nil, hs, hx, hr]
  exact h v' w' h2 h3

/-- All strings that one use of a rule makes. -/
def madeL (rs : List (ByteArray × ByteArray)) (s : ByteArray) : List ByteArray := rs.flatMap fun r => repL s r.1 r.2 ++ repL s r.2 r.1
theorem madeL_step (rs : List (ByteArray × ByteArray)) (s : ByteArray) (k : Nat) (hk : k < rs.length) : madeL (rs.take (k + 1)) s = madeL (rs.take k) s ++ repL s rs[k].1 rs[k].2 ++ repL s rs[k].2 rs[k].1 := by
  unfold madeL; rw [List.take_succ_eq_append_getElem hk, List.flatMap_append]; simp
theorem repL_len (s a b : ByteArray) (h : s.size ≤ 12) : (repL s a b).length ≤ 13 := Nat.le_trans (repTo_len _ _ _ _) (by omega)

/-- An append of a row of somebody's writes nothing below. -/
theorem below_row {w wa wn : World} {n size : Nat} {e : TypeId} {o : Value} {xs : List Value} (hown : wa.ownsRow w.heap.size e size o n xs) (hb : Below w.heap.size w wa)
    (hn : wa.grownBy wn o.ownBlock) : Below w.heap.size w wn :=
  hb.grown hn hb.size fun k hk => (hown.lt k hk).1

theorem strs_one (xs : List ByteArray) : ∀ y ∈ xs.map Value.string, y.oneCell' = true := by
  intro y hy
  obtain ⟨s, _, rfl⟩ := List.mem_map.1 hy
  rfl

def Short100 (rs : List (ByteArray × ByteArray)) : Prop := ∀ r, r ∈ rs → r.1.size ≤ 1000 ∧ r.2.size ≤ 1000

end Go.Proofs.YtljlkhaolfihjaaGreatDoor
