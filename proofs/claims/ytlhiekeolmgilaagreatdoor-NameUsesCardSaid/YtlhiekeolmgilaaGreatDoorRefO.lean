/- The reference of names: all that one use of a rule makes of a string. -/
import Derived.Test.YtlhiekeolmgilaaGreatDoorRefN
import Derived.Laws.AppendOwnNone
import Derived.Deep.RegionLaw
namespace Go.Proofs.YtlhiekeolmgilaaGreatDoor
open Go.RowKit

/-- An append of a whole row that somebody owns, be it nil or not. -/
theorem run_append_row {P : Program} (w : World) (base : Nat) (t ty e : TypeId) (i : TypeInfo) (z : Value) (bytes : Nat) (ht : P.underlying t = some (.slice e)) (hi : P.info? e = some i) (hz : i.zero = some z)
    (hsize : i.size = 1) (hby : i.bytes = bytes) (hzs : z.cells.size = 1)
    (v : Value) (n : Nat) (xs : List Value) (hown : w.ownsRow base e 1 v n xs)
    (base2 : Nat) (u : Value) (m : Nat) (news : List Value) (hsrc : w.ownsRow base2 e 1 u m news) (h1 : ∀ y ∈ news, y.oneCell' = true)
    (h63 : n + m ≤ maxLen) (hbytes : (n + m) * bytes ≤ 140737488355328) (hbase : base ≤ w.heap.size) :
    ∃ v' w', (Builtin.append_ #[t, t] ty #[v, u]).run P w = .ok v' w' ∧ w'.ownsRow base e 1 v' (n + m) (xs ++ news) ∧ w.grownBy w' v.ownBlock := by
  have hl := hsrc.1
  rcases own_form hsrc with ⟨A, cap, rfl⟩
  rcases hsrc.2 with ⟨hv, hm⟩ | ⟨g, cap', cur, hv, _⟩
  · subst hm
    have hn : news = [] := List.eq_nil_of_length_eq_zero (by omega)
    subst hn
    exact ⟨v, w, by rw [hv]; exact run_append_owned_none w base t ty e i 1 ht hi v n xs hown, by simpa using hown, rfl, rfl, rfl, Nat.le_refl _, fun _ _ _ => rfl⟩
  · injection hv with e1 e2 e3
    subst e1 e3
    have hnews : ∀ j y, news[j]? = some y → w.cell? ((⟨g, 0, none⟩ : Addr).add j) = some y := by
      intro j y hy
      have hj : j < news.length := by
        rcases Nat.lt_or_ge j news.length with h | h
        · exact h
        · rw [List.getElem?_eq_none h] at hy; cases hy
      have hc := hsrc.cellAt j (by omega)
      rw [hy] at hc
      have ea : ((⟨g, 0, none⟩ : Addr).add j) = ⟨g, j, none⟩ := by
        unfold Addr.add
        split
        · rename_i h0; subst h0; rfl
        · simp
      rw [ea, hc]
    obtain ⟨v', w', q1, q2, q3, _⟩ := run_append_own (P := P) w base t ty e i z 1 bytes ht hi hz hsize hby hzs (by decide) v n xs hown ⟨g, 0, none⟩ m cap news (by omega) hnews h1 h63 hbytes hbase
    exact ⟨v', w', q1, q2, q3⟩

/-- The same, as a step of a region that draws its order. -/
theorem step_append_row {P : Program} {w : World} {ops : Array Oper} {o : Oper} {a : Act} {K : Act → World → Prop} {Q : Exit → Act → World → Prop} {E : Prop} (hgd : o.guard = none) (s x : Operand) (t : TypeId)
    (ho : o.op = .call { callee := .builtin .append, args := #[s, x], argTypes := #[t, t] })
    (base : Nat) (e : TypeId) (i : TypeInfo) (z : Value) (bytes : Nat) (ht : P.underlying t = some (.slice e)) (hi : P.info? e = some i) (hz : i.zero = some z)
    (hsize : i.size = 1) (hby : i.bytes = bytes) (hzs : z.cells.size = 1)
    (v : Value) (n : Nat) (xs : List Value) (hs : a.eval s = v) (hown : w.ownsRow base e 1 v n xs)
    (base2 : Nat) (u : Value) (m : Nat) (news : List Value) (hx : a.eval x = u) (hsrc : w.ownsRow base2 e 1 u m news) (h1 : ∀ y ∈ news, y.oneCell' = true)
    (h63 : n + m ≤ maxLen) (hbytes : (n + m) * bytes ≤ 140737488355328) (hbase : base ≤ w.heap.size)
    (h : ∀ v' w', w'.ownsRow base e 1 v' (n + m) (xs ++ news) → w.grownBy w' v.ownBlock → K (a.put o.dst v') w') :
    if Region.wanted o (yielded ops a.tmps) = true then Oper.wp P o a w K Q else E := by
  have hw : Region.wanted o (yielded ops a.tmps) = true := by simp [Region.wanted, hgd]
  rw [if_pos hw]
  obtain ⟨v', w', hr, h2, h3⟩ := run_append_row (P := P) w base t o.type e i z bytes ht hi hz hsize hby hzs v n xs hown base2 u m news hsrc h1 h63 hbytes hbase
  unfold Oper.wp execOp
  simp only [ho, resolve, invoke, builtin, Sem.run_bind, Sem.run_pure, Result.andThen_ok, List.map_toArray, List.map_cons, List.map_nil, hs, hx, hr]
  exact h v' w' h2 h3

/-- All strings that one use of a rule makes. -/
def madeL (rs : List (ByteArray × ByteArray)) (s : ByteArray) : List ByteArray := rs.flatMap fun r => repL s r.1 r.2 ++ repL s r.2 r.1
theorem madeL_step (rs : List (ByteArray × ByteArray)) (s : ByteArray) (k : Nat) (hk : k < rs.length) : madeL (rs.take (k + 1)) s = madeL (rs.take k) s ++ repL s rs[k].1 rs[k].2 ++ repL s rs[k].2 rs[k].1 := by
  unfold madeL; rw [List.take_succ_eq_append_getElem hk, List.flatMap_append]; simp
theorem repL_len (s a b : ByteArray) (h : s.size ≤ 12) : (repL s a b).length ≤ 13 := Nat.le_trans (repTo_len _ _ _ _) (by omega)

/-- An append of a row of somebody's writes nothing below. -/
theorem below_row {w wa wn : World} {n size : Nat} {e : TypeId} {o : Value} {xs : List Value} (hown : wa.ownsRow w.heap.size e size o n xs) (hb : Below w.heap.size w wa)
    (hn : wa.grownBy wn o.ownBlock) : Below w.heap.size w wn :=
  hb.grown hn hb.size fun k hk => (hown.lt k hk).1

theorem strs_one (xs : List ByteArray) : ∀ y ∈ xs.map Value.string, y.oneCell' = true := by
  intro y hy
  obtain ⟨s, _, rfl⟩ := List.mem_map.1 hy
  rfl

def Short100 (rs : List (ByteArray × ByteArray)) : Prop := ∀ r, r ∈ rs → r.1.size ≤ 1000 ∧ r.2.size ≤ 1000

set_option maxRecDepth 100000 in
set_option maxHeartbeats 1600000 in
theorem Made_any (A : Option Addr) (n c : Nat) (rs : List (ByteArray × ByteArray)) (s : ByteArray) (w : World) (hn : n = rs.length) (hb : n ≤ 1000) (hs : s.size ≤ 12) (hf : Short100 rs) (hx : Cells w A (ruleCells rs)) :
    Calls Tryz.prog 114 #[.slice A n c, .string s] w (StrsPost (madeL rs s) w) := by
  have HN := Lib.hid hn
  have HX := Lib.hid hx
  have HV := Lib.hid hf
  clear hn hx hf
  obtain ⟨si, hi, hz0, hz1, hz2⟩ := info_parts infoStr
  go_enter Tryz.func114, Tryz.ntmps114
  go_wp2_with fail
  go_loopw [5, 6] (fun o i wr => ∃ (k : Nat) (xs : List ByteArray), k ≤ n ∧ xs.length ≤ 26 * k ∧ i = .int .i64 k ∧ xs = madeL (rs.take k) s ∧ wr.ownsRow w.heap.size 9 1 o xs.length (xs.map Value.string) ∧ Below w.heap.size w wr) (fun _ i _ => n - (intOf i).toNat)
  case atStart => exact ⟨0, [], Nat.zero_le _, Nat.le_refl _, rfl, rfl, World.ownsRow_nil _ _ _ _, Below.refl _ _⟩
  case round =>
    obtain ⟨k, xs, hk, hxk, rfl, hf, hown, hbw⟩ := hrel
    have HF := Lib.hid hf
    clear hf
    by_cases hlt : k < n
    · have hks : k < rs.length := by rw [← HN.out]; exact hlt
      obtain ⟨b1, o1, rfl, c1, c2⟩ := HX.out.rule k hks
      have c3 := (hbw.cell (World.block_lt_of_cell? w _ c1)).trans c1
      have c4 := (hbw.cell (World.block_lt_of_cell? w _ c2)).trans c2
      have c5 : wr.drew.cell? ⟨b1, o1 + k * 2, none⟩ = _ := c3
      have c6 : wr.drew.cell? ⟨b1, o1 + k * 2 + 1, none⟩ = _ := c4
      have ed := madeL_step rs s k hks
      obtain ⟨z1, z2⟩ := HV.out rs[k] (List.getElem_mem _)
      generalize hX : rs[k] = X at *
      obtain ⟨X, Y⟩ := X
      simp only at c1 c2 c3 c4 c5 c6 z1 z2 ed
      have l1 := repL_len s X Y hs
      have l2 := repL_len s Y X hs
      have ED := Lib.hid ed
      have j5 : (0 : Int) ≤ (k : Int) := by omega
      have j6 : (k : Int) < (n : Int) := by omega
      have cw1 := c1
      have cw2 := c2
      clear hX ed c1 c2
      go_upto_region 5 with fail
      go_cut [5] (fun v wx => wx.ownsRow w.heap.size 9 1 v (xs.length + (repL s X Y).length) (xs.map Value.string ++ (repL s X Y).map Value.string) ∧ Below w.heap.size w wx)
      case first =>
        go_region_law (first
          | (refine step_append_row rfl _ _ 22 rfl w.heap.size 9 si (.string ByteArray.empty) 16 Tryz.underlying22 hi hz0 hz1 hz2 rfl _ _ _ rfl (own_below (own_drew hown) hb2) _ _ _ _ rfl ho2 (strs_one _) (by unfold maxLen; omega) (by omega) hws2 ?_; intro v' wn hownN hgN)
          | (go_simp; go_wp2_with ((go_at_call 142; refine (replaced_any s X Y _ (by omega) z1 z2).mono ?_; rintro e w1 ⟨o2, rfl, ho2, hb2⟩; have hws2 : w.heap.size ≤ w1.heap.size := Nat.le_trans hbw.size hb2.size))))
        all_goals
          have h3 : Below wr.heap.size wr w1 := ⟨hb2.os, hb2.tape, hb2.output, hb2.size, hb2.block⟩
          have hbN := below_row (own_below (own_drew hown) hb2) (hbw.trans (h3.mono hbw.size)) hgN
          go_wp2_with fail
          go_meet
          exact ⟨hownN, hbN⟩
      case rest =>
        obtain ⟨hown2, hbc⟩ := hcut
        have d1 : wc.drew.cell? ⟨b1, o1 + k * 2, none⟩ = some (.string X) := (hbc.cell (World.block_lt_of_cell? w _ cw1)).trans cw1
        have d2 : wc.drew.cell? ⟨b1, o1 + k * 2 + 1, none⟩ = some (.string Y) := (hbc.cell (World.block_lt_of_cell? w _ cw2)).trans cw2
        have d3 : wc.cell? ⟨b1, o1 + k * 2, none⟩ = some (.string X) := d1
        have d4 : wc.cell? ⟨b1, o1 + k * 2 + 1, none⟩ = some (.string Y) := d2
        have hwc := hbc.size
        clear hown hbw c3 c4 c5 c6
        generalize hL1 : repL s X Y = L1 at *
        generalize hL2 : repL s Y X = L2 at *
        have H1 := Lib.hid hL1
        have H2 := Lib.hid hL2
        clear hL1 hL2
        go_wp2_with fail
        go_region_law (first
          | (refine step_append_row rfl _ _ 22 rfl w.heap.size 9 si (.string ByteArray.empty) 16 Tryz.underlying22 hi hz0 hz1 hz2 rfl _ _ _ rfl (own_below (own_drew hown2) hb2) _ _ _ _ rfl ho2 (strs_one _) (by unfold maxLen; omega) (by omega) hws2 ?_; intro v' wn hownN hgN)
          | (go_simp; go_wp2_with ((go_at_call 142; refine (replaced_any s Y X _ (by omega) z2 z1).mono ?_; rw [H2.out]; rintro e w1 ⟨o2, rfl, ho2, hb2⟩; have hws2 : w.heap.size ≤ w1.heap.size := Nat.le_trans hbc.size hb2.size))))
        all_goals
          have h3 : Below wc.heap.size wc w1 := ⟨hb2.os, hb2.tape, hb2.output, hb2.size, hb2.block⟩
          have hbN := below_row (own_below (own_drew hown2) hb2) (hbc.trans (h3.mono hbc.size)) hgN
          go_wp2
          go_roundw
          case rel => exact ⟨k + 1, xs ++ L1 ++ L2, by omega, by rw [List.length_append, List.length_append]; omega, by go_num, by rw [ED.out, ← HF.out], by rw [List.length_append, List.length_append, List.map_append, List.map_append]; exact hownN, hbN⟩
          case measure => simp [intOf]; omega
    · have ek : k = n := by omega
      have e0 : madeL rs s = xs := by rw [HF.out, ek, HN.out, List.take_length]
      have E0 := Lib.hid e0
      clear e0
      go_wp2
      go_ret
      exact ⟨_, rfl, by rw [E0.out]; exact hown, hbw⟩
end Go.Proofs.YtlhiekeolmgilaaGreatDoor
