/- An append to a row of one's own, after which the shorter row is still there. -/
import Derived.Test.YtljlkhaolfihjaaGreatDoorRefO
import Derived.Test.YtljlkhaolfihjaaGreatDoorPgSq
import Derived.Test.YtljlkhaolfihjaaGreatDoorSpecR
namespace Go.Proofs.YtljlkhaolfihjaaGreatDoor
open Go.RowKit

theorem own_short {w : World} {base g n m cap : Nat} {e : TypeId} {xs ys : List Value} (h : w.ownsRow base e 1 (.slice (some ⟨g, 0, none⟩) (n + m) cap) (n + m) (xs ++ ys)) (hx : xs.length = n) : w.ownsRow base e 1 (.slice (some ⟨g, 0, none⟩) n cap) n xs := by
  rcases h.2 with ⟨hv, _⟩ | ⟨g', cap', cur, hv, hb, hg, h1, h2, h3, h4⟩
  · cases hv
  · injection hv with e1 e2 e3
    injection e1 with e1
    injection e1 with e1
    subst e1 e3
    refine ⟨by omega, .inr ⟨g, cap, cur, rfl, hb, hg, by omega, h2, h3, ?_⟩⟩
    have h5 := congrArg (List.take n) h4
    rw [List.take_take, Nat.mul_one, Nat.min_eq_left (by omega), List.take_left' hx] at h5
    rw [Nat.mul_one]; exact h5

theorem run_append_keep {P : Program} (w : World) (base : Nat) (t ty e : TypeId) (i : TypeInfo) (z : Value) (bytes : Nat) (ht : P.underlying t = some (.slice e)) (hi : P.info? e = some i) (hz : i.zero = some z)
    (hsize : i.size = 1) (hby : i.bytes = bytes) (hzs : z.cells.size = 1)
    (v : Value) (n : Nat) (xs : List Value) (hown : w.ownsRow base e 1 v n xs)
    (G c : Nat) (y : Value) (hy : w.heap[G]? = some (.cells #[y] e (0, 0))) (h1 : y.oneCell' = true)
    (h63 : n + 1 ≤ maxLen) (hbytes : (n + 1) * bytes ≤ 140737488355328) (hbase : base ≤ w.heap.size) :
    ∃ v' w', (Builtin.append_ #[t, t] ty #[v, .slice (some ⟨G, 0, none⟩) 1 c]).run P w = .ok v' w' ∧ w'.ownsRow base e 1 v' (n + 1) (xs ++ [y]) ∧ w.grownBy w' v.ownBlock ∧ w'.ownsRow base e 1 v n xs ∧
      ((∃ g cap, v = .slice (some ⟨g, 0, none⟩) n cap ∧ v' = .slice (some ⟨g, 0, none⟩) (n + 1) cap) ∨ ∃ g, v'.ownBlock = some g ∧ w.heap.size ≤ g) := by
  have hnews : ∀ j u, [y][j]? = some u → w.cell? ((⟨G, 0, none⟩ : Addr).add j) = some u := World.news_of_block hy
  have hone : ∀ u ∈ [y], u.oneCell' = true := fun u hu => by rw [List.mem_singleton.1 hu]; exact h1
  have hxl : xs.length = n := by have := hown.1; omega
  obtain ⟨v', w', q1, q2, q3, _⟩ := run_append_own (P := P) w base t ty e i z 1 bytes ht hi hz hsize hby hzs (by decide) v n xs hown ⟨G, 0, none⟩ 1 c [y] rfl hnews hone h63 hbytes hbase
  refine ⟨v', w', q1, q2, q3, ?_⟩
  have hown0 := hown
  rcases hown.2 with ⟨rfl, rfl⟩ | ⟨g, cap, cur, rfl, hbg, hg, hnc, hcm, hcs, htake⟩
  · have hx : xs = [] := List.eq_nil_of_length_eq_zero hxl
    subst hx
    have q := run_append_nil (P := P) w t ty e i z ht hi hz ⟨G, 0, none⟩ 1 c [y] (by rw [hsize]; rfl) hnews (by omega) (by omega) (by rw [hby]; omega)
    rw [q1] at q
    injection q with e1 e2
    exact ⟨World.ownsRow_nil _ _ _ _, .inr ⟨w.heap.size, by rw [e1]; rfl, Nat.le_refl _⟩⟩
  · by_cases hroom : n + 1 ≤ cap
    · have q := run_append_room (P := P) w t ty e i ht hi g n cap cur hg ⟨G, 0, none⟩ 1 c [y] (by rw [hsize]; rfl) hnews hone hroom (by rw [hsize]; simp; omega)
      rw [q1] at q
      injection q with e1 e2
      subst e1
      exact ⟨own_short q2 hxl, .inl ⟨g, cap, rfl, rfl⟩⟩
    · have holds : ∀ j u, xs[j]? = some u → w.cell? ((⟨g, 0, none⟩ : Addr).add j) = some u := hown0.cells rfl
      have q := run_append_grow (P := P) w t ty e i z ht hi hz ⟨g, 0, none⟩ n cap xs (by rw [hsize]; omega) holds ⟨G, 0, none⟩ 1 c [y] (by rw [hsize]; rfl) hnews (by omega) (by unfold maxLen at h63; omega) (growslice_fits (by omega) (by rw [hby]; exact hbytes))
      rw [q1] at q
      injection q with e1 e2
      refine ⟨?_, .inr ⟨w.heap.size, by rw [e1]; rfl, Nat.le_refl _⟩⟩
      rw [e2]
      exact hown0.kept (row := none) ⟨rfl, rfl, rfl, by simp, fun k hk _ => heap_alloc_old w.drew _ hk⟩ (.inr (by simp [Value.ownBlock]))

theorem step_append_keep {P : Program} {w : World} {ops : Array Oper} {o : Oper} {a : Act} {K : Act → World → Prop} {Q : Exit → Act → World → Prop} {E : Prop} (hgd : o.guard = none) (s x : Operand) (t : TypeId)
    (ho : o.op = .call { callee := .builtin .append, args := #[s, x], argTypes := #[t, t] })
    (base : Nat) (e : TypeId) (i : TypeInfo) (z : Value) (bytes : Nat) (ht : P.underlying t = some (.slice e)) (hi : P.info? e = some i) (hz : i.zero = some z)
    (hsize : i.size = 1) (hby : i.bytes = bytes) (hzs : z.cells.size = 1)
    (v : Value) (n : Nat) (xs : List Value) (hs : a.eval s = v) (hown : w.ownsRow base e 1 v n xs)
    (G c : Nat) (y : Value) (hx : a.eval x = .slice (some ⟨G, 0, none⟩) 1 c) (hy : w.heap[G]? = some (.cells #[y] e (0, 0))) (h1 : y.oneCell' = true)
    (h63 : n + 1 ≤ maxLen) (hbytes : (n + 1) * bytes ≤ 140737488355328) (hbase : base ≤ w.heap.size)
    (h : ∀ v' w', w'.ownsRow base e 1 v' (n + 1) (xs ++ [y]) → w.grownBy w' v.ownBlock → w'.ownsRow base e 1 v n xs → ((∃ g cap, v = .slice (some ⟨g, 0, none⟩) n cap ∧ v' = .slice (some ⟨g, 0, none⟩) (n + 1) cap) ∨ ∃ g, v'.ownBlock = some g ∧ w.heap.size ≤ g) → K (a.put o.dst v') w') :
    if Region.wanted o (yielded ops a.tmps) = true then Oper.wp P o a w K Q else E := by
  have hw : Region.wanted o (yielded ops a.tmps) = true := by simp [Region.wanted, hgd]
  rw [if_pos hw]
  obtain ⟨v', w', hr, h2, h3, h4, h5⟩ := run_append_keep (P := P) w base t o.type e i z bytes ht hi hz hsize hby hzs v n xs hown G c y hy h1 h63 hbytes hbase
  unfold Oper.wp execOp
  simp only [ho, resolve, invoke, builtin, Sem.run_bind, Sem.run_pure, Result.andThen_ok, List.map_toArray, List.map_cons, List.map_nil, hs, hx, hr]
  exact h v' w' h2 h3 h4 h5
end Go.Proofs.YtljlkhaolfihjaaGreatDoor

/- Names without some of them, and whether they are in order. -/
namespace Go.Proofs.YtljlkhaolfihjaaGreatDoor
open Go.RowKit Go.Shelf

def SIndexPost (xs : List Int) (x : Int) (w : World) (e : Ending) (w' : World) : Prop :=
  ∃ v : Int, e = .returned (.int .i64 v) ∧ decide (v ≥ 0) = hasB xs x ∧ w' = w
set_option maxHeartbeats 800000 in
theorem sIndex_any (A : Option Addr) (n c : Nat) (xs : List Int) (x : Int) (w : World) (hn : n = xs.length) (hb : n ≤ 1000) (hx : Cells w A (xs.map (Value.int .i64))) :
    Calls Tryz.prog 119 #[.slice A n c, .int .i64 x] w (SIndexPost xs x w) := by
  have HN := Lib.hid hn
  have HX := Lib.hid hx
  clear hn hx
  unfold SIndexPost
  go_enter Tryz.func119, Tryz.ntmps119
  go_wp2_with fail
  go_loop [8] (fun i => ∃ k : Nat, k ≤ n ∧ i = .int .i64 k ∧ Hid (hasB (xs.take k) x = false)) (fun i => n - (intOf i).toNat)
  case atStart => exact ⟨0, Nat.zero_le _, rfl, Lib.hid (by rfl)⟩
  case round =>
    obtain ⟨k, hk, rfl, hno⟩ := hrel
    by_cases hlt : k < n
    · have hks : k < xs.length := by rw [← HN.out]; exact hlt
      obtain ⟨b, off, rfl, hc⟩ := HX.out k (by simpa using hks)
      have hv : (xs.map (Value.int .i64)).getD k undef = .int .i64 xs[k] := by
        rw [List.getD_eq_getElem?_getD, List.getElem?_map, List.getElem?_eq_getElem hks]; rfl
      rw [hv] at hc
      have hmem : xs[k] ∈ xs := List.getElem_mem hks
      have htk := has_step xs x k hks
      generalize xs[k] = y at *
      by_cases hy : y = x
      · subst hy
        have m1 : (y == y) = true := by simp
        have HM : Hid (hasB xs y = true) := Lib.hid (by unfold hasB; simpa using hmem)
        have hk0 : (0 : Int) ≤ (k : Int) := by omega
        clear hmem hv htk hno
        go_wp2_with fail
        go_ret
        exact ⟨_, rfl, by rw [HM.out]; exact decide_eq_true hk0, rfl⟩
      · have m1 : (x == y) = false := by simp [Ne.symm hy]
        have hno2 : Hid (hasB (xs.take (k + 1)) x = false) := Lib.hid (by
          rw [htk, hno.out]
          simp [hy])
        clear hmem hv htk hy hno
        go_wp2_with fail
        go_round
        case rel => exact ⟨k + 1, by omega, by go_num, hno2⟩
        case measure => simp [intOf]; omega
    · have hall : Hid (hasB xs x = false) := Lib.hid (by
        have := hno.out
        rwa [List.take_of_length_le (by rw [← HN.out]; omega)] at this)
      clear hno
      go_wp2_with fail
      go_ret
      exact ⟨_, rfl, by rw [hall.out]; rfl, rfl⟩

set_option maxHeartbeats 800000 in
theorem contains_any (A : Option Addr) (n c : Nat) (xs : List Int) (x : Int) (w : World) (hn : n = xs.length) (hb : n ≤ 1000) (hx : Cells w A (xs.map (Value.int .i64))) :
    Calls Tryz.prog 94 #[.slice A n c, .int .i64 x] w fun e w' => e = .returned (.bool (hasB xs x)) ∧ w' = w := by
  have Q := Lib.hid (sIndex_any A n c xs x w hn hb hx)
  unfold SIndexPost at Q
  generalize hasB xs x = b at *
  clear hn hx
  go_enter Tryz.func94, Tryz.ntmps94
  go_wp2_with fail
  refine Q.out.mono ?_
  rintro e w' ⟨v, rfl, hv, rfl⟩
  subst hv
  clear Q
  go_wp2_with fail
  go_ret
  exact ⟨rfl, rfl⟩

def ClonePost (n : Nat) (xs : List Value) (w : World) (e : Ending) (w' : World) : Prop :=
  ∃ v' : Value, e = .returned v' ∧ w'.ownsRow w.heap.size 3 1 v' n xs ∧ Below w.heap.size w w'
set_option maxRecDepth 100000 in
set_option maxHeartbeats 1600000 in
theorem clone_any (base : Nat) (v : Value) (n : Nat) (xs : List Int) (w : World) (hn : n = xs.length) (hb : n ≤ 1000) (ho : w.ownsRow base 3 1 v n (xs.map (Value.int .i64))) :
    Calls Tryz.prog 93 #[v] w (ClonePost n (xs.map (Value.int .i64)) w) := by
  obtain ⟨si, hi, hz0, hz1, hz2⟩ := info_parts infoInt
  unfold ClonePost
  rcases ho.2 with ⟨rfl, h0⟩ | ⟨g, cap, cur, rfl, _⟩
  · have hx : xs = [] := List.eq_nil_of_length_eq_zero (by omega)
    subst hx
    subst h0
    have q22 : ∀ w : World, (binOp .eql 23 (.slice none 0 0) (.slice none 0 0)).run Tryz.prog w = .ok (.bool true) w := fun w => Lib.run_eql_slice_nil w _ _ none 0 0 0 0 Tryz.underlying23
    clear hn ho
    go_enter Tryz.func93, Tryz.ntmps93
    go_wp2_with fail
    go_ret
    exact ⟨_, rfl, World.ownsRow_nil _ _ _ _, Below.refl _ _⟩
  · have q22 : ∀ w : World, (binOp .eql 23 (.slice (some ⟨g, 0, none⟩) n cap) (.slice none 0 0)).run Tryz.prog w = .ok (.bool false) w := fun w => Lib.run_eql_slice_nil w _ _ (some ⟨g, 0, none⟩) n cap 0 0 Tryz.underlying23
    have hl : (xs.map (Value.int .i64)).length = n := by simp [hn]
    have hone : ∀ y, y ∈ xs.map (Value.int .i64) → y.oneCell' = true := ints_one xs
    have hlit := World.ownsRow_lit w (#[] : Array Value) 0 (e := 3) (size := 1) (base := w.heap.size) (Nat.le_refl _) (by unfold maxLen; omega) rfl
    generalize xs.map (Value.int .i64) = ys at *
    clear hn
    go_enter Tryz.func93, Tryz.ntmps93
    go_wp2_with (at_builtin; refine wpList_append_row _ rfl _ _ 23 rfl w.heap.size 3 si (.int .i64 0) 8 Tryz.underlying23 hi hz0 hz1 hz2 rfl _ 0 [] rfl hlit _ _ n _ rfl (ho.alloc _) hone (by unfold maxLen; omega) (by omega) (by simp) ?_; intro v' wn hownN hgN)
    have hbN := below_append (w := w) hlit (Below.refl _ _) ((Below.refl _ _).alloc (Nat.le_refl _) _) hgN
    go_wp2_with fail
    go_ret
    exact ⟨_, rfl, by simpa using hownN, hbN⟩

def RestPost (q : List Int) (ss : List ByteArray) (w : World) (e : Ending) (w' : World) : Prop :=
  ∃ o : Value, e = .returned o ∧ w'.ownsRow w.heap.size 84 2 o (withoutFrom q 0 ss).length (spellCells (withoutFrom q 0 ss)) ∧ Below w.heap.size w w'
theorem spellCells_snoc (xs : List ByteArray) (X : ByteArray) : spellCells (xs ++ [X]) = spellCells xs ++ [.string (keyS X), .int .i64 (alphaN X.data.toList)] := by
  unfold spellCells; rw [List.flatMap_append]; simp

set_option maxRecDepth 100000 in
set_option maxHeartbeats 3200000 in
theorem pWithout_any (A B : Option Addr) (n c m d : Nat) (ss : List ByteArray) (q : List Int) (w : World) (hn : n = ss.length) (hm : m = q.length) (hb1 : n ≤ 1000) (hb2 : m ≤ 1000)
    (hx : Cells w A (spellCells ss)) (hy : Cells w B (q.map (Value.int .i64))) :
    Calls Tryz.prog 61 #[.slice A n c, .slice B m d] w (RestPost q ss w) := by
  obtain ⟨si, hi, hz0, hz1, hz2⟩ := info_parts infoSpell
  have HN := Lib.hid hn
  have HX := Lib.hid hx
  have HY := Lib.hid hy
  have QC := Lib.hid (fun (x : Int) W (hW : Below w.heap.size w W) => contains_any B m d q x W hm hb2 (hy.below hW))
  clear hn hx hm hy
  go_enter Tryz.func61, Tryz.ntmps61
  go_wp2_with fail
  go_loopw [5, 6, 7, 10] (fun o _ _ i wr => ∃ (k : Nat) (xs : List ByteArray), k ≤ n ∧ xs.length ≤ k ∧ i = .int .i64 k ∧ Hid (xs ++ withoutFrom q k (ss.drop k) = withoutFrom q 0 ss) ∧ wr.ownsRow w.heap.size 84 2 o xs.length (spellCells xs) ∧ Below w.heap.size w wr) (fun _ _ _ i _ => n - (intOf i).toNat)
  case atStart => exact ⟨0, [], Nat.zero_le _, Nat.le_refl _, rfl, Lib.hid rfl, World.ownsRow_nil _ _ _ _, Below.refl _ _⟩
  case round =>
    obtain ⟨k, xs, hk, hxk, rfl, hf, hown, hb⟩ := hrel
    obtain ⟨O, cap, rfl⟩ := own_form hown
    by_cases hlt : k < n
    · have hks : k < ss.length := by rw [← HN.out]; exact hlt
      obtain ⟨b1, o1, rfl, c1, c2⟩ := (HX.out.below hb).spell k hks
      have ed := withoutFrom_drop q ss k hks
      have HST : Hid (xs ++ ((if hasB q (k : Int) then [] else [ss[k]]) ++ withoutFrom q (k + 1) (ss.drop (k + 1))) = withoutFrom q 0 ss) := Lib.hid (by rw [← ed]; exact hf.out)
      have hsn := spellCells_snoc xs ss[k]
      generalize ss[k] = X at *
      have HSN := Lib.hid hsn
      generalize keyS X = KY at *
      generalize alphaN X.data.toList = a at *
      have j1 : (0 : Int) ≤ (k : Int) := by omega
      have j2 : (k : Int) < (n : Int) := by omega
      have hb3 := hb.alloc (o := .cells #[.string KY, .int .i64 a] 84) hb.size
      have hown1 := hown.alloc (.cells #[.string KY, .int .i64 a] 84)
      obtain ⟨x0, x1, x2, x3⟩ := block2_cells (heap_alloc_new wr (.cells #[.string KY, .int .i64 a] 84))
      have q1 := Lib.hid (QC.out (k : Int) _ hb3)
      have hs3 := hb3.size
      clear hf ed hsn hown hb
      go_wp2_with fail
      generalize hWN : wr.alloc (.cells #[.string KY, .int .i64 a] 84) = W at *
      refine q1.out.mono ?_
      rintro e w3 ⟨rfl, rfl⟩
      cases hC : hasB q (k : Int) with
      | true =>
        have e5 : xs ++ withoutFrom q (k + 1) (ss.drop (k + 1)) = withoutFrom q 0 ss := by rw [← HST.out, hC]; rfl
        have E5 := Lib.hid e5
        clear e5 hC q1 HST
        go_wp2_with fail
        go_roundw
        case rel => exact ⟨k + 1, xs, by omega, by omega, by go_num, E5, hown1, hb3⟩
        case measure => simp [intOf]; omega
      | false =>
        have e5 : xs ++ [X] ++ withoutFrom q (k + 1) (ss.drop (k + 1)) = withoutFrom q 0 ss := by rw [← HST.out, hC, List.append_assoc]; rfl
        have E5 := Lib.hid e5
        clear e5 hC q1 HST
        go_wp2_with (at_builtin; refine wpList_append_own _ rfl _ _ 76 rfl w.heap.size 84 si (.agg #[.string ByteArray.empty, .int .i64 0]) 2 24 Tryz.underlying76 hi hz0 hz1 hz2 rfl (by decide) _ _ _ rfl (hown1.alloc _) ⟨w3.heap.size, 0, none⟩ 1 1 [.string KY, .int .i64 a] rfl rfl (two_new _ _ _ _ _ rfl) (by simp [Value.oneCell']) (by unfold maxLen; omega) (by omega) (by simp; omega) ?_; intro v' wN hownN hgN _)
        have hbN := (hb3.alloc hs3 (.cells #[.string KY, .int .i64 a] 84)).grown hgN (by simp; omega) (fun j hj => (hown1.lt j hj).1)
        go_wp2_with fail
        go_roundw
        case rel => exact ⟨k + 1, xs ++ [X], by omega, by simp; omega, by go_num, E5, by rw [HSN.out, List.length_append]; exact hownN, hbN⟩
        case measure => simp [intOf]; omega
    · have e0 : withoutFrom q 0 ss = xs := by
        rw [← hf.out, List.drop_eq_nil_of_le (by rw [← HN.out]; omega)]; simp [withoutFrom]
      have E0 := Lib.hid e0
      clear e0 hf
      go_wp2_with fail
      go_ret
      exact ⟨_, rfl, by rw [E0.out]; exact hown, hb⟩

/-- Without these indices the names are in order. -/
def fineI (ss : List ByteArray) (q : List Int) : Bool := ordB (withoutFrom q 0 ss)
theorem withoutFrom_len (q : List Int) (ss : List ByteArray) : ∀ k, (withoutFrom q k ss).length ≤ ss.length := by
  induction ss with
  | nil => intro k; exact Nat.le_refl _
  | cons s t ih =>
    intro k
    unfold withoutFrom
    split
    · exact Nat.le_trans (ih _) (by simp)
    · simpa using ih (k + 1)
set_option maxHeartbeats 800000 in
theorem good_any (A B : Option Addr) (Bl n c m d : Nat) (ss : List ByteArray) (q : List Int) (w : World) (hn : n = ss.length) (hm : m = q.length) (hb1 : n ≤ 1000) (hb2 : m ≤ 1000)
    (hbx : w.cell? ⟨Bl, 0, none⟩ = some (.slice A n c)) (hx : Cells w A (spellCells ss)) (hy : Cells w B (q.map (Value.int .i64))) :
    Calls Tryz.prog 60 #[.slice B m d, .pointer (some ⟨Bl, 0, none⟩)] w fun e w' => e = .returned (.bool (fineI ss q)) ∧ Below w.heap.size w w' := by
  have Q1 := Lib.hid (pWithout_any A B n c m d ss q w hn hm hb1 hb2 hx hy)
  have hl := withoutFrom_len q ss 0
  have Q2 := Lib.hid (fun O cp W (hW : Cells W O (spellCells (withoutFrom q 0 ss))) => inOrder_any O (withoutFrom q 0 ss).length cp (withoutFrom q 0 ss) W rfl (by omega) hW)
  unfold RestPost at Q1
  unfold fineI
  generalize withoutFrom q 0 ss = rs at *
  generalize ordB rs = b at *
  clear hn hm hx hy
  go_enter Tryz.func60, Tryz.ntmps60
  go_wp2_with fail
  refine Q1.out.mono ?_
  rintro e w1 ⟨o, rfl, ho, hb3⟩
  obtain ⟨O, cp, rfl⟩ := own_form ho
  have CO := Lib.hid (cells_own ho)
  clear ho Q1
  go_wp2_with fail
  refine (Q2.out O cp _ CO.out).mono ?_
  rintro e w2 ⟨rfl, hb4⟩
  have hb5 := hb3.trans (hb4.mono hb3.size)
  go_wp2_with fail
  go_ret
  exact ⟨rfl, hb5⟩
end Go.Proofs.YtljlkhaolfihjaaGreatDoor
