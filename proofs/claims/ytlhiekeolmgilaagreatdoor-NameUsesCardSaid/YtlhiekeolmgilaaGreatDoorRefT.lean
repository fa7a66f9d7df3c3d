/- The reference of names: chains of uses. -/
import Derived.Test.YtlhiekeolmgilaaGreatDoorRefO
import Derived.Deep.Onto
namespace Go.Proofs.YtlhiekeolmgilaaGreatDoor
open Go.RowKit

/-- An append of a whole row that somebody owns, at the list of a plain region. -/
theorem wpList_append_row {P : Program} (w : World) {ops : Array Oper} {rest : List Oper} {o : Oper} {a : Act} {Q : Exit → Act → World → Prop} (hgd : o.guard = none) (s x : Operand) (t : TypeId)
    (ho : o.op = .call { callee := .builtin .append, args := #[s, x], argTypes := #[t, t] })
    (base : Nat) (e : TypeId) (i : TypeInfo) (z : Value) (bytes : Nat) (ht : P.underlying t = some (.slice e)) (hi : P.info? e = some i) (hz : i.zero = some z)
    (hsize : i.size = 1) (hby : i.bytes = bytes) (hzs : z.cells.size = 1)
    (v : Value) (n : Nat) (xs : List Value) (hs : a.eval s = v) (hown : w.ownsRow base e 1 v n xs)
    (base2 : Nat) (u : Value) (m : Nat) (news : List Value) (hx : a.eval x = u) (hsrc : w.ownsRow base2 e 1 u m news) (h1 : ∀ y ∈ news, y.oneCell' = true)
    (h63 : n + m ≤ maxLen) (hbytes : (n + m) * bytes ≤ 140737488355328) (hbase : base ≤ w.heap.size)
    (h : ∀ v' w', w'.ownsRow base e 1 v' (n + m) (xs ++ news) → w.grownBy w' v.ownBlock → wpList P ops Q rest (a.put o.dst v') w') : wpList P ops Q (o :: rest) a w := by
  refine wpList_plain hgd fun K hK => ?_
  obtain ⟨v', w', hr, h2, h3⟩ := run_append_row (P := P) w base t o.type e i z bytes ht hi hz hsize hby hzs v n xs hown base2 u m news hsrc h1 h63 hbytes hbase
  unfold Oper.wp execOp
  simp only [ho, resolve, invoke, builtin, Sem.run_bind, Sem.run_pure, Result.andThen_ok, List.map_toArray, List.map_cons, List.map_nil, hs, hx, hr]
  exact hK _ _ (h v' w' h2 h3)

/-- One string more: is the chain by way of it the first so far? -/
def stepC (s : ByteArray) (f : ByteArray → List ByteArray × Bool) (acc : List ByteArray × Bool) (x : ByteArray) : List ByteArray × Bool :=
  if (f x).2 && (!acc.2 || Op.bytesLess x.toList ((acc.1[1]?).getD ByteArray.empty).toList) then (s :: (f x).1, true) else acc
/-- The first chain with so many uses; whether there is one. -/
def chainL (rs : List (ByteArray × ByteArray)) : Nat → ByteArray → ByteArray → List ByteArray × Bool
  | 0, s, t => ([s], s.toList == t.toList)
  | u + 1, s, t => (madeL rs s).foldl (stepC s (fun x => chainL rs u x t)) ([], false)

def Good (u : Nat) (p : List ByteArray × Bool) : Prop := p.1.length ≤ u + 1 ∧ (p.2 = true → 1 ≤ p.1.length)
def Good2 (u : Nat) (p : List ByteArray × Bool) : Prop := p.1.length ≤ u + 2 ∧ (p.2 = true → 2 ≤ p.1.length)

theorem stepC_good (s : ByteArray) (f : ByteArray → List ByteArray × Bool) (u : Nat) (hf : ∀ x, Good u (f x)) (acc : List ByteArray × Bool) (x : ByteArray) (h : Good2 u acc) : Good2 u (stepC s f acc x) := by
  unfold stepC
  split
  · rename_i h1
    simp only [Bool.and_eq_true] at h1
    obtain ⟨g1, g2⟩ := hf x
    exact ⟨by simp; omega, fun _ => by have := g2 h1.1; simp; omega⟩
  · exact h
theorem foldC_good (s : ByteArray) (f : ByteArray → List ByteArray × Bool) (u : Nat) (hf : ∀ x, Good u (f x)) (l : List ByteArray) : ∀ acc, Good2 u acc → Good2 u (l.foldl (stepC s f) acc) := by
  induction l with
  | nil => exact fun _ h => h
  | cons a t ih => exact fun acc h => ih _ (stepC_good s f u hf acc a h)
theorem chainL_good (rs : List (ByteArray × ByteArray)) (u : Nat) : ∀ s t, Good u (chainL rs u s t) := by
  induction u with
  | zero => exact fun s t => ⟨by simp [chainL], fun _ => by simp [chainL]⟩
  | succ u ih =>
    intro s t
    obtain ⟨h1, h2⟩ := foldC_good s (fun x => chainL rs u x t) u (fun x => ih x t) (madeL rs s) ([], false) ⟨by simp, by simp⟩
    exact ⟨h1, fun h => by have := h2 h; show 1 ≤ _; exact Nat.le_trans (by omega) this⟩

theorem made_small {rs : List (ByteArray × ByteArray)} {s x : ByteArray} (h : x ∈ madeL rs s) : x.size ≤ 12 := by
  unfold madeL at h
  obtain ⟨r, _, h⟩ := List.mem_flatMap.1 h
  have key : ∀ a b, x ∈ repL s a b → x.size ≤ 12 := by
    intro a b hx
    unfold repL repTo at hx
    obtain ⟨i, _, hi⟩ := List.mem_filterMap.1 hx
    unfold repAt at hi
    split at hi
    · split at hi
      · rename_i h2; rw [← Option.some.inj hi]; exact h2.2
      · cases hi
    · cases hi
  rcases List.mem_append.1 h with h | h
  · exact key _ _ h
  · exact key _ _ h

theorem foldl_take {α β : Type} (f : β → α → β) (b : β) (l : List α) (k : Nat) (hk : k < l.length) : (l.take (k + 1)).foldl f b = f ((l.take k).foldl f b) l[k] := by
  rw [List.take_succ_eq_append_getElem hk, List.foldl_append]; rfl

theorem madeL_len (rs : List (ByteArray × ByteArray)) (s : ByteArray) (hs : s.size ≤ 12) : (madeL rs s).length ≤ 26 * rs.length := by
  induction rs with
  | nil => simp [madeL]
  | cons r t ih =>
    have h1 := repL_len s r.1 r.2 hs
    have h2 := repL_len s r.2 r.1 hs
    have e : madeL (r :: t) s = repL s r.1 r.2 ++ repL s r.2 r.1 ++ madeL t s := rfl
    rw [e, List.length_append, List.length_append, List.length_cons]
    omega

def ChainPost (p : List ByteArray × Bool) (w : World) (e : Ending) (w' : World) : Prop :=
  ∃ o : Value, e = .returned (.tuple #[o, .bool p.2]) ∧ w'.ownsRow w.heap.size 9 1 o p.1.length (p.1.map Value.string) ∧ Below w.heap.size w w'

set_option maxRecDepth 100000 in
set_option maxHeartbeats 3200000 in
theorem chain_any (A : Option Addr) (n c : Nat) (rs : List (ByteArray × ByteArray)) (hn : n = rs.length) (hb : n ≤ 1000) (hf : Short100 rs) (t : ByteArray) (u : Nat) :
    ∀ (s : ByteArray) (w : World), u ≤ 1000 → s.size ≤ 12 → Cells w A (ruleCells rs) →
    Calls Tryz.prog 82 #[.slice A n c, .string s, .string t, .int .i64 (u : Nat)] w (ChainPost (chainL rs u s t) w) := by
  obtain ⟨si, hi, hz0, hz1, hz2⟩ := info_parts infoStr
  have HN := Lib.hid hn
  have HV := Lib.hid hf
  clear hn hf
  induction u with
  | zero =>
    intro s w hu hs hx
    clear hx
    cases hq : (s.toList == t.toList) with
    | true =>
      have e1 : chainL rs 0 s t = ([s], true) := by show (_, _) = _; rw [hq]
      rw [e1]
      clear e1
      go_enter Tryz.func82, Tryz.ntmps82
      go_wp2
      go_ret2
      exact ⟨_, ret_two rfl rfl, World.ownsRow_lit w #[.string s] 1 (Nat.le_refl _) (by unfold maxLen; omega) rfl, (Below.refl _ _).alloc (Nat.le_refl _) _⟩
    | false =>
      have e1 : chainL rs 0 s t = ([s], false) := by show (_, _) = _; rw [hq]
      rw [e1]
      clear e1
      go_enter Tryz.func82, Tryz.ntmps82
      go_wp2
      go_ret2
      exact ⟨_, ret_two rfl rfl, World.ownsRow_lit w #[.string s] 1 (Nat.le_refl _) (by unfold maxLen; omega) rfl, (Below.refl _ _).alloc (Nat.le_refl _) _⟩
  | succ u ih =>
    intro s w hu hs hx
    have HX := Lib.hid hx
    have IH : Hid _ := ih
    have hll := madeL_len rs s hs
    rw [← HN.out] at hll
    have eq : chainL rs (u + 1) s t = (madeL rs s).foldl (stepC s (fun x => chainL rs u x t)) ([], false) := rfl
    have hsm : ∀ x, x ∈ madeL rs s → x.size ≤ 12 := fun x h => made_small h
    have EQ := Lib.hid eq
    have HSM := Lib.hid hsm
    have u0 : (((u + 1 : Nat) : Int) == 0) = false := by rw [beq_eq_false_iff_ne]; omega
    have u00 : ((u : Int) + 1 == 0) = false := by rw [beq_eq_false_iff_ne]; omega
    have u1 : IntKind.i64.wrap (((u + 1 : Nat) : Int) - 1) = (u : Int) := by rw [show (((u + 1 : Nat) : Int) - 1) = (u : Int) from by omega]; exact IntWalk.i64_in _ (by omega)
    have u2 : IntKind.i64.wrap (u : Int) = (u : Int) := IntWalk.i64_in _ (by omega)
    clear ih hx eq hsm
    go_enter Tryz.func82, Tryz.ntmps82
    go_wp2_with fail
    refine (Made_any A n c rs s _ HN.out hb hs HV.out HX.out).mono ?_
    rintro e w1 ⟨ol, rfl, hol, hb1⟩
    generalize hL : madeL rs s = L at *
    have H1 := Lib.hid hL
    clear hL
    obtain ⟨OL, capl, rfl⟩ := own_form hol
    go_wp2_with fail
    go_loopw [10, 11, 13, 14, 15] (fun o b i _ _ wr => ∃ (k : Nat) (p : List ByteArray × Bool), k ≤ L.length ∧ i = .int .i64 k ∧ b = .bool p.2 ∧ p = (L.take k).foldl (stepC s (fun x => chainL rs u x t)) ([], false) ∧ wr.ownsRow w.heap.size 9 1 o p.1.length (p.1.map Value.string) ∧ wr.ownsRow w.heap.size 9 1 (.slice OL L.length capl) L.length (L.map Value.string) ∧ Below w.heap.size w wr) (fun _ _ i _ _ _ => L.length - (intOf i).toNat)
    case atStart => exact ⟨0, ([], false), Nat.zero_le _, rfl, rfl, rfl, World.ownsRow_nil _ _ _ _, hol, hb1⟩
    case round =>
      obtain ⟨k, p, hk, rfl, rfl, hp, hown, hol, hbw⟩ := hrel
      obtain ⟨g1, g2⟩ : Good2 u p := by rw [hp]; exact foldC_good s _ u (fun x => chainL_good rs u x t) _ _ ⟨by simp, by simp⟩
      have HP := Lib.hid hp
      clear hp hb1
      obtain ⟨xs, bb⟩ := p
      simp only at g1 g2 hown
      by_cases hlt : k < L.length
      · obtain ⟨gl, capl', hv, hc⟩ := own_str hol k hlt
        injection hv with hv1 hv2 hv3
        subst hv1 hv3
        have est := foldl_take (stepC s (fun x => chainL rs u x t)) ([], false) L k hlt
        have hsx := HSM.out L[k] (List.getElem_mem _)
        generalize hX : L[k] = X at *
        rw [← HP.out] at est
        have hgd := chainL_good rs u X t
        have hst : stepC s (fun x => chainL rs u x t) (xs, bb) X = if (chainL rs u X t).2 && (!bb || Op.bytesLess X.toList ((xs[1]?).getD ByteArray.empty).toList) then (s :: (chainL rs u X t).1, true) else (xs, bb) := rfl
        rw [hst] at est
        generalize hR : chainL rs u X t = R at *
        obtain ⟨ys, cc⟩ := R
        obtain ⟨r1, r2⟩ := hgd
        simp only at r1 r2 est
        have EST := Lib.hid est
        have HRR := Lib.hid hR
        clear hX est hst hR
        have j5 : (0 : Int) ≤ (k : Int) := by omega
        have j6 : (k : Int) < (L.length : Int) := by omega
        go_wp2_with fail
        refine (IH.out X _ (by omega) hsx (HX.out.below hbw)).mono ?_
        rw [HRR.out]
        rintro e w2 ⟨o2, rfl, ho2, hb2⟩
        have hown2 := own_below hown hb2
        have hol2 := own_below hol hb2
        have hbw2 := hbw.trans (hb2.mono hbw.size)
        have hc2 := (hb2.cell (World.block_lt_of_cell? wr _ hc)).trans hc
        clear hown hol hbw hc
        simp only at ho2
        cases cc with
        | false =>
          go_wp2_with fail
          go_quiet (fail)
          go_wp2
          go_roundw
          case rel => exact ⟨k + 1, (xs, bb), by omega, by go_num, rfl, EST.out.symm, own_below hown2 (Drew.below ⟨nq, rfl⟩ _), own_below hol2 (Drew.below ⟨nq, rfl⟩ _), hbw2.trans (Drew.below ⟨nq, rfl⟩ _)⟩
          case measure => simp [intOf]; omega
        | true =>
          have r3 := r2 rfl
          cases bb with
          | false =>
            go_wp2_with fail
            go_quiet (fail)
            have hown3 := own_below hown2 (Drew.below ⟨nq, rfl⟩ w2.heap.size)
            have hol3 := own_below hol2 (Drew.below ⟨nq, rfl⟩ w2.heap.size)
            have ho3 := own_below ho2 (Drew.below ⟨nq, rfl⟩ w2.heap.size)
            have hbw3 := hbw2.trans (Drew.below (w' := w2.drewN nq) ⟨nq, rfl⟩ w.heap.size)
            generalize w2.drewN nq = WD at *
            clear hown2 hol2 ho2 hbw2 hc2
            obtain ⟨o2A, o2c, rfl⟩ := own_form ho3
            have hlit := World.ownsRow_lit WD (#[.string s] : Array Value) 1 (e := 9) (size := 1) (base := WD.heap.size) (Nat.le_refl _) (by unfold maxLen; omega) rfl
            have hws := hbw3.size
            go_wp2_with (at_builtin; refine wpList_append_row _ rfl _ _ 22 rfl WD.heap.size 9 si (.string ByteArray.empty) 16 Tryz.underlying22 hi hz0 hz1 hz2 rfl _ 1 [.string s] rfl hlit _ _ ys.length _ rfl (ho3.alloc _) (strs_one ys) (by unfold maxLen; omega) (by omega) (by simp) ?_; intro v' wn hownN hgN)
            have hbN := below_append (w := WD) hlit (Below.refl _ _) ((Below.refl _ _).alloc (Nat.le_refl _) _) hgN
            go_wp2
            go_roundw
            case rel => exact ⟨k + 1, (s :: ys, true), by omega, by go_num, rfl, EST.out.symm, by show World.ownsRow _ _ _ _ _ (ys.length + 1) (_ :: _); rw [Nat.add_comm]; exact hownN.mono hws, own_below hol3 hbN, hbw3.trans (hbN.mono hws)⟩
            case measure => simp [intOf]; omega
          | true =>
            have g3 := g2 rfl
            obtain ⟨gx, capx, hv4, hc4⟩ := own_str hown2 1 (by omega)
            have e1 : ((xs[1]?).getD ByteArray.empty) = xs[1] := by rw [List.getElem?_eq_getElem (by omega)]; rfl
            generalize hY : xs[1] = Y at *
            rw [e1] at EST
            subst hv4
            have j7 : (1 : Int) < (xs.length : Int) := by omega
            clear e1
            cases hq : Op.bytesLess X.toList Y.toList with
            | true =>
              rw [hq] at EST
              go_wp2_with fail
              go_quiet (fail)
              have hown3 := own_below hown2 (Drew.below ⟨nq, rfl⟩ w2.heap.size)
              have hol3 := own_below hol2 (Drew.below ⟨nq, rfl⟩ w2.heap.size)
              have ho3 := own_below ho2 (Drew.below ⟨nq, rfl⟩ w2.heap.size)
              have hbw3 := hbw2.trans (Drew.below (w' := w2.drewN nq) ⟨nq, rfl⟩ w.heap.size)
              generalize w2.drewN nq = WD at *
              clear hown2 hol2 ho2 hbw2 hc2 hc4
              obtain ⟨o2A, o2c, rfl⟩ := own_form ho3
              have hlit := World.ownsRow_lit WD (#[.string s] : Array Value) 1 (e := 9) (size := 1) (base := WD.heap.size) (Nat.le_refl _) (by unfold maxLen; omega) rfl
              have hws := hbw3.size
              go_wp2_with (at_builtin; refine wpList_append_row _ rfl _ _ 22 rfl WD.heap.size 9 si (.string ByteArray.empty) 16 Tryz.underlying22 hi hz0 hz1 hz2 rfl _ 1 [.string s] rfl hlit _ _ ys.length _ rfl (ho3.alloc _) (strs_one ys) (by unfold maxLen; omega) (by omega) (by simp) ?_; intro v' wn hownN hgN)
              have hbN := below_append (w := WD) hlit (Below.refl _ _) ((Below.refl _ _).alloc (Nat.le_refl _) _) hgN
              go_wp2
              go_roundw
              case rel => exact ⟨k + 1, (s :: ys, true), by omega, by go_num, rfl, EST.out.symm, by show World.ownsRow _ _ _ _ _ (ys.length + 1) (_ :: _); rw [Nat.add_comm]; exact hownN.mono hws, own_below hol3 hbN, hbw3.trans (hbN.mono hws)⟩
              case measure => simp [intOf]; omega
            | false =>
              rw [hq] at EST
              go_wp2_with fail
              go_quiet (fail)
              go_wp2
              go_roundw
              case rel => exact ⟨k + 1, (xs, true), by omega, by go_num, rfl, EST.out.symm, own_below hown2 (Drew.below ⟨nq, rfl⟩ _), own_below hol2 (Drew.below ⟨nq, rfl⟩ _), hbw2.trans (Drew.below ⟨nq, rfl⟩ _)⟩
              case measure => simp [intOf]; omega
      · have ek : k = L.length := by omega
        have e0 : chainL rs (u + 1) s t = (xs, bb) := by rw [EQ.out, HP.out, ek, List.take_length]
        have E0 := Lib.hid e0
        clear e0
        go_wp2
        go_ret2
        exact ⟨u10, ret_two rfl (bool_val (by rw [E0.out])), by rw [E0.out]; exact hown, hbw⟩
end Go.Proofs.YtlhiekeolmgilaaGreatDoor

/- The reference of names: the chain of two names, how many uses it has, and the verdict. -/
namespace Go.Proofs.YtlhiekeolmgilaaGreatDoor
open Go.RowKit

/-- The key of a name, as a string. -/
def keyS (s : ByteArray) : ByteArray := ⟨(Sp.key s.data.toList).toArray⟩
theorem keyS_size {s : ByteArray} (h : s.size ≤ 6) : (keyS s).size ≤ 12 := by
  have := key_size h
  show (Sp.key s.data.toList).toArray.size ≤ _
  simp; omega
theorem key_S (s : ByteArray) (w : World) (h1 : 1 ≤ s.size) (h6 : s.size ≤ 6) :
    Calls Tryz.prog 83 #[.string s] w fun e w' => e = .returned (.string (keyS s)) ∧ Below w.heap.size w w' :=
  (key_any s w h1 h6).mono fun _ _ h => h

/-- The chain with the fewest uses, from so many on. -/
def fromC (rs : List (ByteArray × ByteArray)) (x y : ByteArray) : Nat → Nat → List ByteArray × Int
  | 0, _ => ([], 11)
  | f + 1, u => if (chainL rs u x y).2 then ((chainL rs u x y).1, 0) else fromC rs x y f (u + 1)
theorem fromC_step (rs : List (ByteArray × ByteArray)) (x y : ByteArray) (k : Nat) (h : k ≤ 2) :
    fromC rs x y (3 - k) k = if (chainL rs k x y).2 then ((chainL rs k x y).1, 0) else fromC rs x y (3 - (k + 1)) (k + 1) := by
  rw [show 3 - k = (3 - (k + 1)) + 1 from by omega]; rfl

/-- The chain of two names and its error. -/
def chainP (rs : List (ByteArray × ByteArray)) (a b : ByteArray) : List ByteArray × Int :=
  if usesErr rs a.data.toList b.data.toList = 0 then fromC rs (keyS a) (keyS b) 3 0 else ([], usesErr rs a.data.toList b.data.toList)

theorem ruleOk_small {r : ByteArray × ByteArray} (h : ruleOk r = true) : r.1.size ≤ 1000 ∧ r.2.size ≤ 1000 := by
  unfold ruleOk lettersB at h
  simp only [Bool.and_eq_true, decide_eq_true_eq] at h
  have h1 := h.1.1.1
  have h2 := h.1.2.1
  rw [size_list] at h1 h2
  omega
theorem rulesErr_zero {rs : List (ByteArray × ByteArray)} (h : rulesErr rs = 0) : rs.length ≤ 4 ∧ Short100 rs := by
  unfold rulesErr at h
  split at h
  · omega
  · split at h
    · rename_i h1 h2
      exact ⟨by omega, fun r hr => ruleOk_small (List.all_eq_true.1 h2 r hr)⟩
    · omega
theorem usesErr_zero {rs : List (ByteArray × ByteArray)} {a b : ByteArray} (h : usesErr rs a.data.toList b.data.toList = 0) :
    rs.length ≤ 4 ∧ Short100 rs ∧ (1 ≤ a.size ∧ a.size ≤ 6) ∧ (1 ≤ b.size ∧ b.size ≤ 6) := by
  unfold usesErr at h
  split at h
  · rename_i h1
    obtain ⟨g1, g2⟩ := rulesErr_zero h1
    unfold pairErr at h
    split at h
    · rename_i h2; exact ⟨g1, g2, check_size h2, check_size h⟩
    · rename_i h2; exact absurd h h2
  · rename_i h1; exact absurd h h1

def ChainsPost (p : List ByteArray × Int) (w : World) (e : Ending) (w' : World) : Prop :=
  ∃ o : Value, e = .returned (.tuple #[o, .int .i64 p.2]) ∧ w'.ownsRow w.heap.size 9 1 o p.1.length (p.1.map Value.string) ∧ Below w.heap.size w w'

set_option maxRecDepth 100000 in
set_option maxHeartbeats 3200000 in
theorem Chain_any (A : Option Addr) (n c : Nat) (rs : List (ByteArray × ByteArray)) (a b : ByteArray) (w : World) (hn : n = rs.length) (hf : Fine rs) (hx : Cells w A (ruleCells rs)) :
    Calls Tryz.prog 34 #[.slice A n c, .string a, .string b] w (ChainsPost (chainP rs a b) w) := by
  have HN := Lib.hid hn
  have HX := Lib.hid hx
  have HV := Lib.hid hf
  by_cases h1 : usesErr rs a.data.toList b.data.toList = 0
  · obtain ⟨n4, hsh, ⟨a1, a6⟩, b1, b6⟩ := usesErr_zero h1
    have m1 : (usesErr rs a.data.toList b.data.toList != 0) = false := by simp [h1]
    have e : chainP rs a b = fromC rs (keyS a) (keyS b) 3 0 := by unfold chainP; rw [if_pos h1]
    have E := Lib.hid e
    have HSH := Lib.hid hsh
    have nn : n ≤ 1000 := by omega
    have ks := keyS_size a6
    clear e h1 hsh hn hx hf n4
    go_enter Tryz.func34, Tryz.ntmps34
    go_wp2_with fail
    refine (checkPair_any A n c rs a b _ HN.out HV.out HX.out).mono ?_
    rintro e w1 ⟨rfl, hb1⟩
    go_wp2_with fail
    go_loopw [9, 10, 11] (fun i _ _ wr => ∃ k : Nat, k ≤ 3 ∧ i = .int .i64 k ∧ fromC rs (keyS a) (keyS b) (3 - k) k = fromC rs (keyS a) (keyS b) 3 0 ∧ Below w.heap.size w wr) (fun i _ _ _ => 3 - (intOf i).toNat)
    case atStart => exact ⟨0, by omega, rfl, rfl, hb1⟩
    case round =>
      obtain ⟨k, hk, rfl, hfr, hb⟩ := hrel
      have HFR := Lib.hid hfr
      clear hfr hb1
      by_cases hlt : k ≤ 2
      · have est := fromC_step rs (keyS a) (keyS b) k hlt
        rw [HFR.out] at est
        have hgd := chainL_good rs k (keyS a) (keyS b)
        generalize hR : chainL rs k (keyS a) (keyS b) = R at *
        obtain ⟨ys, cc⟩ := R
        have EST := Lib.hid est
        have HRR := Lib.hid hR
        clear est hR hgd
        go_wp2_with fail
        refine (key_S _ _ a1 a6).mono ?_
        rintro e w2 ⟨rfl, hb2⟩
        have hbw2 := hb.trans (hb2.mono hb.size)
        go_wp2_with fail
        refine (key_S _ _ b1 b6).mono ?_
        rintro e w3 ⟨rfl, hb3⟩
        have hbw3 := hbw2.trans (hb3.mono hbw2.size)
        go_wp2_with fail
        refine (chain_any A n c rs HN.out nn HSH.out (keyS b) k (keyS a) _ (by omega) ks (HX.out.below hbw3)).mono ?_
        rw [HRR.out]
        rintro e w4 ⟨o, rfl, ho, hb4⟩
        simp only at ho
        have hbw4 := hbw3.trans (hb4.mono hbw3.size)
        cases cc with
        | true =>
          have e9 : chainP rs a b = (ys, 0) := by rw [E.out, EST.out]; rfl
          have E9 := Lib.hid e9
          clear e9
          have hws := hbw3.size
          go_wp2
          go_ret2
          exact ⟨o, ret_two rfl (int_val (by rw [E9.out])), by rw [E9.out]; exact ho.mono hws, hbw4⟩
        | false =>
          have e9 : fromC rs (keyS a) (keyS b) (3 - (k + 1)) (k + 1) = fromC rs (keyS a) (keyS b) 3 0 := by rw [EST.out]; rfl
          have E9 := Lib.hid e9
          clear e9
          go_wp2
          go_roundw
          case rel => exact ⟨k + 1, by omega, by go_num, E9.out, hbw4⟩
          case measure => simp [intOf]; omega
      · have ek : k = 3 := by omega
        have e9 : chainP rs a b = ([], 11) := by rw [E.out, ← HFR.out, ek]; rfl
        have E9 := Lib.hid e9
        clear e9
        go_wp2
        go_ret2
        exact ⟨_, ret_two rfl (int_val (by rw [E9.out])), by rw [E9.out]; exact World.ownsRow_nil _ _ _ _, hb⟩
  · have m1 : (usesErr rs a.data.toList b.data.toList != 0) = true := by simp [h1]
    have e : chainP rs a b = ([], usesErr rs a.data.toList b.data.toList) := by unfold chainP; rw [if_neg h1]
    have E := Lib.hid e
    clear e h1 hn hx hf
    go_enter Tryz.func34, Tryz.ntmps34
    go_wp2_with fail
    refine (checkPair_any A n c rs a b _ HN.out HV.out HX.out).mono ?_
    rintro e w1 ⟨rfl, hb1⟩
    go_wp2
    go_ret2
    exact ⟨_, ret_two rfl (int_val (by rw [E.out])), by rw [E.out]; exact World.ownsRow_nil _ _ _ _, hb1⟩
end Go.Proofs.YtlhiekeolmgilaaGreatDoor

/- The reference of names: the number of uses, and the verdict. -/
namespace Go.Proofs.YtlhiekeolmgilaaGreatDoor
open Go.RowKit

theorem fromC_len (rs : List (ByteArray × ByteArray)) (x y : ByteArray) (f : Nat) : ∀ u, (fromC rs x y f u).1.length ≤ f + u := by
  induction f with
  | zero => intro u; simp [fromC]
  | succ f ih =>
    intro u
    have h1 := (chainL_good rs u x y).1
    have h2 := ih (u + 1)
    unfold fromC
    split
    · show (chainL rs u x y).1.length ≤ _; omega
    · omega
theorem chainP_len (rs : List (ByteArray × ByteArray)) (a b : ByteArray) : (chainP rs a b).1.length ≤ 3 := by
  unfold chainP
  split
  · exact fromC_len _ _ _ 3 0
  · simp

def usesP (rs : List (ByteArray × ByteArray)) (a b : ByteArray) : Int × Int := if (chainP rs a b).2 = 0 then (((chainP rs a b).1.length : Int) - 1, 0) else (0, (chainP rs a b).2)
def verdictP (rs : List (ByteArray × ByteArray)) (a b : ByteArray) : Int × Int :=
  if (usesP rs a b).2 = 11 then (2, 0) else if (usesP rs a b).2 = 0 then (if (usesP rs a b).1 = 0 then (1, 0) else (3, 0)) else (0, (usesP rs a b).2)

def TwoPost (p : Int × Int) (w : World) (e : Ending) (w' : World) : Prop :=
  e = .returned (.tuple #[.int .i64 p.1, .int .i64 p.2]) ∧ Below w.heap.size w w'

set_option maxRecDepth 100000 in
set_option maxHeartbeats 1600000 in
theorem Uses_any (A : Option Addr) (n c : Nat) (rs : List (ByteArray × ByteArray)) (a b : ByteArray) (w : World) (hn : n = rs.length) (hf : Fine rs) (hx : Cells w A (ruleCells rs)) :
    Calls Tryz.prog 30 #[.slice A n c, .string a, .string b] w (TwoPost (usesP rs a b) w) := by
  have q := Chain_any A n c rs a b w hn hf hx
  have hl := chainP_len rs a b
  have eu : usesP rs a b = if (chainP rs a b).2 = 0 then (((chainP rs a b).1.length : Int) - 1, 0) else (0, (chainP rs a b).2) := rfl
  clear hn hf hx
  generalize chainP rs a b = R at *
  obtain ⟨ys, er⟩ := R
  simp only at hl eu
  have Q1 : Hid _ := q
  by_cases h : er = 0
  · subst h
    have EU := Lib.hid eu
    clear eu q
    go_enter Tryz.func30, Tryz.ntmps30
    go_wp2_with fail
    refine (Calls.mono Q1 ?_)
    rintro e w1 ⟨o, rfl, ho, hb1⟩
    obtain ⟨O, cap, rfl⟩ := own_form ho
    have j0 : IntKind.i64.wrap ((ys.length : Int) - 1) = (ys.length : Int) - 1 := IntWalk.i64_in _ (by omega)
    go_wp2
    go_ret2
    exact ⟨ret_two (int_val (by rw [EU.out]; rfl)) (int_val (by rw [EU.out]; rfl)), hb1⟩
  · have m1 : (er != 0) = true := by simp [h]
    rw [if_neg h] at eu
    have EU := Lib.hid eu
    clear eu h q
    go_enter Tryz.func30, Tryz.ntmps30
    go_wp2_with fail
    refine (Calls.mono Q1 ?_)
    rintro e w1 ⟨o, rfl, ho, hb1⟩
    go_wp2
    go_ret2
    exact ⟨ret_two (int_val (by rw [EU.out])) (int_val (by rw [EU.out])), hb1⟩

set_option maxRecDepth 100000 in
set_option maxHeartbeats 1600000 in
theorem Verdict_any (A : Option Addr) (n c : Nat) (rs : List (ByteArray × ByteArray)) (a b : ByteArray) (w : World) (hn : n = rs.length) (hf : Fine rs) (hx : Cells w A (ruleCells rs)) :
    Calls Tryz.prog 32 #[.slice A n c, .string a, .string b] w (TwoPost (verdictP rs a b) w) := by
  have q := Uses_any A n c rs a b w hn hf hx
  have ev : verdictP rs a b = if (usesP rs a b).2 = 11 then (2, 0) else if (usesP rs a b).2 = 0 then (if (usesP rs a b).1 = 0 then (1, 0) else (3, 0)) else (0, (usesP rs a b).2) := rfl
  clear hn hf hx
  generalize usesP rs a b = R at *
  obtain ⟨u, er⟩ := R
  simp only at ev
  have Q1 : Hid _ := q
  clear q
  by_cases h11 : er = 11
  · subst h11
    have EV := Lib.hid ev
    clear ev
    go_enter Tryz.func32, Tryz.ntmps32
    go_wp2_with fail
    refine (Calls.mono Q1 ?_)
    rintro e w1 ⟨rfl, hb1⟩
    go_wp2
    go_ret2
    exact ⟨ret_two (int_val (by rw [EV.out]; rfl)) (int_val (by rw [EV.out]; rfl)), hb1⟩
  · have m0 : (er == 11) = false := by simp [h11]
    rw [if_neg h11] at ev
    by_cases h0 : er = 0
    · subst h0
      rw [if_pos rfl] at ev
      by_cases hu : u = 0
      · subst hu
        have EV := Lib.hid ev
        clear ev h11 m0
        go_enter Tryz.func32, Tryz.ntmps32
        go_wp2_with fail
        refine (Calls.mono Q1 ?_)
        rintro e w1 ⟨rfl, hb1⟩
        go_wp2
        go_ret2
        exact ⟨ret_two (int_val (by rw [EV.out]; rfl)) (int_val (by rw [EV.out]; rfl)), hb1⟩
      · have m2 : (u == 0) = false := by simp [hu]
        rw [if_neg hu] at ev
        have EV := Lib.hid ev
        clear ev h11 m0 hu
        go_enter Tryz.func32, Tryz.ntmps32
        go_wp2_with fail
        refine (Calls.mono Q1 ?_)
        rintro e w1 ⟨rfl, hb1⟩
        go_wp2
        go_ret2
        exact ⟨ret_two (int_val (by rw [EV.out])) (int_val (by rw [EV.out])), hb1⟩
    · have m1 : (er != 0) = true := by simp [h0]
      rw [if_neg h0] at ev
      have EV := Lib.hid ev
      clear ev h11 h0
      go_enter Tryz.func32, Tryz.ntmps32
      go_wp2_with fail
      refine (Calls.mono Q1 ?_)
      rintro e w1 ⟨rfl, hb1⟩
      go_wp2
      go_ret2
      exact ⟨ret_two (int_val (by rw [EV.out])) (int_val (by rw [EV.out])), hb1⟩
end Go.Proofs.YtlhiekeolmgilaaGreatDoor

/- The reference of names: near names. -/
namespace Go.Proofs.YtlhiekeolmgilaaGreatDoor
open Go.RowKit

def nearErr (rs : List (ByteArray × ByteArray)) (m : ByteArray) (ss : List ByteArray) : Int :=
  if rulesErr rs = 0 then (if Sp.check m.data.toList = 0 then listErr ss else Sp.check m.data.toList) else rulesErr rs
/-- The indices, from one on, of the names that are so many uses away. -/
def nearFrom (rs : List (ByteArray × ByteArray)) (m : ByteArray) (u : Nat) : Nat → List ByteArray → List Int
  | _, [] => []
  | k, s :: t => if (usesP rs m s).2 = 0 ∧ (usesP rs m s).1 = (u : Int) then (k : Int) :: nearFrom rs m u (k + 1) t else nearFrom rs m u (k + 1) t
def nearTo (rs : List (ByteArray × ByteArray)) (m : ByteArray) (ss : List ByteArray) : Nat → List Int
  | 0 => []
  | u + 1 => nearTo rs m ss u ++ nearFrom rs m u 0 ss
def nearL (rs : List (ByteArray × ByteArray)) (m : ByteArray) (ss : List ByteArray) : List Int := if nearErr rs m ss = 0 then nearTo rs m ss 3 else []

theorem nearFrom_drop (rs : List (ByteArray × ByteArray)) (m : ByteArray) (u : Nat) (ss : List ByteArray) (k : Nat) (hk : k < ss.length) :
    nearFrom rs m u k (ss.drop k) = (if (usesP rs m ss[k]).2 = 0 ∧ (usesP rs m ss[k]).1 = (u : Int) then [(k : Int)] else []) ++ nearFrom rs m u (k + 1) (ss.drop (k + 1)) := by
  rw [List.drop_eq_getElem_cons hk]
  show (if _ then _ else _) = _
  split <;> rfl

set_option maxRecDepth 100000 in
set_option maxHeartbeats 3200000 in
theorem Near_any (A B : Option Addr) (n c h d : Nat) (rs : List (ByteArray × ByteArray)) (m : ByteArray) (ss : List ByteArray) (w : World) (hn : n = rs.length) (hf : Fine rs) (hx : Cells w A (ruleCells rs))
    (hh : h = ss.length) (hy : Cells w B (ss.map Value.string)) :
    Calls Tryz.prog 36 #[.slice A n c, .string m, .slice B h d] w (IntsPost (nearL rs m ss) (nearErr rs m ss) w) := by
  have HN := Lib.hid hn
  have HX := Lib.hid hx
  have HV := Lib.hid hf
  have HH := Lib.hid hh
  have HY := Lib.hid hy
  obtain ⟨si, hi, hz0, hz1, hz2⟩ := info_parts infoInt
  by_cases h1 : rulesErr rs = 0
  · have m1 : (rulesErr rs != 0) = false := by simp [h1]
    by_cases h2 : Sp.check m.data.toList = 0
    · have m2 : (Sp.check m.data.toList != 0) = false := by simp [h2]
      have en : nearErr rs m ss = listErr ss := by unfold nearErr; rw [if_pos h1, if_pos h2]
      by_cases h3 : listErr ss = 0
      · have m3 : (listErr ss != 0) = false := by simp [h3]
        have n6 : h ≤ 6 := by rw [hh]; exact (listErr_zero h3).1
        have e0 : nearErr rs m ss = 0 := by rw [en, h3]
        have el : nearL rs m ss = nearTo rs m ss 3 := by unfold nearL; rw [if_pos e0]
        have E0 := Lib.hid e0
        have EL := Lib.hid el
        clear en e0 el h1 h2 h3 hn hf hx hh hy
        go_enter Tryz.func36, Tryz.ntmps36
        go_wp2_with fail
        refine (checkRules_any A n c rs _ HN.out HV.out HX.out).mono ?_
        rintro e w1 ⟨rfl, hd⟩
        have hb1 := Drew.below hd w.heap.size
        clear hd
        go_wp2_with fail
        refine (Check_any _ _).mono ?_
        rintro e w2 ⟨rfl, hb2⟩
        have g2 := hb1.trans (hb2.mono hb1.size)
        go_wp2_with fail
        refine (checkList_any B h d ss _ HH.out (HY.out.below g2)).mono ?_
        rintro e w3 ⟨rfl, hb3⟩
        have g3 := g2.trans (hb3.mono g2.size)
        clear hb1 hb2 hb3 g2
        go_wp2_with fail
        go_loopw [11, 12, 13, 14, 15] (fun o i _ _ _ wr => ∃ (u : Nat) (xs : List Int), u ≤ 3 ∧ xs.length ≤ 6 * u ∧ i = .int .i64 u ∧ xs = nearTo rs m ss u ∧ wr.ownsRow w.heap.size 3 1 o xs.length (xs.map (Value.int .i64)) ∧ Below w.heap.size w wr) (fun _ i _ _ _ _ => 3 - (intOf i).toNat)
        case atStart => exact ⟨0, [], by omega, by simp, rfl, rfl, World.ownsRow_nil _ _ _ _, g3⟩
        case round =>
          obtain ⟨u, xs, hu, hxu, rfl, hxs, hown, hb⟩ := hrel
          have HXS := Lib.hid hxs
          clear hxs g3
          by_cases hlt : u ≤ 2
          · have j2 : decide ((u : Int) ≤ 2) = true := by simp; omega
            have j3 : (u : Int) ≤ 2 := by omega
            go_wp2_with fail
            go_loopw [11, 13, 14, 15] (fun o i _ _ wi => ∃ (k : Nat) (ys : List Int), k ≤ h ∧ ys.length ≤ 6 * u + k ∧ i = .int .i64 k ∧ ys ++ nearFrom rs m u k (ss.drop k) = nearTo rs m ss (u + 1) ∧ wi.ownsRow w.heap.size 3 1 o ys.length (ys.map (Value.int .i64)) ∧ Below w.heap.size w wi) (fun _ i _ _ _ => h - (intOf i).toNat)
            case atStart => exact ⟨0, xs, Nat.zero_le _, by omega, rfl, by rw [HXS.out]; rfl, hown, hb⟩
            case round =>
              obtain ⟨k, ys, hk, hyk, rfl, hf, hown, hb⟩ := hrel
              have HF := Lib.hid hf
              clear hf
              by_cases hlk : k < h
              · have hks : k < ss.length := by rw [← HH.out]; exact hlk
                obtain ⟨b1, o1, rfl, c1⟩ := HY.out.str k hks
                have c2 := (hb.cell (World.block_lt_of_cell? w _ c1)).trans c1
                have ed := nearFrom_drop rs m u ss k hks
                generalize hX : ss[k] = X at *
                have q := fun W hw => Uses_any A n c rs m X W HN.out HV.out hw
                generalize usesP rs m X = R at *
                obtain ⟨v, er⟩ := R
                simp only at ed
                have ED := Lib.hid ed
                have Q1 : Hid _ := q
                have j5 : (0 : Int) ≤ (k : Int) := by omega
                have j6 : (k : Int) < (h : Int) := by omega
                clear c1 hX ed q
                go_wp2_with fail
                refine Calls.mono (Q1 _ (HX.out.below hb)) ?_
                rintro e w4 ⟨rfl, hb4⟩
                have hown2 := own_below hown hb4
                have hbw := hb.trans (hb4.mono hb.size)
                obtain ⟨O, cap, rfl⟩ := own_form hown2
                clear hown hb
                by_cases q0 : er = 0
                · subst q0
                  by_cases qu : v = (u : Int)
                  · subst qu
                    have e5 : ys ++ [(k : Int)] ++ nearFrom rs m u (k + 1) (ss.drop (k + 1)) = nearTo rs m ss (u + 1) := by
                      rw [← HF.out, ED.out, if_pos ⟨rfl, rfl⟩, List.append_assoc]
                    have E5 := Lib.hid e5
                    clear e5
                    have hws := hbw.size
                    go_wp2_with (at_builtin; refine wpList_append_own _ rfl _ _ 23 rfl w.heap.size 3 si (.int .i64 0) 1 8 Tryz.underlying23 hi hz0 hz1 hz2 rfl (by decide) _ _ _ rfl (hown2.alloc _) ⟨w4.heap.size, 0, none⟩ 1 1 [.int .i64 k] rfl rfl (cell_one_new _ _ _) (by simp [Value.oneCell']) (by unfold maxLen; omega) (by omega) (by simp; omega) ?_; intro v' wn hownN hgN _)
                    have hbN := below_append (hown2.alloc _) hbw ((Below.refl _ _).alloc (Nat.le_refl _) _) hgN
                    go_wp2
                    go_roundw
                    case rel => exact ⟨k + 1, ys ++ [(k : Int)], by omega, by simp; omega, by go_num, E5.out, by simpa using hownN, hbN⟩
                    case measure => simp [intOf]; omega
                  · have qv : (v == (u : Int)) = false := by simp [qu]
                    have e5 : ys ++ nearFrom rs m u (k + 1) (ss.drop (k + 1)) = nearTo rs m ss (u + 1) := by
                      rw [← HF.out, ED.out, if_neg (fun h => qu h.2)]; rfl
                    have E5 := Lib.hid e5
                    clear e5 qu
                    go_wp2
                    go_roundw
                    case rel => exact ⟨k + 1, ys, by omega, by omega, by go_num, E5.out, hown2, hbw⟩
                    case measure => simp [intOf]; omega
                · have qv : (er == 0) = false := by simp [q0]
                  have e5 : ys ++ nearFrom rs m u (k + 1) (ss.drop (k + 1)) = nearTo rs m ss (u + 1) := by
                    rw [← HF.out, ED.out, if_neg (fun h => q0 h.1)]; rfl
                  have E5 := Lib.hid e5
                  clear e5 q0
                  go_wp2
                  go_roundw
                  case rel => exact ⟨k + 1, ys, by omega, by omega, by go_num, E5.out, hown2, hbw⟩
                  case measure => simp [intOf]; omega
              · have e5 : ys = nearTo rs m ss (u + 1) := by
                  rw [← HF.out, List.drop_eq_nil_of_le (by rw [← HH.out]; omega)]; simp [nearFrom]
                have E5 := Lib.hid e5
                clear e5
                go_wp2
                go_roundw
                case rel => exact ⟨u + 1, ys, by omega, by omega, by go_num, E5.out, hown, hb⟩
                case measure => simp [intOf]; omega
          · have eu : u = 3 := by omega
            have e5 : nearL rs m ss = xs := by rw [EL.out, HXS.out, eu]
            have E5 := Lib.hid e5
            clear e5
            go_wp2
            go_ret2
            exact ⟨_, ret_two rfl (int_val E0.out.symm), by rw [E5.out]; exact hown, hb⟩
      · have m3 : (listErr ss != 0) = true := by simp [h3]
        have el : nearL rs m ss = [] := by unfold nearL; rw [if_neg (by rw [en]; exact h3)]
        have EN := Lib.hid en
        have EL := Lib.hid el
        clear en el h1 h2 h3 hn hf hx hh hy
        go_enter Tryz.func36, Tryz.ntmps36
        go_wp2_with fail
        refine (checkRules_any A n c rs _ HN.out HV.out HX.out).mono ?_
        rintro e w1 ⟨rfl, hd⟩
        have hb1 := Drew.below hd w.heap.size
        clear hd
        go_wp2_with fail
        refine (Check_any _ _).mono ?_
        rintro e w2 ⟨rfl, hb2⟩
        have g2 := hb1.trans (hb2.mono hb1.size)
        go_wp2_with fail
        refine (checkList_any B h d ss _ HH.out (HY.out.below g2)).mono ?_
        rintro e w3 ⟨rfl, hb3⟩
        have g3 := g2.trans (hb3.mono g2.size)
        go_wp2
        go_ret2
        exact ⟨_, ret_two rfl (int_val EN.out.symm), by rw [EL.out]; exact World.ownsRow_nil _ _ _ _, g3⟩
    · have m2 : (Sp.check m.data.toList != 0) = true := by simp [h2]
      have en : nearErr rs m ss = Sp.check m.data.toList := by unfold nearErr; rw [if_pos h1, if_neg h2]
      have el : nearL rs m ss = [] := by unfold nearL; rw [if_neg (by rw [en]; exact h2)]
      have EN := Lib.hid en
      have EL := Lib.hid el
      clear en el h1 h2 hn hf hx hh hy
      go_enter Tryz.func36, Tryz.ntmps36
      go_wp2_with fail
      refine (checkRules_any A n c rs _ HN.out HV.out HX.out).mono ?_
      rintro e w1 ⟨rfl, hd⟩
      have hb1 := Drew.below hd w.heap.size
      clear hd
      go_wp2_with fail
      refine (Check_any _ _).mono ?_
      rintro e w2 ⟨rfl, hb2⟩
      have g2 := hb1.trans (hb2.mono hb1.size)
      go_wp2
      go_ret2
      exact ⟨_, ret_two rfl (int_val EN.out.symm), by rw [EL.out]; exact World.ownsRow_nil _ _ _ _, g2⟩
  · have m1 : (rulesErr rs != 0) = true := by simp [h1]
    have en : nearErr rs m ss = rulesErr rs := by unfold nearErr; rw [if_neg h1]
    have el : nearL rs m ss = [] := by unfold nearL; rw [if_neg (by rw [en]; exact h1)]
    have EN := Lib.hid en
    have EL := Lib.hid el
    clear en el h1 hn hf hx hh hy
    go_enter Tryz.func36, Tryz.ntmps36
    go_wp2_with fail
    refine (checkRules_any A n c rs _ HN.out HV.out HX.out).mono ?_
    rintro e w1 ⟨rfl, hd⟩
    have hb1 := Drew.below hd w.heap.size
    clear hd
    go_wp2
    go_ret2
    exact ⟨_, ret_two rfl (int_val EN.out.symm), by rw [EL.out]; exact World.ownsRow_nil _ _ _ _, hb1⟩
end Go.Proofs.YtlhiekeolmgilaaGreatDoor
