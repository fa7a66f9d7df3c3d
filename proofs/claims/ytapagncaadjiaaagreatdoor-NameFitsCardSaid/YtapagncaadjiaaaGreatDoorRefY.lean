/- The reference of names: the parts of a string that have so many letters. -/
import Derived.Test.YtapagncaadjiaaaGreatDoorRefT
import Derived.Deep.AppendLies
namespace Go.Proofs.YtapagncaadjiaaaGreatDoor
open Go.RowKit

/-- All strings of so many letters of a string, in their order. -/
def partsL : Nat → ByteArray → List ByteArray
  | 0, _ => [ByteArray.empty]
  | n + 1, s => (List.range (s.size - n)).flatMap fun i => (partsL n (s.extract (i + 1) s.size)).map (s.extract i (i + 1) ++ ·)

theorem pow_sum (m : Nat) : ∀ k, k ≤ m → ((List.range k).map fun i => 2 ^ (m - (i + 1))).sum + 2 ^ (m - k) ≤ 2 ^ m := by
  intro k
  induction k with
  | zero => intro _; simp
  | succ k ih =>
    intro h
    have h1 := ih (by omega)
    have h2 : 2 ^ (m - k) = 2 ^ (m - (k + 1)) * 2 := by rw [← Nat.pow_succ]; congr 1; omega
    rw [List.range_succ, List.map_append, List.sum_append]
    simp only [List.map_cons, List.map_nil, List.sum_cons, List.sum_nil]
    omega

theorem sum_le {α : Type} (l : List α) (f g : α → Nat) (h : ∀ x, x ∈ l → f x ≤ g x) : (l.map f).sum ≤ (l.map g).sum := by
  induction l with
  | nil => simp
  | cons a t ih =>
    have h1 := h a (by simp)
    have h2 := ih fun x hx => h x (by simp [hx])
    simp only [List.map_cons, List.sum_cons]
    omega

theorem partsL_len (n : Nat) : ∀ s : ByteArray, (partsL n s).length ≤ 2 ^ s.size := by
  induction n with
  | zero => intro s; show 1 ≤ _; exact Nat.one_le_two_pow
  | succ n ih =>
    intro s
    unfold partsL
    rw [List.length_flatMap]
    have h1 : ((List.range (s.size - n)).map fun i => ((partsL n (s.extract (i + 1) s.size)).map (s.extract i (i + 1) ++ ·)).length).sum ≤ ((List.range (s.size - n)).map fun i => 2 ^ (s.size - (i + 1))).sum := by
      refine sum_le _ _ _ fun i hi => ?_
      rw [List.length_map]
      have h2 := ih (s.extract (i + 1) s.size)
      rw [ByteArray.size_extract, Nat.min_self] at h2
      exact h2
    exact Nat.le_trans h1 (Nat.le_trans (Nat.le_add_right _ _) (pow_sum s.size (s.size - n) (by omega)))

def partsAt (n : Nat) (s : ByteArray) (i : Nat) : List ByteArray := (partsL n (s.extract (i + 1) s.size)).map (s.extract i (i + 1) ++ ·)
def partsFrom (n : Nat) (s : ByteArray) (k : Nat) : List ByteArray := ((List.range (s.size - n)).drop k).flatMap (partsAt n s)
theorem partsL_from (n : Nat) (s : ByteArray) : partsL (n + 1) s = partsFrom n s 0 := rfl
theorem partsFrom_step (n : Nat) (s : ByteArray) (k : Nat) (h : k < s.size - n) : partsFrom n s k = partsAt n s k ++ partsFrom n s (k + 1) := by
  unfold partsFrom
  rw [List.drop_eq_getElem_cons (by simpa using h), List.flatMap_cons, List.getElem_range]
theorem partsFrom_end (n : Nat) (s : ByteArray) (k : Nat) (h : s.size - n ≤ k) : partsFrom n s k = [] := by
  unfold partsFrom; rw [List.drop_eq_nil_of_le (by simpa using h)]; rfl

theorem partsL_size (n : Nat) : ∀ (s x : ByteArray), x ∈ partsL n s → x.size ≤ n := by
  induction n with
  | zero => intro s x h; rw [List.mem_singleton.1 h]; exact Nat.le_refl _
  | succ n ih =>
    intro s x h
    obtain ⟨i, _, h⟩ := List.mem_flatMap.1 h
    obtain ⟨y, hy, rfl⟩ := List.mem_map.1 h
    have h1 := ih _ _ hy
    rw [ByteArray.size_append, ByteArray.size_extract]
    omega

set_option maxRecDepth 100000 in
set_option maxHeartbeats 3200000 in
theorem parts_any (n : Nat) : ∀ (s : ByteArray) (w : World), n ≤ 1000 → s.size ≤ 12 →
    Calls Tryz.prog 142 #[.string s, .int .i64 (n : Nat)] w (StrsPost (partsL n s) w) := by
  obtain ⟨si, hi, hz0, hz1, hz2⟩ := info_parts infoStr
  induction n with
  | zero =>
    intro s w _ _
    go_enter Tryz.func142, Tryz.ntmps142
    go_wp2
    go_ret
    exact ⟨_, rfl, World.ownsRow_lit w #[.string ByteArray.empty] 1 (Nat.le_refl _) (by unfold maxLen; omega) rfl, (Below.refl _ _).alloc (Nat.le_refl _) _⟩
  | succ n ih =>
    intro s w hn hs
    have IH : Hid _ := ih
    have u0 : (((n + 1 : Nat) : Int) == 0) = false := by rw [beq_eq_false_iff_ne]; omega
    have u1 : IntKind.i64.wrap (((n + 1 : Nat) : Int) - 1) = (n : Int) := by rw [show (((n + 1 : Nat) : Int) - 1) = (n : Int) from by omega]; exact IntWalk.i64_in _ (by omega)
    have u3 : ((n + 1 : Nat) : Int) ≤ (n : Int) + 1 := by omega
    have u4 : (n : Int) + 1 ≤ ((n + 1 : Nat) : Int) := by omega
    have htl : (partsFrom n s 0).length ≤ 4096 := by
      have h1 := partsL_len (n + 1) s
      rw [partsL_from] at h1
      exact Nat.le_trans h1 (Nat.pow_le_pow_right (by decide) hs)
    rw [partsL_from]
    generalize ((n + 1 : Nat) : Int) = M at u0 u1 u3 u4 ⊢
    generalize hZ : partsFrom n s 0 = Z at *
    have HZ := Lib.hid hZ
    clear ih hZ
    go_enter Tryz.func142, Tryz.ntmps142
    go_wp2_with fail
    go_loopw [5, 6, 7, 8] (fun o i _ _ wr => ∃ (k : Nat) (xs : List ByteArray), k ≤ s.size - n ∧ i = .int .i64 k ∧ xs ++ partsFrom n s k = Z ∧ wr.ownsRow w.heap.size 9 1 o xs.length (xs.map Value.string) ∧ Below w.heap.size w wr) (fun _ i _ _ _ => s.size - n - (intOf i).toNat)
    case atStart => exact ⟨0, [], Nat.zero_le _, rfl, HZ.out, World.ownsRow_nil _ _ _ _, Below.refl _ _⟩
    case round =>
      obtain ⟨k, xs, hk, rfl, hf, hown, hb⟩ := hrel
      have HF := Lib.hid hf
      clear hf
      by_cases hlt : k + n < s.size
      · have j1 : IntKind.i64.wrap ((k : Int) + 1) = (k : Int) + 1 := IntWalk.i64_in _ (by omega)
        have j2 : ((k : Int) + 1).toNat = k + 1 := by omega
        have j3 : (0 : Int) ≤ (k : Int) + 1 := by omega
        have j4 : (k : Int) + 1 ≤ (s.size : Int) := by omega
        have j5 : (0 : Int) ≤ (k : Int) := by omega
        have j6 : (k : Int) ≤ (s.size : Int) := by omega
        have j7 : (k : Int) ≤ (k : Int) + 1 := by omega
        have j8 : (k : Int) + M ≤ (s.size : Int) := by omega
        have j9 : decide ((k : Int) + M ≤ (s.size : Int)) = true := decide_eq_true j8
        have j10 : IntKind.i64.wrap ((k : Int) + M) = (k : Int) + M := IntWalk.i64_in _ (by omega)
        have hxz := Lib.hid (partsL_size n (s.extract (k + 1) s.size))
        have est := partsFrom_step n s k (by omega)
        have eat : partsAt n s k = (partsL n (s.extract (k + 1) s.size)).map (s.extract k (k + 1) ++ ·) := rfl
        rw [est] at HF
        rw [eat] at HF
        have hsz : (s.extract (k + 1) s.size).size ≤ 12 := by rw [ByteArray.size_extract]; omega
        clear est eat
        go_wp2_with fail
        refine (IH (s.extract (k + 1) s.size) _ (by omega) hsz).mono ?_
        rintro e w2 ⟨ol, rfl, hol, hb2⟩
        have hown2 := own_below hown hb2
        have hbw2 := hb.trans (hb2.mono hb.size)
        obtain ⟨OL, capl, rfl⟩ := own_form hol
        have hol1 := hol.mono hb.size
        have hLl : (partsL n (s.extract (k + 1) s.size)).length ≤ 4096 := Nat.le_trans (partsL_len n _) (Nat.pow_le_pow_right (by decide) hsz)
        have hfar : ∀ g, u5.ownBlock = some g → (Value.slice OL (partsL n (s.extract (k + 1) s.size)).length capl).ownBlock ≠ some g := by
          intro g h1 h2
          have g1 := (hown.lt g h1).2
          have g2 := (hol.lt g h2).1
          omega
        generalize partsL n (s.extract (k + 1) s.size) = L at *
        clear hown hb hb2 hol
        go_wp2_with fail
        go_loopw [5, 8] (fun o i wi => ∃ (j : Nat) (ys : List ByteArray), j ≤ L.length ∧ i = .int .i64 j ∧ ys ++ ((L.drop j).map (s.extract k (k + 1) ++ ·) ++ partsFrom n s (k + 1)) = Z ∧ wi.ownsRow w.heap.size 9 1 o ys.length (ys.map Value.string) ∧ wi.ownsRow w.heap.size 9 1 (.slice OL L.length capl) L.length (L.map Value.string) ∧ (∀ g, o.ownBlock = some g → (Value.slice OL L.length capl).ownBlock ≠ some g) ∧ Below w.heap.size w wi) (fun _ i _ => L.length - (intOf i).toNat)
        case atStart => exact ⟨0, xs, Nat.zero_le _, rfl, HF.out, hown2, hol1, hfar, hbw2⟩
        case round =>
          obtain ⟨j, ys, hj, rfl, hf, hown, hol, hfar, hb⟩ := hrel
          have HFI := Lib.hid hf
          clear hf hown2 hol1 hbw2
          by_cases hlj : j < L.length
          · obtain ⟨gl, capl', hv, hc⟩ := own_str hol j hlj
            injection hv with hv1 hv2 hv3
            subst hv1 hv3
            have hyl : ys.length + 1 ≤ 4096 := by
              have h1 := congrArg List.length HFI.out
              rw [List.length_append, List.length_append, List.length_map, List.length_drop] at h1
              omega
            have e5 : ys ++ [s.extract k (k + 1) ++ L[j]] ++ ((L.drop (j + 1)).map (s.extract k (k + 1) ++ ·) ++ partsFrom n s (k + 1)) = Z := by
              rw [← HFI.out, List.drop_eq_getElem_cons hlj, List.map_cons, List.append_assoc]; rfl
            have hxj := hxz.out L[j] (List.getElem_mem _)
            generalize hX : L[j] = X at *
            have i7 : ¬ (9223372036854775807 < min (k + 1) s.size - k + X.size) := by omega
            have E5 := Lib.hid e5
            have HFAR := Lib.hid hfar
            have c5 : wr.drew.cell? ⟨gl, j, none⟩ = some (.string X) := hc
            have i5 : (0 : Int) ≤ (j : Int) := by omega
            have i6 : (j : Int) < (L.length : Int) := by omega
            have hws := hb.size
            clear hX e5 hfar
            go_wp2_with fail
            go_region_law (refine step_append_lies _ rfl _ _ 28 rfl w.heap.size 9 si (.string ByteArray.empty) 1 16 Tryz.underlying28 hi hz0 hz1 hz2 rfl (by decide) _ _ _ rfl ((own_drew hown).alloc _) ⟨wr.heap.size, 0, none⟩ 1 1 [.string (s.extract k (k + 1) ++ X)] rfl rfl (cell_one_new _ _ _) (by simp [Value.oneCell']) (by decide) (by unfold maxLen; omega) (by omega) (by simp; omega) _ rfl ?_; intro g cap' wn hownN hgN hat hlt2)
            all_goals
              have hlg := (hol.lt gl rfl).2
              have hbA := (hb.drew).alloc (o := .cells #[.string (s.extract k (k + 1) ++ X)] 9) hws
              have hbN := below_row ((own_drew hown).alloc _) hbA hgN
              have holN := ((own_drew hol).alloc (.cells #[.string (s.extract k (k + 1) ++ X)] 9)).kept hgN (.inr fun e => HFAR.out gl e.symm rfl)
              have hfarN : ∀ g', (Value.slice (some ⟨g, 0, none⟩) (ys.length + 1) cap').ownBlock = some g' → (Value.slice (some ⟨gl, 0, none⟩) L.length capl).ownBlock ≠ some g' := by
                intro g' h1 h2
                have e1 : g = g' := Option.some.inj h1
                have e2 : gl = g' := Option.some.inj h2
                subst e1 e2
                rcases hat with h3 | h3
                · exact HFAR.out _ h3 rfl
                · simp at h3; omega
              go_wp2
              go_roundw
              case rel => exact ⟨j + 1, ys ++ [s.extract k (k + 1) ++ X], by omega, by go_num, E5.out, by simpa using hownN, holN, hfarN, hbN⟩
              case measure => simp [intOf]; omega
          · have ej : L.drop j = [] := List.drop_eq_nil_of_le (by omega)
            have e5 : ys ++ partsFrom n s (k + 1) = Z := by rw [← HFI.out, ej]; rfl
            have E5 := Lib.hid e5
            clear ej e5
            go_wp2
            go_roundw
            case rel => exact ⟨k + 1, ys, by omega, by go_num, E5.out, hown, hb⟩
            case measure => simp [intOf]; omega
      · have ek : partsFrom n s k = [] := partsFrom_end n s k (by omega)
        have e0 : Z = xs := by rw [← HF.out, ek, List.append_nil]
        have E0 := Lib.hid e0
        clear ek e0
        go_wp2
        go_ret
        exact ⟨_, rfl, by rw [E0.out]; exact hown, hb⟩
end Go.Proofs.YtapagncaadjiaaaGreatDoor

/- The reference of names: the best abbreviation with so many letters. -/
namespace Go.Proofs.YtapagncaadjiaaaGreatDoor
open Go.RowKit

/-- Whether some letters stand for no key of a list but one. -/
def okOne (S a x : ByteArray) : Bool := (keyS x).toList == S.toList || !abbrB a.data.toList (keyS x).data.toList
def okAll (ss : List ByteArray) (S a : ByteArray) : Bool := ss.all (okOne S a)
def bestStep (ss : List ByteArray) (S : ByteArray) (acc : ByteArray × Bool) (y : ByteArray) : ByteArray × Bool :=
  if okAll ss S (S.extract 0 1 ++ y) && (!acc.2 || Op.bytesLess (S.extract 0 1 ++ y).toList acc.1.toList) then (S.extract 0 1 ++ y, true) else acc
def bestF (ss : List ByteArray) (S : ByteArray) (m : Nat) : ByteArray × Bool := (partsL m (S.extract 1 S.size)).foldl (bestStep ss S) (ByteArray.empty, false)
def bestP (ss : List ByteArray) (S : ByteArray) (m : Nat) : ByteArray × Bool :=
  if S.size ≤ m + 1 then (ByteArray.empty, false) else ((bestF ss S m).1 ++ ⟨#[46]⟩, (bestF ss S m).2)

theorem all_take' {α : Type} (p : α → Bool) (l : List α) (k : Nat) (hk : k < l.length) : (l.take (k + 1)).all p = ((l.take k).all p && p l[k]) := by
  rw [List.take_succ_eq_append_getElem hk, List.all_append]; simp

def BestPost (p : ByteArray × Bool) (w : World) (e : Ending) (w' : World) : Prop :=
  e = .returned (.tuple #[.string p.1, .bool p.2]) ∧ Below w.heap.size w w'

set_option maxRecDepth 100000 in
set_option maxHeartbeats 3200000 in
theorem best_any (A : Option Addr) (n c : Nat) (ss : List ByteArray) (i m : Nat) (w : World) (hn : n = ss.length) (nb : n ≤ 1000) (hv : Valid ss) (hi' : i < ss.length) (hm : m ≤ 100) (hx : Cells w A (ss.map Value.string)) :
    Calls Tryz.prog 110 #[.slice A n c, .int .i64 (i : Nat), .int .i64 ((m + 1 : Nat) : Int)] w (BestPost (bestP ss (keyS ss[i]) m) w) := by
  have HN := Lib.hid hn
  have HX := Lib.hid hx
  have HV := Lib.hid hv
  obtain ⟨b1, o1, rfl, c1⟩ := hx.str i hi'
  obtain ⟨x1, x6⟩ := hv ss[i] (List.getElem_mem _)
  have hks := keyS_size x6
  have hin : (i : Int) < (n : Int) := by omega
  have hi0 : (0 : Int) ≤ (i : Int) := by omega
  generalize hX : ss[i] = X at *
  have u3 : ((m + 1 : Nat) : Int) ≤ (m : Int) + 1 := by omega
  have u4 : (m : Int) + 1 ≤ ((m + 1 : Nat) : Int) := by omega
  have u1 : IntKind.i64.wrap (((m + 1 : Nat) : Int) - 1) = (m : Int) := by rw [show (((m + 1 : Nat) : Int) - 1) = (m : Int) from by omega]; exact IntWalk.i64_in _ (by omega)
  generalize ((m + 1 : Nat) : Int) = M at u1 u3 u4 ⊢
  clear hn hx hv hX
  by_cases hle : (keyS X).size ≤ m + 1
  · have eb : bestP ss (keyS X) m = (ByteArray.empty, false) := by unfold bestP; rw [if_pos hle]
    have j1 : ((keyS X).size : Int) ≤ M := by omega
    have EB := Lib.hid eb
    clear eb
    go_enter Tryz.func110, Tryz.ntmps110
    go_wp2_with fail
    refine (key_S _ _ x1 x6).mono ?_
    rintro e w1 ⟨rfl, hb1⟩
    go_wp2
    go_ret2
    exact ⟨ret_two (by rw [EB.out]; rfl) (bool_val (by rw [EB.out])), hb1⟩
  · have eb : bestP ss (keyS X) m = ((bestF ss (keyS X) m).1 ++ ⟨#[46]⟩, (bestF ss (keyS X) m).2) := by unfold bestP; rw [if_neg hle]
    have j1 : M < ((keyS X).size : Int) := by omega
    have ef : bestF ss (keyS X) m = (partsL m ((keyS X).extract 1 (keyS X).size)).foldl (bestStep ss (keyS X)) (ByteArray.empty, false) := rfl
    have hsz : ((keyS X).extract 1 (keyS X).size).size ≤ 12 := by rw [ByteArray.size_extract]; omega
    have hLl : (partsL m ((keyS X).extract 1 (keyS X).size)).length ≤ 4096 := Nat.le_trans (partsL_len m _) (Nat.pow_le_pow_right (by decide) hsz)
    have hLz := partsL_size m ((keyS X).extract 1 (keyS X).size)
    have EB := Lib.hid eb
    have EF := Lib.hid ef
    have HLZ := Lib.hid hLz
    have k1 : (1 : Int) ≤ ((keyS X).size : Int) := by omega
    have k2 : 1 ≤ (keyS X).size := by omega
    clear eb ef hLz
    generalize hS : keyS X = S at *
    have HS := Lib.hid hS
    clear hS
    go_enter Tryz.func110, Tryz.ntmps110
    go_wp2_with fail
    refine (key_S _ _ x1 x6).mono ?_
    rw [HS.out]
    rintro e w1 ⟨rfl, hb1⟩
    go_wp2_with fail
    refine (parts_any m (S.extract 1 S.size) _ (by omega) hsz).mono ?_
    rintro e w2 ⟨ol, rfl, hol, hb2⟩
    have hbw := hb1.trans (hb2.mono hb1.size)
    obtain ⟨OL, capl, rfl⟩ := own_form hol
    have hol1 := hol.mono hb1.size
    generalize partsL m (S.extract 1 S.size) = L at *
    clear hol hb1 hb2
    go_wp2_with fail
    go_loopw [9, 10, 12, 13, 14, 15] (fun f b k _ _ _ wr => ∃ (j : Nat) (p : ByteArray × Bool), j ≤ L.length ∧ k = .int .i64 j ∧ f = .string p.1 ∧ b = .bool p.2 ∧ p = (L.take j).foldl (bestStep ss S) (ByteArray.empty, false) ∧ p.1.size ≤ 1000 ∧ wr.ownsRow w.heap.size 9 1 (.slice OL L.length capl) L.length (L.map Value.string) ∧ Below w.heap.size w wr) (fun _ _ k _ _ _ _ => L.length - (intOf k).toNat)
    case atStart => exact ⟨0, (ByteArray.empty, false), Nat.zero_le _, rfl, rfl, rfl, rfl, by simp, hol1, hbw⟩
    case round =>
      obtain ⟨j, p, hj, rfl, rfl, rfl, hp, hpz, hol, hb⟩ := hrel
      obtain ⟨f, bb⟩ := p
      simp only at hpz
      have HP := Lib.hid hp
      clear hp hol1 hbw
      by_cases hlj : j < L.length
      · obtain ⟨gl, capl', hv, hc⟩ := own_str hol j hlj
        injection hv with hv1 hv2 hv3
        subst hv1 hv3
        have est := foldl_take (bestStep ss S) (ByteArray.empty, false) L j hlj
        have hyz := HLZ.out L[j] (List.getElem_mem _)
        generalize hY : L[j] = Y at *
        rw [← HP.out] at est
        have est2 : bestStep ss S (f, bb) Y = if okAll ss S (S.extract 0 1 ++ Y) && (!bb || Op.bytesLess (S.extract 0 1 ++ Y).toList f.toList) then (S.extract 0 1 ++ Y, true) else (f, bb) := rfl
        rw [est2] at est
        have EST := Lib.hid est
        have i5 : (0 : Int) ≤ (j : Int) := by omega
        have i6 : (j : Int) < (L.length : Int) := by omega
        have i7 : ¬ (9223372036854775807 < min 1 S.size + Y.size) := by omega
        have haz : (S.extract 0 1 ++ Y).size ≤ 1000 := by rw [ByteArray.size_append, ByteArray.size_extract]; omega
        have ha1 : 1 ≤ (S.extract 0 1 ++ Y).size := by rw [ByteArray.size_append, ByteArray.size_extract]; omega
        have c5 : wr.drew.cell? ⟨gl, j, none⟩ = some (.string Y) := hc
        clear hY est est2
        go_wp2_with fail
        go_quiet (fail)
        have hol3 := own_below hol (Drew.below ⟨nq, rfl⟩ wr.heap.size)
        have hb3 := hb.trans (Drew.below (w' := wr.drewN nq) ⟨nq, rfl⟩ w.heap.size)
        generalize wr.drewN nq = WD at *
        generalize hAA : S.extract 0 1 ++ Y = a at *
        clear hol hb hc c5 hAA
        go_wp2_with fail
        go_loopw [14, 15] (fun o k wi => ∃ q : Nat, q ≤ n ∧ k = .int .i64 q ∧ o = .bool ((ss.take q).all (okOne S a)) ∧ wi.ownsRow w.heap.size 9 1 (.slice (some ⟨gl, 0, none⟩) L.length capl) L.length (L.map Value.string) ∧ Below w.heap.size w wi) (fun _ k _ => n - (intOf k).toNat)
        case atStart => exact ⟨0, Nat.zero_le _, rfl, rfl, hol3, hb3⟩
        case round =>
          obtain ⟨q, hq, rfl, rfl, hol, hb⟩ := hrel
          clear hol3 hb3
          by_cases hlq : q < n
          · have hqs : q < ss.length := by rw [← HN.out]; exact hlq
            obtain ⟨b2, o2, e2, c2⟩ := HX.out.str q hqs
            injection e2 with e2
            injection e2 with e3 e4 e5
            subst e3 e4
            have c4 := (hb.cell (World.block_lt_of_cell? w _ c2)).trans c2
            have eta := all_take' (okOne S a) ss q hqs
            obtain ⟨y1, y6⟩ := HV.out ss[q] (List.getElem_mem _)
            generalize hT : ss[q] = T at *
            have eok : okOne S a T = ((keyS T).toList == S.toList || !abbrB a.data.toList (keyS T).data.toList) := rfl
            have hkt := keyS_size y6
            have ETA := Lib.hid eta
            have EOK := Lib.hid eok
            have q5 : (0 : Int) ≤ (q : Int) := by omega
            have q6 : (q : Int) < (n : Int) := by omega
            clear c2 hT eta eok
            cases hA : (ss.take q).all (okOne S a) with
            | false =>
              have e7 : (ss.take (q + 1)).all (okOne S a) = false := by rw [ETA.out, hA]; rfl
              have E7 := Lib.hid e7
              clear e7 hA
              go_wp2
              go_roundw
              case rel => exact ⟨q + 1, by omega, by go_num, bool_val E7.out.symm, hol, hb⟩
              case measure => simp [intOf]; omega
            | true =>
              cases hK : ((keyS T).toList == S.toList) with
              | true =>
                have e7 : (ss.take (q + 1)).all (okOne S a) = true := by rw [ETA.out, hA, EOK.out, hK]; rfl
                have E7 := Lib.hid e7
                clear e7 hA
                go_wp2_with fail
                refine (key_S _ _ y1 y6).mono ?_
                rintro e w4 ⟨rfl, hb4⟩
                go_wp2
                go_roundw
                case rel => exact ⟨q + 1, by omega, by go_num, bool_val E7.out.symm, own_below hol hb4, hb.trans (hb4.mono hb.size)⟩
                case measure => simp [intOf]; omega
              | false =>
                have e7 : (ss.take (q + 1)).all (okOne S a) = !abbrB a.data.toList (keyS T).data.toList := by rw [ETA.out, hA, EOK.out, hK]; rfl
                have E7 := Lib.hid e7
                clear e7 hA
                go_wp2_with fail
                refine (key_S _ _ y1 y6).mono ?_
                rintro e w4 ⟨rfl, hb4⟩
                have hb5 := hb.trans (hb4.mono hb.size)
                have c6 := (hb4.cell (World.block_lt_of_cell? wr _ c4)).trans c4
                go_wp2_with fail
                refine (key_S _ _ y1 y6).mono ?_
                rintro e w5 ⟨rfl, hb6⟩
                have hb7 := hb5.trans (hb6.mono hb5.size)
                go_wp2_with fail
                refine (Abbreviates_any _ _ _ ha1 (by omega) (by omega)).mono ?_
                rintro e w6 ⟨rfl, hd⟩
                have hb8 := hb7.trans (Drew.below hd w.heap.size)
                have hol8 := own_below (own_below (own_below hol hb4) hb6) (Drew.below hd _)
                cases hAb : abbrB a.data.toList (keyS T).data.toList with
                | true =>
                  have E8 := Lib.hid hAb
                  clear hAb
                  go_wp2
                  go_roundw
                  case rel => exact ⟨q + 1, by omega, by go_num, bool_val (by rw [E7.out, E8.out]; rfl), hol8, hb8⟩
                  case measure => simp [intOf]; omega
                | false =>
                  have E8 := Lib.hid hAb
                  clear hAb
                  go_wp2
                  go_roundw
                  case rel => exact ⟨q + 1, by omega, by go_num, bool_val (by rw [E7.out, E8.out]; rfl), hol8, hb8⟩
                  case measure => simp [intOf]; omega
          · have eq : (ss.take q).all (okOne S a) = okAll ss S a := by rw [List.take_of_length_le (by rw [← HN.out]; omega)]; rfl
            rw [eq]
            clear eq
            cases hO : okAll ss S a with
            | false =>
              have e7 : (L.take (j + 1)).foldl (bestStep ss S) (ByteArray.empty, false) = (f, bb) := by rw [EST.out, hO]; rfl
              have E7 := Lib.hid e7
              clear e7 hO
              go_wp2
              go_roundw
              case rel => exact ⟨j + 1, (f, bb), by omega, by go_num, rfl, rfl, E7.out.symm, hpz, hol, hb⟩
              case measure => simp [intOf]; omega
            | true =>
              cases bb with
              | false =>
                have e7 : (L.take (j + 1)).foldl (bestStep ss S) (ByteArray.empty, false) = (a, true) := by rw [EST.out, hO]; rfl
                have E7 := Lib.hid e7
                clear e7 hO
                go_wp2
                go_roundw
                case rel => exact ⟨j + 1, (a, true), by omega, by go_num, rfl, rfl, E7.out.symm, haz, hol, hb⟩
                case measure => simp [intOf]; omega
              | true =>
                cases hB : Op.bytesLess a.toList f.toList with
                | true =>
                  have e7 : (L.take (j + 1)).foldl (bestStep ss S) (ByteArray.empty, false) = (a, true) := by rw [EST.out, hO, hB]; rfl
                  have E7 := Lib.hid e7
                  clear e7 hO
                  go_wp2
                  go_roundw
                  case rel => exact ⟨j + 1, (a, true), by omega, by go_num, rfl, rfl, E7.out.symm, haz, hol, hb⟩
                  case measure => simp [intOf]; omega
                | false =>
                  have e7 : (L.take (j + 1)).foldl (bestStep ss S) (ByteArray.empty, false) = (f, true) := by rw [EST.out, hO, hB]; rfl
                  have E7 := Lib.hid e7
                  clear e7 hO
                  go_wp2
                  go_roundw
                  case rel => exact ⟨j + 1, (f, true), by omega, by go_num, rfl, rfl, E7.out.symm, hpz, hol, hb⟩
                  case measure => simp [intOf]; omega
      · have ep : bestF ss S m = (f, bb) := by rw [EF.out, HP.out, List.take_of_length_le (by omega)]
        have e9 : bestP ss S m = (f ++ ⟨#[46]⟩, bb) := by rw [EB.out, ep]
        have E9 := Lib.hid e9
        have j9 : ¬ (9223372036854775807 < f.size + 1) := by omega
        clear ep e9
        go_wp2
        go_ret2
        exact ⟨ret_two (by rw [E9.out]; rfl) (bool_val (by rw [E9.out])), hb⟩
end Go.Proofs.YtapagncaadjiaaaGreatDoor

/- The reference of names: the shortest abbreviation. -/
namespace Go.Proofs.YtapagncaadjiaaaGreatDoor
open Go.RowKit

/-- The best abbreviation with the fewest letters, from so many and one on. -/
def fromB (ss : List ByteArray) (S : ByteArray) : Nat → Nat → ByteArray × Int
  | 0, _ => (ByteArray.empty, 11)
  | f + 1, m => if (bestP ss S m).2 then ((bestP ss S m).1, 0) else fromB ss S f (m + 1)
theorem fromB_step (ss : List ByteArray) (S : ByteArray) (m : Nat) (h : m < 12) :
    fromB ss S (12 - m) m = if (bestP ss S m).2 then ((bestP ss S m).1, 0) else fromB ss S (12 - (m + 1)) (m + 1) := by
  rw [show 12 - m = (12 - (m + 1)) + 1 from by omega]; rfl
def shortestP (ss : List ByteArray) (i : Int) : ByteArray × Int :=
  if listErr ss = 0 then (if i < 0 ∨ (ss.length : Int) ≤ i then (ByteArray.empty, 3) else fromB ss (keyS ((ss[i.toNat]?).getD ByteArray.empty)) 12 0) else (ByteArray.empty, listErr ss)

def StrErrPost (p : ByteArray × Int) (w : World) (e : Ending) (w' : World) : Prop :=
  e = .returned (.tuple #[.string p.1, .int .i64 p.2]) ∧ Below w.heap.size w w'

set_option maxRecDepth 100000 in
set_option maxHeartbeats 3200000 in
theorem Shortest_any (A : Option Addr) (n c : Nat) (ss : List ByteArray) (i : Int) (w : World) (hn : n = ss.length) (hx : Cells w A (ss.map Value.string)) :
    Calls Tryz.prog 55 #[.slice A n c, .int .i64 i] w (StrErrPost (shortestP ss i) w) := by
  have HN := Lib.hid hn
  have HX := Lib.hid hx
  by_cases h1 : listErr ss = 0
  · have m1 : (listErr ss != 0) = false := by simp [h1]
    have hv := listErr_zero h1
    by_cases h2 : i < 0 ∨ (ss.length : Int) ≤ i
    · have e : shortestP ss i = (ByteArray.empty, 3) := by unfold shortestP; rw [if_pos h1, if_pos h2]
      have E := Lib.hid e
      rw [← hn] at h2
      clear e h1 hv hn hx
      rcases h2 with h2 | h2
      · have j1 : decide (i < 0) = true := decide_eq_true h2
        go_enter Tryz.func55, Tryz.ntmps55
        go_wp2_with fail
        refine (checkList_any A n c ss _ HN.out HX.out).mono ?_
        rintro e w1 ⟨rfl, hb1⟩
        go_wp2
        go_ret2
        exact ⟨ret_two (by rw [E.out]; rfl) (int_val (by rw [E.out])), hb1⟩
      · have j0 : decide (i < 0) = false := decide_eq_false (by omega)
        have j1 : decide ((n : Int) ≤ i) = true := decide_eq_true h2
        go_enter Tryz.func55, Tryz.ntmps55
        go_wp2_with fail
        refine (checkList_any A n c ss _ HN.out HX.out).mono ?_
        rintro e w1 ⟨rfl, hb1⟩
        go_wp2
        go_ret2
        exact ⟨ret_two (by rw [E.out]; rfl) (int_val (by rw [E.out])), hb1⟩
    · obtain ⟨k, rfl⟩ := Int.eq_ofNat_of_zero_le (by omega : 0 ≤ i)
      have hk : k < ss.length := by omega
      have e : shortestP ss (k : Int) = fromB ss (keyS ss[k]) 12 0 := by
        unfold shortestP
        rw [if_pos h1, if_neg h2, Int.toNat_natCast, List.getElem?_eq_getElem hk]; rfl
      have E := Lib.hid e
      have HV := Lib.hid hv.2
      have hvl := hv.1
      have j0 : decide ((k : Int) < 0) = false := decide_eq_false (by omega)
      have j1 : decide (n ≤ k) = false := decide_eq_false (by omega)
      have j2 : ¬ n ≤ k := by omega
      have n6 : n ≤ 1000 := by omega
      clear e h1 h2 hv hn hx
      go_enter Tryz.func55, Tryz.ntmps55
      go_wp2_with fail
      refine (checkList_any A n c ss _ HN.out HX.out).mono ?_
      rintro e w1 ⟨rfl, hb1⟩
      go_wp2_with fail
      go_loopw [7, 8, 9] (fun v _ _ wr => ∃ m : Nat, m ≤ 12 ∧ v = .int .i64 ((m : Int) + 1) ∧ fromB ss (keyS ss[k]) (12 - m) m = fromB ss (keyS ss[k]) 12 0 ∧ Below w.heap.size w wr) (fun v _ _ _ => 13 - (intOf v).toNat)
      case atStart => exact ⟨0, by omega, rfl, rfl, hb1⟩
      case round =>
        obtain ⟨m, hm, rfl, hf, hb⟩ := hrel
        have HF := Lib.hid hf
        clear hf hb1
        by_cases hlt : m < 12
        · have est := fromB_step ss (keyS ss[k]) m hlt
          rw [HF.out] at est
          have q : ∀ W, Cells W A (ss.map Value.string) → Calls Tryz.prog 110 #[.slice A n c, .int .i64 (k : Nat), .int .i64 ((m : Int) + 1)] W (BestPost (bestP ss (keyS ss[k]) m) W) := fun W hw => best_any A n c ss k m W HN.out n6 HV.out hk (by omega) hw
          generalize bestP ss (keyS ss[k]) m = R at *
          obtain ⟨z, ok⟩ := R
          have EST := Lib.hid est
          have Q : Hid _ := q
          have j5 : decide ((m : Int) + 1 ≤ 12) = true := decide_eq_true (by omega)
          clear est q
          go_wp2_with fail
          refine Calls.mono (Q _ (HX.out.below hb)) ?_
          rintro e w2 ⟨rfl, hb2⟩
          have hb3 := hb.trans (hb2.mono hb.size)
          cases ok with
          | true =>
            have e9 : shortestP ss (k : Int) = (z, 0) := by rw [E.out, EST.out]; rfl
            have E9 := Lib.hid e9
            clear e9
            go_wp2
            go_ret2
            exact ⟨ret_two (by rw [E9.out]; rfl) (int_val (by rw [E9.out])), hb3⟩
          | false =>
            have e9 : fromB ss (keyS ss[k]) (12 - (m + 1)) (m + 1) = fromB ss (keyS ss[k]) 12 0 := by rw [EST.out]; rfl
            have E9 := Lib.hid e9
            clear e9
            go_wp2
            go_roundw
            case rel => exact ⟨m + 1, by omega, by go_num, E9.out, hb3⟩
            case measure => simp [intOf]; omega
        · have em : m = 12 := by omega
          have e9 : shortestP ss (k : Int) = (ByteArray.empty, 11) := by rw [E.out, ← HF.out, em]; rfl
          have E9 := Lib.hid e9
          clear e9
          go_wp2
          go_ret2
          exact ⟨ret_two (by rw [E9.out]; rfl) (int_val (by rw [E9.out])), hb⟩
  · have m1 : (listErr ss != 0) = true := by simp [h1]
    have e : shortestP ss i = (ByteArray.empty, listErr ss) := by unfold shortestP; rw [if_neg h1]
    have E := Lib.hid e
    clear e h1 hn hx
    go_enter Tryz.func55, Tryz.ntmps55
    go_wp2_with fail
    refine (checkList_any A n c ss _ HN.out HX.out).mono ?_
    rintro e w1 ⟨rfl, hb1⟩
    go_wp2
    go_ret2
    exact ⟨ret_two (by rw [E.out]; rfl) (int_val (by rw [E.out])), hb1⟩
end Go.Proofs.YtapagncaadjiaaaGreatDoor

/- The reference of names: what is set in a column. -/
namespace Go.Proofs.YtapagncaadjiaaaGreatDoor
open Go.RowKit

/-- The best abbreviation with so many letters, or with fewer. -/
def downB (ss : List ByteArray) (S : ByteArray) : Nat → ByteArray × Int
  | 0 => (ByteArray.empty, 11)
  | m + 1 => if (bestP ss S m).2 then ((bestP ss S m).1, 0) else downB ss S m
def fitAt (ss : List ByteArray) (S : ByteArray) (width : Int) : ByteArray × Int :=
  if width < 1 then (ByteArray.empty, 1) else if (S.size : Int) ≤ width then (S, 0) else downB ss S (width.toNat - 1)
def fitP (ss : List ByteArray) (i width : Int) : ByteArray × Int :=
  if listErr ss = 0 then (if i < 0 ∨ (ss.length : Int) ≤ i then (ByteArray.empty, 3) else fitAt ss (keyS ((ss[i.toNat]?).getD ByteArray.empty)) width) else (ByteArray.empty, listErr ss)

set_option maxRecDepth 100000 in
set_option maxHeartbeats 3200000 in
theorem Fit_any (A : Option Addr) (n c : Nat) (ss : List ByteArray) (i width : Int) (w : World) (hn : n = ss.length) (hx : Cells w A (ss.map Value.string)) :
    Calls Tryz.prog 57 #[.slice A n c, .int .i64 i, .int .i64 width] w (StrErrPost (fitP ss i width) w) := by
  have HN := Lib.hid hn
  have HX := Lib.hid hx
  by_cases h1 : listErr ss = 0
  · have m1 : (listErr ss != 0) = false := by simp [h1]
    have hv := listErr_zero h1
    by_cases h2 : i < 0 ∨ (ss.length : Int) ≤ i
    · have e : fitP ss i width = (ByteArray.empty, 3) := by unfold fitP; rw [if_pos h1, if_pos h2]
      have E := Lib.hid e
      rw [← hn] at h2
      clear e h1 hv hn hx
      rcases h2 with h2 | h2
      · have j1 : decide (i < 0) = true := decide_eq_true h2
        go_enter Tryz.func57, Tryz.ntmps57
        go_wp2_with fail
        refine (checkList_any A n c ss _ HN.out HX.out).mono ?_
        rintro e w1 ⟨rfl, hb1⟩
        go_wp2
        go_ret2
        exact ⟨ret_two (by rw [E.out]; rfl) (int_val (by rw [E.out])), hb1⟩
      · have j0 : decide (i < 0) = false := decide_eq_false (by omega)
        have j1 : decide ((n : Int) ≤ i) = true := decide_eq_true h2
        go_enter Tryz.func57, Tryz.ntmps57
        go_wp2_with fail
        refine (checkList_any A n c ss _ HN.out HX.out).mono ?_
        rintro e w1 ⟨rfl, hb1⟩
        go_wp2
        go_ret2
        exact ⟨ret_two (by rw [E.out]; rfl) (int_val (by rw [E.out])), hb1⟩
    · obtain ⟨k, rfl⟩ := Int.eq_ofNat_of_zero_le (by omega : 0 ≤ i)
      have hk : k < ss.length := by omega
      have e : fitP ss (k : Int) width = fitAt ss (keyS ss[k]) width := by
        unfold fitP
        rw [if_pos h1, if_neg h2, Int.toNat_natCast, List.getElem?_eq_getElem hk]; rfl
      have HV := Lib.hid hv.2
      have hvl := hv.1
      obtain ⟨x1, x6⟩ := hv.2 ss[k] (List.getElem_mem _)
      have hks := keyS_size x6
      obtain ⟨b1, o1, rfl, c1⟩ := hx.str k hk
      have j0 : decide ((k : Int) < 0) = false := decide_eq_false (by omega)
      have j1 : decide (n ≤ k) = false := decide_eq_false (by omega)
      have j2 : ¬ n ≤ k := by omega
      have j3 : (0 : Int) ≤ (k : Int) := by omega
      have j4 : (k : Int) < (n : Int) := by omega
      have n6 : n ≤ 1000 := by omega
      have qb : ∀ (m : Nat) W, m ≤ 100 → Cells W (some ⟨b1, o1, none⟩) (ss.map Value.string) → Calls Tryz.prog 110 #[.slice (some ⟨b1, o1, none⟩) n c, .int .i64 (k : Nat), .int .i64 ((m : Int) + 1)] W (BestPost (bestP ss (keyS ss[k]) m) W) := fun m W hm hw => best_any _ n c ss k m W HN.out n6 HV.out hk hm hw
      have QB : Hid _ := qb
      clear h1 h2 hv hn hx qb
      by_cases h3 : width < 1
      · have e9 : fitP ss (k : Int) width = (ByteArray.empty, 1) := by rw [e]; unfold fitAt; rw [if_pos h3]
        have E9 := Lib.hid e9
        have j5 : decide (width < 1) = true := decide_eq_true h3
        clear e e9
        go_enter Tryz.func57, Tryz.ntmps57
        go_wp2_with fail
        refine (checkList_any _ n c ss _ HN.out HX.out).mono ?_
        rintro e w1 ⟨rfl, hb1⟩
        go_wp2
        go_ret2
        exact ⟨ret_two (by rw [E9.out]; rfl) (int_val (by rw [E9.out])), hb1⟩
      · have j5 : decide (width < 1) = false := decide_eq_false h3
        generalize hX : ss[k] = X at *
        have key2 : ∀ W : World, Calls Tryz.prog 71 #[.string X] W fun e w' => e = .returned (.string (keyS X)) ∧ Below W.heap.size W w' := fun W => key_S X W x1 x6
        by_cases h4 : ((keyS X).size : Int) ≤ width
        · have e9 : fitP ss (k : Int) width = (keyS X, 0) := by rw [e]; unfold fitAt; rw [if_neg h3, if_pos h4]
          have E9 := Lib.hid e9
          have K2 : Hid _ := key2
          clear e e9 hX key2
          generalize keyS X = S at *
          go_enter Tryz.func57, Tryz.ntmps57
          go_wp2_with fail
          refine (checkList_any _ n c ss _ HN.out HX.out).mono ?_
          rintro e w1 ⟨rfl, hb1⟩
          have c2 := (hb1.cell (World.block_lt_of_cell? w _ c1)).trans c1
          go_wp2_with fail
          refine Calls.mono (K2 _) ?_
          rintro e w2 ⟨rfl, hb2⟩
          have hb3 := hb1.trans (hb2.mono hb1.size)
          have c3 := (hb2.cell (World.block_lt_of_cell? w1 _ c2)).trans c2
          go_wp2_with fail
          refine Calls.mono (K2 _) ?_
          rintro e w4 ⟨rfl, hb4⟩
          go_wp2
          go_ret2
          exact ⟨ret_two (by rw [E9.out]; rfl) (int_val (by rw [E9.out])), hb3.trans (hb4.mono hb3.size)⟩
        · obtain ⟨W, rfl⟩ := Int.eq_ofNat_of_zero_le (by omega : 0 ≤ width)
          have e9 : fitP ss (k : Int) W = downB ss (keyS X) (W - 1) := by rw [e]; unfold fitAt; rw [if_neg h3, if_neg h4, Int.toNat_natCast]
          have E9 := Lib.hid e9
          have K2 : Hid _ := key2
          have w12 : W ≤ 12 := by omega
          have w1' : 1 ≤ W := by omega
          have j6 : decide ((keyS X).size ≤ W) = false := decide_eq_false (by omega)
          have j7 : ¬ (keyS X).size ≤ W := by omega
          have j8 : IntKind.i64.wrap ((W : Int) - 1) = (W : Int) - 1 := IntWalk.i64_in _ (by omega)
          clear e e9 hX key2
          generalize keyS X = S at *
          go_enter Tryz.func57, Tryz.ntmps57
          go_wp2_with fail
          refine (checkList_any _ n c ss _ HN.out HX.out).mono ?_
          rintro e w1 ⟨rfl, hb1⟩
          have c2 := (hb1.cell (World.block_lt_of_cell? w _ c1)).trans c1
          go_wp2_with fail
          refine Calls.mono (K2 _) ?_
          rintro e w2 ⟨rfl, hb2⟩
          have hb3 := hb1.trans (hb2.mono hb1.size)
          go_wp2_with fail
          go_loopw [9, 10, 11] (fun v _ _ wr => ∃ m : Nat, m ≤ 11 ∧ v = .int .i64 (m : Int) ∧ downB ss S m = downB ss S (W - 1) ∧ Below w.heap.size w wr) (fun v _ _ _ => (intOf v).toNat)
          case atStart => exact ⟨W - 1, by omega, by congr 1; omega, rfl, hb3⟩
          case round =>
            obtain ⟨m, hm, rfl, hf, hb⟩ := hrel
            have HF := Lib.hid hf
            clear hf
            cases m with
            | zero =>
              have e8 : fitP ss (k : Int) W = (ByteArray.empty, 11) := by rw [E9.out, ← HF.out]; rfl
              have E8 := Lib.hid e8
              clear e8
              go_wp2
              go_ret2
              exact ⟨ret_two (by rw [E8.out]; rfl) (int_val (by rw [E8.out])), hb⟩
            | succ m =>
              have est : downB ss S (m + 1) = if (bestP ss S m).2 then ((bestP ss S m).1, 0) else downB ss S m := rfl
              rw [HF.out] at est
              have q := fun Wd hw => QB m Wd (by omega) hw
              generalize bestP ss S m = R at *
              obtain ⟨z, ok⟩ := R
              have EST := Lib.hid est
              have Q : Hid _ := q
              have j9 : IntKind.i64.wrap ((m : Int) + 1 - 1) = (m : Int) := by rw [show (m : Int) + 1 - 1 = m from by omega]; exact IntWalk.i64_in _ (by omega)
              have j10 : IntKind.i64.wrap (m : Int) = (m : Int) := IntWalk.i64_in _ (by omega)
              clear est q
              go_wp2_with fail
              refine Calls.mono (Q _ (HX.out.below hb)) ?_
              rintro e w4 ⟨rfl, hb4⟩
              have hb5 := hb.trans (hb4.mono hb.size)
              cases ok with
              | true =>
                have e8 : fitP ss (k : Int) W = (z, 0) := by rw [E9.out, EST.out]; rfl
                have E8 := Lib.hid e8
                clear e8
                go_wp2
                go_ret2
                exact ⟨ret_two (by rw [E8.out]; rfl) (int_val (by rw [E8.out])), hb5⟩
              | false =>
                have e8 : downB ss S m = downB ss S (W - 1) := by rw [EST.out]; rfl
                have E8 := Lib.hid e8
                clear e8
                go_wp2
                go_roundw
                case rel => exact ⟨m, by omega, rfl, E8.out, hb5⟩
                case measure => simp [intOf]
  · have m1 : (listErr ss != 0) = true := by simp [h1]
    have e : fitP ss i width = (ByteArray.empty, listErr ss) := by unfold fitP; rw [if_neg h1]
    have E := Lib.hid e
    clear e h1 hn hx
    go_enter Tryz.func57, Tryz.ntmps57
    go_wp2_with fail
    refine (checkList_any A n c ss _ HN.out HX.out).mono ?_
    rintro e w1 ⟨rfl, hb1⟩
    go_wp2
    go_ret2
    exact ⟨ret_two (by rw [E.out]; rfl) (int_val (by rw [E.out])), hb1⟩
end Go.Proofs.YtapagncaadjiaaaGreatDoor

/- The reference of names: names of the other alphabet that stand for a string. -/
namespace Go.Proofs.YtapagncaadjiaaaGreatDoor
open Go.RowKit

/-- The letter of the other alphabet with this number, and what it stands for. -/
def letterAt (k : Nat) : UInt8 := UInt8.ofNat (65 + k)
theorem letterAt_nat (k : Nat) (h : k ≤ 26) : (letterAt k).toNat = 65 + k := by
  unfold letterAt; rw [UInt8.toNat_ofNat']; omega
def lets (k : Nat) : List UInt8 := Sp.stands (letterAt k)

/-- Whether a string begins with what a letter stands for. -/
def fitsAt (s : ByteArray) (k : Nat) : Bool := decide (lets k ≠ []) && (decide ((lets k).length ≤ s.size) && ((s.extract 0 (lets k).length).toList == lets k))

/-- All strings of letters of the other alphabet that stand for a string (of at most so many letters). -/
def othersL : Nat → ByteArray → List ByteArray
  | 0, _ => [ByteArray.empty]
  | n + 1, s => if s.size = 0 then [ByteArray.empty] else (List.range 26).flatMap fun k => if fitsAt s k then (othersL n (s.extract (lets k).length s.size)).map (⟨#[letterAt k]⟩ ++ ·) else []

theorem heads (a : UInt8) : (List.range 26).countP (fun k => (lets k).head? == some a) ≤ 2 := by
  have h : ∀ n : Fin 256, (List.range 26).countP (fun k => (lets k).head? == some (UInt8.ofNat n.val)) ≤ 2 := by decide +kernel
  have h2 := h ⟨a.toNat, a.toNat_lt⟩
  rwa [show UInt8.ofNat (⟨a.toNat, a.toNat_lt⟩ : Fin 256).val = a from UInt8.ofNat_toNat] at h2

theorem flat_count {α β : Type} (l : List α) (f : α → List β) (q : α → Bool) (B : Nat) (h : ∀ x, x ∈ l → (f x).length ≤ if q x then B else 0) : (l.flatMap f).length ≤ l.countP q * B := by
  induction l with
  | nil => simp
  | cons a t ih =>
    have h1 := h a (by simp)
    have h2 := ih fun x hx => h x (by simp [hx])
    rw [List.flatMap_cons, List.length_append, List.countP_cons, Nat.add_mul]
    split at h1
    · rename_i hq; rw [if_pos hq]; omega
    · rename_i hq; rw [if_neg hq]; omega

theorem fits_head {s : ByteArray} {k : Nat} (hs : 0 < s.size) (h : fitsAt s k = true) : ((lets k).head? == some s[0]) = true := by
  unfold fitsAt at h
  simp only [Bool.and_eq_true, decide_eq_true_eq, beq_iff_eq] at h
  obtain ⟨h1, h2, h3⟩ := h
  have h0 : 0 < (lets k).length := List.length_pos_iff.2 h1
  rw [ByteArray.toList_eq] at h3
  have h5 : 0 < s.data.toList.length := by simpa using hs
  have h4 : (lets k)[0]? = s.data.toList[0]? := by
    rw [← h3]
    simp [ByteArray.data_extract, h0]
  rw [beq_iff_eq, List.head?_eq_getElem?, h4, List.getElem?_eq_getElem h5]; rfl

theorem othersL_len (n : Nat) : ∀ s : ByteArray, (othersL n s).length ≤ 2 ^ n := by
  induction n with
  | zero => intro s; exact Nat.le_refl 1
  | succ n ih =>
    intro s
    unfold othersL
    split
    · exact Nat.one_le_two_pow
    · rename_i h0
      have hs : 0 < s.size := by omega
      have h1 := flat_count (List.range 26) (fun k => if fitsAt s k then (othersL n (s.extract (lets k).length s.size)).map (⟨#[letterAt k]⟩ ++ ·) else []) (fun k => (lets k).head? == some s[0]) (2 ^ n) (fun k _ => by
        by_cases hf : fitsAt s k = true
        · rw [if_pos hf, if_pos (fits_head hs hf), List.length_map]; exact ih _
        · rw [if_neg hf]; exact Nat.zero_le _)
      have h2 := heads s[0]
      have h3 := Nat.mul_le_mul_right (2 ^ n) h2
      rw [Nat.pow_succ, Nat.mul_comm (2 ^ n)]
      omega

def othersAt (n : Nat) (s : ByteArray) (k : Nat) : List ByteArray := if fitsAt s k then (othersL n (s.extract (lets k).length s.size)).map (⟨#[letterAt k]⟩ ++ ·) else []
def othersFrom (n : Nat) (s : ByteArray) (k : Nat) : List ByteArray := ((List.range 26).drop k).flatMap (othersAt n s)
theorem othersL_from (n : Nat) (s : ByteArray) (h : ¬ s.size = 0) : othersL (n + 1) s = othersFrom n s 0 := by
  show (if s.size = 0 then _ else _) = _
  rw [if_neg h]; rfl
theorem othersFrom_step (n : Nat) (s : ByteArray) (k : Nat) (h : k < 26) : othersFrom n s k = othersAt n s k ++ othersFrom n s (k + 1) := by
  unfold othersFrom
  rw [List.drop_eq_getElem_cons (by simpa using h), List.flatMap_cons, List.getElem_range]
theorem othersFrom_end (n : Nat) (s : ByteArray) : othersFrom n s 26 = [] := by
  unfold othersFrom; rw [List.drop_eq_nil_of_le (by simp)]; rfl

theorem fits_no1 {s : ByteArray} {k : Nat} (h : lets k = []) : fitsAt s k = false := by unfold fitsAt; simp [h]
theorem fits_no2 {s : ByteArray} {k : Nat} (h : ¬ (lets k).length ≤ s.size) : fitsAt s k = false := by unfold fitsAt; simp [h]
theorem fits_no3 {s : ByteArray} {k : Nat} (h : ¬ (s.extract 0 (lets k).length).toList = lets k) : fitsAt s k = false := by unfold fitsAt; simp [h]
theorem fits_yes {s : ByteArray} {k : Nat} (h1 : ¬ lets k = []) (h2 : (lets k).length ≤ s.size) (h3 : (s.extract 0 (lets k).length).toList = lets k) : fitsAt s k = true := by unfold fitsAt; simp [h1, h2, h3]
theorem othersAt_no {n : Nat} {s : ByteArray} {k : Nat} (h : fitsAt s k = false) : othersAt n s k = [] := by unfold othersAt; rw [h]; rfl
theorem othersAt_yes {n : Nat} {s : ByteArray} {k : Nat} (h : fitsAt s k = true) : othersAt n s k = (othersL n (s.extract (lets k).length s.size)).map (⟨#[letterAt k]⟩ ++ ·) := by unfold othersAt; rw [h]; rfl

theorem othersL_size (n : Nat) : ∀ (s x : ByteArray), x ∈ othersL n s → x.size ≤ n := by
  induction n with
  | zero => intro s x h; rw [List.mem_singleton.1 h]; exact Nat.le_refl _
  | succ n ih =>
    intro s x h
    unfold othersL at h
    split at h
    · rw [List.mem_singleton.1 h]; exact Nat.zero_le _
    · obtain ⟨k, _, h⟩ := List.mem_flatMap.1 h
      split at h
      · obtain ⟨y, hy, rfl⟩ := List.mem_map.1 h
        have h1 := ih _ _ hy
        rw [ByteArray.size_append]
        show 1 + _ ≤ _
        omega
      · cases h

set_option maxRecDepth 100000 in
set_option maxHeartbeats 3200000 in
theorem others_any (n : Nat) : ∀ (s : ByteArray) (w : World), n ≤ 12 → s.size ≤ n →
    Calls Tryz.prog 73 #[.string s] w (StrsPost (othersL n s) w) := by
  obtain ⟨si, hi, hz0, hz1, hz2⟩ := info_parts infoStr
  induction n with
  | zero =>
    intro s w _ hs
    have h0 : s = ByteArray.empty := ByteArray.size_eq_zero_iff.1 (by omega)
    subst h0
    go_enter Tryz.func73, Tryz.ntmps73
    go_wp2
    go_ret
    exact ⟨_, rfl, World.ownsRow_lit w #[.string ByteArray.empty] 1 (Nat.le_refl _) (by unfold maxLen; omega) rfl, (Below.refl _ _).alloc (Nat.le_refl _) _⟩
  | succ n ih =>
    intro s w hn hs
    by_cases h0 : s.size = 0
    · have h1 : s = ByteArray.empty := ByteArray.size_eq_zero_iff.1 h0
      subst h1
      have e : othersL (n + 1) ByteArray.empty = [ByteArray.empty] := rfl
      rw [e]
      clear e ih
      go_enter Tryz.func73, Tryz.ntmps73
      go_wp2
      go_ret
      exact ⟨_, rfl, World.ownsRow_lit w #[.string ByteArray.empty] 1 (Nat.le_refl _) (by unfold maxLen; omega) rfl, (Below.refl _ _).alloc (Nat.le_refl _) _⟩
    · have IH : Hid _ := ih
      have htl : (othersFrom n s 0).length ≤ 4096 := by
        have h1 := othersL_len (n + 1) s
        rw [othersL_from n s h0] at h1
        exact Nat.le_trans h1 (Nat.pow_le_pow_right (n := 2) (by decide) hn)
      rw [othersL_from n s h0]
      have hne : (s.toList == []) = false := by
        rw [beq_eq_false_iff_ne, ByteArray.toList_eq]
        intro h
        exact h0 (by rw [← size_list s, h]; rfl)
      generalize hZ : othersFrom n s 0 = Z at *
      have HZ := Lib.hid hZ
      clear ih hZ
      go_enter Tryz.func73, Tryz.ntmps73
      go_wp2_with fail
      go_loopw [3, 4, 5, 6, 7] (fun o c _ _ _ wr => ∃ (k : Nat) (xs : List ByteArray), k ≤ 26 ∧ c = .int .u8 ((letterAt k).toNat : Int) ∧ xs ++ othersFrom n s k = Z ∧ wr.ownsRow w.heap.size 9 1 o xs.length (xs.map Value.string) ∧ Below w.heap.size w wr) (fun _ c _ _ _ _ => 91 - (intOf c).toNat)
      case atStart => exact ⟨0, [], Nat.zero_le _, rfl, HZ.out, World.ownsRow_nil _ _ _ _, Below.refl _ _⟩
      case round =>
        obtain ⟨k, xs, hk, rfl, hf, hown, hb⟩ := hrel
        have HF := Lib.hid hf
        clear hf
        have hC := letterAt_nat k hk
        by_cases hlt : k < 26
        · have jw : ((letterAt k).toNat : Int) + 1 = ((letterAt (k + 1)).toNat : Int) := by
            rw [hC, letterAt_nat (k + 1) (by omega)]; omega
          have jc : ((letterAt k).toNat : Int) ≤ 90 := by omega
          have est := othersFrom_step n s k hlt
          have eL : Sp.stands (letterAt k) = lets k := rfl
          have hsl := stands_le (letterAt k)
          have hat : othersAt n s k = if fitsAt s k then (othersL n (s.extract (lets k).length s.size)).map (⟨#[letterAt k]⟩ ++ ·) else [] := rfl
          rw [hat] at est
          clear hat
          by_cases h1 : lets k = []
          · have e5 : xs ++ othersFrom n s (k + 1) = Z := by rw [← HF.out, est, if_neg (by rw [fits_no1 h1]; simp)]; rfl
            have e6 : Sp.stands (letterAt k) = [] := h1
            have E5 := Lib.hid e5
            have JW := Lib.hid jw
            clear e5 est eL h1 jw hC
            generalize letterAt k = C at *
            have E6 := Lib.hid e6
            clear e6
            go_wp2_with fail
            refine (stands_any _ _).mono ?_
            rw [E6.out]
            rintro e w1 ⟨rfl, hb1⟩
            have hown1 := own_below hown hb1
            have hbw1 := hb.trans (hb1.mono hb.size)
            clear hown hb
            go_wp2
            go_roundw
            case rel => exact ⟨k + 1, xs, by omega, int_val JW.out, E5.out, hown1, hbw1⟩
            case measure => simp [intOf]; omega
          · have eC : lets k = Sp.stands (letterAt k) := rfl
            have h7 : (lets k == []) = false := by rw [beq_eq_false_iff_ne]; exact h1
            by_cases h2 : (lets k).length ≤ s.size
            · by_cases h3 : (s.extract 0 (lets k).length).toList = lets k
              · have h8 : ((s.extract 0 (lets k).length).toList == lets k) = true := by rw [beq_iff_eq]; exact h3
                have h9 : decide (s.size < (lets k).length) = false := decide_eq_false (by omega)
                have h10 : ((lets k).length : Int) ≤ (s.size : Int) := by omega
                rw [if_pos (fits_yes h1 h2 h3)] at est
                rw [est] at HF
                have h0p : 0 < (lets k).length := List.length_pos_iff.2 h1
                have hxz := Lib.hid (othersL_size n (s.extract (lets k).length s.size))
                have hsz : (s.extract (lets k).length s.size).size ≤ n := by rw [ByteArray.size_extract]; omega
                have hLl : (othersL n (s.extract (lets k).length s.size)).length ≤ 4096 := Nat.le_trans (othersL_len n _) (Nat.le_trans (Nat.pow_le_pow_right (n := 2) (by decide) (by omega : n ≤ 12)) (by decide))
                rw [eL] at hsl
                have JW := Lib.hid jw
                have hx1 : ⟨#[UInt8.ofNat ((letterAt k).toNat : Int).toNat]⟩ = (⟨#[letterAt k]⟩ : ByteArray) := by
                  rw [Int.toNat_natCast, UInt8.ofNat_toNat]
                have HX1 := Lib.hid hx1
                clear est h1 h3 jw hC eC hx1 h0p
                have jn : n ≤ 12 := by omega
                generalize lets k = PL at *
                generalize letterAt k = C at *
                have E6 := Lib.hid eL
                clear eL
                go_wp2_with fail
                refine (stands_any _ _).mono ?_
                rw [E6.out]
                rintro e w1 ⟨rfl, hb1⟩
                have hown1 := own_below hown hb1
                have hbw1 := hb.trans (hb1.mono hb.size)
                clear hown hb
                go_wp2_with fail
                refine (IH.out (s.extract PL.length s.size) _ jn hsz).mono ?_
                rintro e w2 ⟨ol, rfl, hol, hb2⟩
                have hown2 := own_below hown1 hb2
                have hbw2 := hbw1.trans (hb2.mono hbw1.size)
                obtain ⟨OL, capl, rfl⟩ := own_form hol
                have hol1 := hol.mono hbw1.size
                have hfar : ∀ g, u3.ownBlock = some g → (Value.slice OL (othersL n (s.extract PL.length s.size)).length capl).ownBlock ≠ some g := by
                  intro g h1 h2
                  have g1 := (hown1.lt g h1).2
                  have g2 := (hol.lt g h2).1
                  omega
                generalize othersL n (s.extract PL.length s.size) = L at *
                clear hown1 hbw1 hb2 hol
                go_wp2_with fail
                go_loopw [3, 7] (fun o i wi => ∃ (j : Nat) (ys : List ByteArray), j ≤ L.length ∧ i = .int .i64 j ∧ ys ++ ((L.drop j).map (⟨#[C]⟩ ++ ·) ++ othersFrom n s (k + 1)) = Z ∧ wi.ownsRow w.heap.size 9 1 o ys.length (ys.map Value.string) ∧ wi.ownsRow w.heap.size 9 1 (.slice OL L.length capl) L.length (L.map Value.string) ∧ (∀ g, o.ownBlock = some g → (Value.slice OL L.length capl).ownBlock ≠ some g) ∧ Below w.heap.size w wi) (fun _ i _ => L.length - (intOf i).toNat)
                case atStart => exact ⟨0, xs, Nat.zero_le _, rfl, HF.out, hown2, hol1, hfar, hbw2⟩
                case round =>
                  obtain ⟨j, ys, hj, rfl, hf, hown, hol, hfar, hb⟩ := hrel
                  have HFI := Lib.hid hf
                  clear hf hown2 hol1 hbw2
                  by_cases hlj : j < L.length
                  · obtain ⟨gl, capl', hv, hc⟩ := own_str hol j hlj
                    injection hv with hv1 hv2 hv3
                    subst hv1 hv3
                    have hyl : ys.length + 1 ≤ 4096 := by
                      have h1 := congrArg List.length HFI.out
                      rw [List.length_append, List.length_append, List.length_map, List.length_drop] at h1
                      omega
                    have e5 : ys ++ [(⟨#[C]⟩ : ByteArray) ++ L[j]] ++ ((L.drop (j + 1)).map (⟨#[C]⟩ ++ ·) ++ othersFrom n s (k + 1)) = Z := by
                      rw [← HFI.out, List.drop_eq_getElem_cons hlj, List.map_cons, List.append_assoc]; rfl
                    have hxj := hxz.out L[j] (List.getElem_mem _)
                    generalize hX : L[j] = X at *
                    have E5 := Lib.hid e5
                    have HFAR := Lib.hid hfar
                    have i5 : (0 : Int) ≤ (j : Int) := by omega
                    have i6 : (j : Int) < (L.length : Int) := by omega
                    have hws := hb.size
                    have sz : ((wr.alloc (.cells #[.int .u8 (C.toNat : Int)] 5)).drew).heap.size = wr.heap.size + 1 := by simp
                    have cv : (convert 154 9 (.slice (some ⟨wr.heap.size, 0, none⟩) 1 1)).run Tryz.prog ((wr.alloc (.cells #[.int .u8 (C.toNat : Int)] 5)).drew) = .ok (.string ⟨#[UInt8.ofNat (C.toNat : Int).toNat]⟩) ((wr.alloc (.cells #[.int .u8 (C.toNat : Int)] 5)).drew) := conv1 (C.toNat : Int) wr.drew
                    rw [HX1.out] at cv
                    have hown3 : ((wr.alloc (.cells #[.int .u8 (C.toNat : Int)] 5)).drew).ownsRow _ _ _ _ _ _ := own_drew (hown.alloc (.cells #[.int .u8 (C.toNat : Int)] 5))
                    have hol3 : ((wr.alloc (.cells #[.int .u8 (C.toNat : Int)] 5)).drew).ownsRow _ _ _ _ _ _ := own_drew (hol.alloc (.cells #[.int .u8 (C.toNat : Int)] 5))
                    have hb3 := (hb.alloc (o := .cells #[.int .u8 (C.toNat : Int)] 5) hws).drew
                    have c5 : wr.drew.cell? ⟨gl, j, none⟩ = some (.string X) := hc
                    have c6 : (wr.alloc (.cells #[.int .u8 (C.toNat : Int)] 5)).cell? ⟨gl, j, none⟩ = some (.string X) := by
                      rw [World.cell?_alloc_past _ _ _ (hol.lt gl rfl).2]; exact hc
                    have cn := cell_one_new ((wr.alloc (.cells #[.int .u8 (C.toNat : Int)] 5)).drew) (.string (⟨#[C]⟩ ++ X)) 9
                    rw [sz] at cn
                    have i8 : (⟨#[C]⟩ : ByteArray).size = 1 := rfl
                    have i7 : ¬ (9223372036854775807 < 1 + X.size) := by omega
                    have i9 : 1 + X.size ≤ 9223372036854775807 := by omega
                    generalize hC1 : (⟨#[C]⟩ : ByteArray) = CB at *
                    have HC1 := Lib.hid hC1
                    clear hX e5 hfar hC1
                    go_wp2_with fail
                    go_region_law (first
                      | (refine step_append_lies _ (by rfl) _ _ 28 (by rfl) w.heap.size 9 si (.string ByteArray.empty) 1 16 Tryz.underlying28 hi hz0 hz1 hz2 rfl (by decide) _ _ _ (by rfl) (hown3.alloc (.cells #[.string (CB ++ X)] 9)) ⟨wr.heap.size + 1, 0, none⟩ 1 1 [.string (CB ++ X)] (by rfl) rfl cn (by simp [Value.oneCell']) (by decide) (by unfold maxLen; omega) (by omega) (by simp; omega) (wr.heap.size + 1 + 1) (by simp) ?_; intro g cap' wn hownN hgN hat hlt2))
                    all_goals
                      have hlg := (hol.lt gl rfl).2
                      have hbA := hb3.alloc (o := .cells #[.string (CB ++ X)] 9) (by rw [sz]; omega)
                      have hbN := below_row (hown3.alloc _) hbA hgN
                      have holN := (hol3.alloc (.cells #[.string (CB ++ X)] 9)).kept hgN (.inr fun e => HFAR.out gl e.symm rfl)
                      have hfarN : ∀ g', (Value.slice (some ⟨g, 0, none⟩) (ys.length + 1) cap').ownBlock = some g' → (Value.slice (some ⟨gl, 0, none⟩) L.length capl).ownBlock ≠ some g' := by
                        intro g' h1 h2
                        have e1 : g = g' := Option.some.inj h1
                        have e2 : gl = g' := Option.some.inj h2
                        subst e1 e2
                        rcases hat with h3 | h3
                        · exact HFAR.out _ h3 rfl
                        · omega
                      go_wp2
                      go_roundw
                      case rel => exact ⟨j + 1, ys ++ [CB ++ X], by omega, by go_num, E5.out, by simpa using hownN, holN, hfarN, hbN⟩
                      case measure => simp [intOf]; omega
                  · have ej : L.drop j = [] := List.drop_eq_nil_of_le (by omega)
                    have e5 : ys ++ othersFrom n s (k + 1) = Z := by rw [← HFI.out, ej]; rfl
                    have E5 := Lib.hid e5
                    clear ej e5
                    go_wp2
                    go_roundw
                    case rel => exact ⟨k + 1, ys, by omega, int_val JW.out, E5.out, hown, hb⟩
                    case measure => simp [intOf]; omega
              · have e5 : xs ++ othersFrom n s (k + 1) = Z := by rw [← HF.out, est, if_neg (by rw [fits_no3 h3]; simp)]; rfl
                have h8 : ((s.extract 0 (lets k).length).toList == lets k) = false := by rw [beq_eq_false_iff_ne]; exact h3
                have h9 : decide (s.size < (lets k).length) = false := decide_eq_false (by omega)
                have h10 : ((lets k).length : Int) ≤ (s.size : Int) := by omega
                rw [eL] at hsl
                have E5 := Lib.hid e5
                have JW := Lib.hid jw
                clear e5 est h1 h3 jw hC eC
                generalize lets k = PL at *
                generalize letterAt k = C at *
                have E6 := Lib.hid eL
                clear eL
                go_wp2_with fail
                refine (stands_any _ _).mono ?_
                rw [E6.out]
                rintro e w1 ⟨rfl, hb1⟩
                have hown1 := own_below hown hb1
                have hbw1 := hb.trans (hb1.mono hb.size)
                clear hown hb
                go_wp2
                go_roundw
                case rel => exact ⟨k + 1, xs, by omega, int_val JW.out, E5.out, hown1, hbw1⟩
                case measure => simp [intOf]; omega
            · have e5 : xs ++ othersFrom n s (k + 1) = Z := by rw [← HF.out, est, if_neg (by rw [fits_no2 h2]; simp)]; rfl
              have h9 : decide (s.size < (lets k).length) = true := decide_eq_true (by omega)
              rw [eL] at hsl
              have E5 := Lib.hid e5
              have JW := Lib.hid jw
              clear e5 est h1 h2 jw hC eC
              generalize lets k = PL at *
              generalize letterAt k = C at *
              have E6 := Lib.hid eL
              clear eL
              go_wp2_with fail
              refine (stands_any _ _).mono ?_
              rw [E6.out]
              rintro e w1 ⟨rfl, hb1⟩
              have hown1 := own_below hown hb1
              have hbw1 := hb.trans (hb1.mono hb.size)
              clear hown hb
              go_wp2
              go_roundw
              case rel => exact ⟨k + 1, xs, by omega, int_val JW.out, E5.out, hown1, hbw1⟩
              case measure => simp [intOf]; omega
        · have ek : k = 26 := by omega
          subst ek
          have e0 : Z = xs := by rw [← HF.out, othersFrom_end, List.append_nil]
          have E0 := Lib.hid e0
          have j9 : decide (((letterAt 26).toNat : Int) ≤ 90) = false := by rw [hC]; rfl
          clear e0
          go_wp2
          go_ret
          exact ⟨_, rfl, by rw [E0.out]; exact hown, hb⟩

/-- The name of the other alphabet, and the error. -/
def otherL (l : List ByteArray) : ByteArray × Int := match l with
  | [] => (ByteArray.empty, 11)
  | x :: _ => (x, 0)
def otherP (s : ByteArray) : ByteArray × Int := if Sp.check s.data.toList = 0 then otherL (othersL 12 (keyS s)) else (ByteArray.empty, Sp.check s.data.toList)

set_option maxRecDepth 100000 in
set_option maxHeartbeats 1600000 in
theorem Other_any (s : ByteArray) (w : World) : Calls Tryz.prog 22 #[.string s] w (StrErrPost (otherP s) w) := by
  have hl := size_list s
  by_cases h : Sp.check s.data.toList = 0
  · have h16 := check_zero h
    have hne : (Sp.check s.data.toList != 0) = false := by simp [h]
    have e : otherP s = otherL (othersL 12 (keyS s)) := by unfold otherP; rw [if_pos h]
    have E := Lib.hid e
    have x1 : 1 ≤ s.size := by omega
    have x6 : s.size ≤ 6 := by omega
    have hks := keyS_size x6
    clear e h h16 hl
    go_enter Tryz.func22, Tryz.ntmps22
    go_wp2_with fail
    refine (Check_any _ _).mono ?_
    rintro e w1 ⟨rfl, hb1⟩
    go_wp2_with fail
    refine (key_S _ _ x1 x6).mono ?_
    rintro e w2 ⟨rfl, hb2⟩
    have hb3 := hb1.trans (hb2.mono hb1.size)
    generalize keyS s = S at *
    go_wp2_with fail
    refine (others_any 12 S _ (Nat.le_refl _) hks).mono ?_
    rintro e w3 ⟨o, rfl, ho, hb4⟩
    have hb5 := hb3.trans (hb4.mono hb3.size)
    obtain ⟨O, cap, rfl⟩ := own_form ho
    generalize othersL 12 S = L at *
    cases L with
    | nil =>
      have e2 : otherP s = (ByteArray.empty, 11) := by rw [E.out]; rfl
      have E2 := Lib.hid e2
      clear e2
      go_wp2
      go_ret2
      exact ⟨ret_two (by rw [E2.out]; rfl) (int_val (by rw [E2.out])), hb5⟩
    | cons x t =>
      have e2 : otherP s = (x, 0) := by rw [E.out]; rfl
      have E2 := Lib.hid e2
      obtain ⟨gl, capl, hv, hc⟩ := own_str ho 0 (by simp)
      injection hv with hv1 hv2 hv3
      subst hv1 hv3
      have hc' : w3.cell? ⟨gl, 0, none⟩ = some (.string x) := hc
      have n0 : (((x :: t).length : Int) == 0) = false := by rw [beq_eq_false_iff_ne, List.length_cons]; omega
      have n1 : (0 : Int) < ((x :: t).length : Int) := by rw [List.length_cons]; omega
      generalize (x :: t).length = M at *
      clear e2 hc
      go_wp2
      go_ret2
      exact ⟨ret_two (by rw [E2.out]; rfl) (int_val (by rw [E2.out])), hb5⟩
  · have hne : (Sp.check s.data.toList != 0) = true := by simp [h]
    have e : otherP s = (ByteArray.empty, Sp.check s.data.toList) := by unfold otherP; rw [if_neg h]
    have E := Lib.hid e
    clear e h hl
    go_enter Tryz.func22, Tryz.ntmps22
    go_wp2_with fail
    refine (Check_any _ _).mono ?_
    rintro e w1 ⟨rfl, hb1⟩
    go_wp2
    go_ret2
    exact ⟨ret_two (by rw [E.out]; rfl) (int_val (by rw [E.out])), hb1⟩
end Go.Proofs.YtapagncaadjiaaaGreatDoor
