/- What an abbreviation stands for: the walk of the fourth statement. -/
import Derived.Test.YtapagncaadjiaaaGreatDoorLawC0
import Derived.Test.YtapagncaadjiaaaGreatDoorPzC
import Derived.Test.YtapagncaadjiaaaGreatDoorDiceD
import Derived.Test.YtapagncaadjiaaaGreatDoorKitF
import Derived.Deep.RegionHeld3
namespace Go.Proofs.YtapagncaadjiaaaGreatDoor
open Go.RowKit

/-- What stays through a region that turns dice and lays rows. -/
structure Held1 (w : World) (BASE D : Nat) (dv v : Value) (n : Nat) (sb : List ByteArray) (w' : World) : Prop where
  dice : Dice w' D dv
  low : Below w.heap.size w w'
  row : w'.ownsRow BASE 9 1 v n (sb.map Value.string)
  big : BASE ≤ w'.heap.size
theorem Held1.alloc {w : World} {BASE D : Nat} {dv v : Value} {n : Nat} {sb : List ByteArray} {w' : World} (h : Held1 w BASE D dv v n sb w') (o : Obj) : Held1 w BASE D dv v n sb (w'.alloc o) :=
  ⟨h.dice.alloc o, h.low.alloc h.low.size o, h.row.alloc o, Nat.le_trans h.big (by simp)⟩
theorem Held1.drew {w : World} {BASE D : Nat} {dv v : Value} {n : Nat} {sb : List ByteArray} {w' : World} (h : Held1 w BASE D dv v n sb w') : Held1 w BASE D dv v n sb w'.drew :=
  ⟨h.dice, h.low.drew, h.row, h.big⟩
theorem Held1.turned {w : World} {BASE D : Nat} {dv v : Value} {n : Nat} {sb : List ByteArray} {w' w'' : World} (h : Held1 w BASE D dv v n sb w') (hd : Dice w'' D dv) (hg : w'.grownBy w'' (some D)) (h1 : w.heap.size ≤ D) (h2 : D < BASE) : Held1 w BASE D dv v n sb w'' :=
  ⟨hd, h.low.grown hg h.low.size (fun k hk => by cases hk; exact h1), own_kept h.row hg h2, Nat.le_trans h.big hg.size⟩
/-- A cell of a row of the call's own stays when dice turn. -/
theorem cell_turned {w' w'' : World} {g i D BASE : Nat} {x : Value} (hc : w'.cell? ⟨g, i, none⟩ = some x) (hg : w'.grownBy w'' (some D)) (h1 : BASE ≤ g) (h2 : D < BASE) : w''.cell? ⟨g, i, none⟩ = some x :=
  hg.cell hc (by intro e; injection e with e; simp at e; omega)
theorem cell_alloc {w : World} {g i : Nat} {v : Value} {o : Obj} (h : w.cell? ⟨g, i, none⟩ = some v) : (w.alloc o).cell? ⟨g, i, none⟩ = some v := by
  rw [World.cell?_alloc_past _ _ _ (World.block_lt_of_cell? _ _ h)]; exact h

/-- A row laid new, its block's number given. -/
theorem own_new (w : World) (base : Nat) (cs : Array Value) (e : TypeId) (n G : Nat) (xs : List Value) (hG : w.heap.size = G) (hb : base ≤ G) (hn : cs.size = n) (hm : n ≤ 1000) (hx : cs.toList = xs) :
    (w.alloc (.cells cs e)).ownsRow base e 1 (.slice (some ⟨G, 0, none⟩) n n) n xs := by
  subst hG hx
  exact own_lit w base cs e n hb hn hm

theorem standsFrom_len (a : List UInt8) : ∀ (ss : List ByteArray) (k : Nat), (standsFrom a k ss).length ≤ ss.length
  | [], _ => Nat.le_refl _
  | s :: t, k => by
    unfold standsFrom
    have := standsFrom_len a t (k + 1)
    split <;> simp <;> omega
theorem standsL_len (a : List UInt8) (ss : List ByteArray) : (standsL a ss).length ≤ ss.length := by
  unfold standsL
  split
  · exact standsFrom_len a ss 0
  · simp

/-- A step of such a region: nothing, a block laid new, or the dice turned. -/
def Turns (D : Nat) (w w' : World) : Prop := w' = w ∨ (∃ o, w' = w.alloc o) ∨ w.grownBy w' (some D)
/-- A row of four strings, not long, somewhere. -/
def RowA (base : Nat) (v : Value) (w : World) : Prop := ∃ (G : Nat) (xs : List ByteArray), v = .slice (some ⟨G, 0, none⟩) 4 4 ∧ xs.length = 4 ∧ (∀ x, x ∈ xs → x.size ≤ 2000) ∧ w.ownsRow base 9 1 v 4 (xs.map Value.string)
/-- A row of four values, somewhere. -/
def RowB (base : Nat) (xs : List Value) (e : TypeId) (v : Value) (w : World) : Prop := ∃ G : Nat, v = .slice (some ⟨G, 0, none⟩) 4 4 ∧ w.ownsRow base e 1 v 4 xs
theorem own_turns {w w' : World} {base D n : Nat} {e : TypeId} {v : Value} {xs : List Value} (h : w.ownsRow base e 1 v n xs) (hR : Turns D w w') (hd : D < base) : w'.ownsRow base e 1 v n xs := by
  rcases hR with rfl | ⟨o, rfl⟩ | hg
  · exact h
  · exact h.alloc o
  · exact own_kept h hg hd
theorem RowA.turns {w w' : World} {base D : Nat} {v : Value} (h : RowA base v w) (hR : Turns D w w') (hd : D < base) : RowA base v w' := by
  obtain ⟨G, xs, h1, h2, h3, h4⟩ := h
  exact ⟨G, xs, h1, h2, h3, own_turns h4 hR hd⟩
theorem RowB.turns {w w' : World} {base D : Nat} {xs : List Value} {e : TypeId} {v : Value} (h : RowB base xs e v w) (hR : Turns D w w') (hd : D < base) : RowB base xs e v w' := by
  obtain ⟨G, h1, h2⟩ := h
  exact ⟨G, h1, own_turns h2 hR hd⟩

set_option maxRecDepth 100000 in
set_option maxHeartbeats 6400000 in
theorem NameShorts_any (abbr s : ByteArray) (A : Option Addr) (n c : Nat) (ss : List ByteArray) (B : Option Addr) (m d : Nat) (w : World) (hL : LaidErr w) (hn : n = ss.length) (nb : n ≤ 1000000000000000000) (h0 : A = none → c = 0)
    (hx : Cells w A (ss.map Value.string)) (hm : m ≤ 1000000000000000000) (hy : NumsIn w B m) :
    Calls Tryz.prog 6 #[.string abbr, .string s, .slice A n c, .slice B m d] w (TruePost w) := by
  obtain ⟨si, hi, hz0, hz1, hz2⟩ := info_parts infoStr
  have q1 := long_any none A 0 0 n c [] ss w rfl hn (by decide) nb (fun r h => by cases h) (fun i h => by cases h) hx
  have Q1 := Lib.hid q1
  have HLE := Lib.hid hL
  clear hL
  have HY := Lib.hid hy
  cases e1 : longB [] ss with
  | true =>
    clear q1 hx hy hn
    go_enter Tryz.func6, Tryz.ntmps6
    go_wp2_with fail
    refine Q1.out.mono ?_
    rintro e w1 ⟨rfl, hd⟩
    rw [e1]
    have b2 := Drew.below hd w.heap.size
    clear e1 hd
    go_wp2_with fail
    refine (spelling_at _ b2).mono ?_
    rintro e w2 ⟨rfl, hb⟩
    go_wp2
    go_ret
    exact ⟨rfl, hb⟩
  | false =>
    obtain ⟨n20, s20⟩ := long_list e1
    have sl : StrList w (.slice A n c) ss := ⟨A, n, c, rfl, hn, by omega, h0, hx⟩
    have SL := Lib.hid sl
    have q2 : ∀ W : World, Calls Tryz.prog 15 #[.slice none 0 0, .slice (some ⟨W.heap.size, 0, none⟩) 2 2] (W.alloc (.cells #[.string abbr, .string s] 9)) (LongPost [] [abbr, s] (W.alloc (.cells #[.string abbr, .string s] 9))) := fun W =>
      long_any none _ 0 0 2 2 [] [abbr, s] _ rfl rfl (by decide) (by decide) (fun r h => by cases h) (fun i h => by cases h) (cells_lit W #[.string abbr, .string s] 9 2 rfl (by unfold maxLen; omega))
    have Q2 := Lib.hid q2
    clear q1 hx hy hn sl s20 h0 q2
    cases e2 : longB [] [abbr, s] with
    | true =>
      go_enter Tryz.func6, Tryz.ntmps6
      go_wp2_with fail
      refine Q1.out.mono ?_
      rintro e w1 ⟨rfl, hd⟩
      rw [e1]
      have b2 := Drew.below hd w.heap.size
      have b2' := b2.alloc (o := .cells #[.string abbr, .string s] 9) b2.size
      clear e1 hd
      go_wp2_with fail
      refine (Q2.out _).mono ?_
      rintro e w2 ⟨rfl, hd⟩
      rw [e2]
      have b3 := b2'.trans (Drew.below hd w.heap.size)
      clear e2 hd
      go_wp2_with fail
      refine (spelling_at _ b3).mono ?_
      rintro e w3 ⟨rfl, hb⟩
      go_wp2
      go_ret
      exact ⟨rfl, hb⟩
    | false =>
      obtain ⟨_, s20⟩ := long_list e2
      have a20 : abbr.size ≤ 20 := s20 abbr (by simp)
      have s20' : s.size ≤ 20 := s20 s (by simp)
      clear s20
      go_enter Tryz.func6, Tryz.ntmps6
      go_wp2_with fail
      refine Q1.out.mono ?_
      rintro e w0 ⟨rfl, hd⟩
      rw [e1]
      have b2 := Drew.below hd w.heap.size
      have b2' := b2.alloc (o := .cells #[.string abbr, .string s] 9) b2.size
      clear e1 hd Q1
      go_wp2_with fail
      refine (Q2.out _).mono ?_
      rintro e w1 ⟨rfl, hd⟩
      rw [e2]
      have b2 := b2'.trans (Drew.below hd w.heap.size)
      clear e2 hd Q2 b2'
      go_wp2_with fail
      refine (NewDice_any B m d _ hm (HY.out.below b2)).mono ?_
      rintro e w2 ⟨rfl, hd2, hb2⟩
      have b3 := b2.trans (hb2.mono b2.size)
      have hD : w.heap.size ≤ w1.heap.size := b2.size
      have hD2 := hd2.lt
      generalize w1.heap.size = D at *
      clear b2 hb2
      go_wp2_with fail
      refine (NamesOf_any D _ 5 5 _ hd2 (by decide) (by decide) (by decide) (by decide)).mono ?_
      rintro e w3 ⟨o, sa, rfl, hl3, ho3, hlike3, hd3, hg3⟩
      have b4 := b3.grown hg3 b3.size fun k hk => by cases hk; exact hD
      obtain ⟨O, capo, rfl⟩ := own_form ho3
      go_wp2_with fail
      refine (NameOf_any D _ 5 _ hd3 (by decide) (by decide)).mono ?_
      rintro e w4 ⟨s4, rfl, hs4, hs4', hl4, hd4, hg4⟩
      have ho4 := own_kept ho3 hg4 hD2
      have hg24 := grownBy_trans hg3 hg4
      have hws : w2.heap.size ≤ w4.heap.size := hg24.size
      clear hl4 hd3 hg4 hg3 b4 ho3 hlike3
      go_wp2_with (at_builtin; refine wpList_append_own _ rfl _ _ 28 rfl w2.heap.size 9 si (.string ByteArray.empty) 1 16 Tryz.underlying28 hi hz0 hz1 hz2 rfl (by decide) _ _ _ rfl (ho4.alloc _) ⟨w4.heap.size, 0, none⟩ 1 1 [.string s4] rfl rfl (cell_one_new _ _ _) (by simp [Value.oneCell']) (by unfold maxLen; omega) (by omega) (by simp; omega) ?_; intro v' w5 ho5 hg5 _; obtain ⟨O5, cap5, rfl⟩ := own_form ho5)
      obtain ⟨hd5, hg25⟩ := own_append2 (w := w2) (wl := w4) (ho4.alloc _) hD2 hg24 hd4 ((Below.refl _ _).alloc (Nat.le_refl _) _) hg5
      have b6 := b3.grown hg25 b3.size fun k hk => by cases hk; exact hD
      have hws5 : w2.heap.size ≤ w5.heap.size := hg25.size
      have e6 : (sa.map Value.string ++ [Value.string s4]) = (sa ++ [s4]).map Value.string := by simp
      rw [e6] at ho5
      have l6 : sa.length + 1 = (sa ++ [s4]).length := by simp
      have n6 : sa.length + 1 ≤ 1000 := by omega
      have hsl : (sa.length : Int) ≤ 1000 := by omega
      have L6 := Lib.hid l6
      generalize sa ++ [s4] = sb at *
      have held : Held1 w w2.heap.size D (.slice B m d) (.slice O5 (sa.length + 1) cap5) (sa.length + 1) sb w5 := ⟨hd5, b6, ho5, hws5⟩
      clear hd5 hg25 ho4 hg5 hg24 b6 hd4 hws e6 ho5 l6 hs4 hs4' hl3 hd2 b3 hws5
      refine (To_any D _ (sa.length : Nat) _ held.dice (by omega)).mono ?_
      rintro e w6 ⟨x1, rfl, hx0, hx1, hx2, hd6, hg6⟩
      have held6 := held.turned hd6 hg6 hD hD2
      obtain ⟨j, rfl⟩ := Int.eq_ofNat_of_zero_le hx0
      have hj : j ≤ sa.length := by
        rcases Nat.eq_zero_or_pos sa.length with h | h
        · have := hx2 (by omega); omega
        · have := hx1 (by omega); omega
      clear hd6 hg6 held hx0 hx1 hx2
      have jl : j < sb.length := by rw [← L6.out]; omega
      have j0l : 0 < sb.length := by rw [← L6.out]; omega
      obtain ⟨g5, cap', hv, cj⟩ := own_str held6.row j jl
      injection hv with hv1 hv2 hv3
      subst hv1 hv3
      obtain ⟨g5', cap', hv, cz⟩ := own_str held6.row 0 j0l
      injection hv with hv1 hv2 hv3
      injection hv1 with hv1
      injection hv1 with hv1
      subst hv1 hv3
      have g5b := (held6.row.lt g5 rfl).1
      generalize sb[j] = XJ at *
      generalize sb[0] = X0 at *
      have j5 : (0 : Int) ≤ (j : Int) := by omega
      have j6 : (j : Int) < (sa.length : Int) + 1 := by omega
      have j7 : (j : Int) < ((sa.length + 1 : Nat) : Int) := by omega
      have kq : ∀ W, Calls Tryz.prog 20 #[.string XJ] W fun e w' => e = .returned (.tuple #[.string ⟨(Sp.keyR XJ.data.toList).toArray⟩, .int .i64 (Sp.check XJ.data.toList)]) ∧ Below W.heap.size W w' := Key_any XJ
      have kl : (Sp.keyR XJ.data.toList).length ≤ 12 := by
        unfold Sp.keyR
        split
        · rename_i h
          have h1 := check_zero h
          have h2 := size_list XJ
          exact key_size (by omega)
        · simp
      have hk1000 : (⟨(Sp.keyR XJ.data.toList).toArray⟩ : ByteArray).size ≤ 1000 := by show (Sp.keyR XJ.data.toList).toArray.size ≤ 1000; rw [List.size_toArray]; omega
      generalize (⟨(Sp.keyR XJ.data.toList).toArray⟩ : ByteArray) = KK at *
      generalize Sp.check XJ.data.toList = KC at *
      have KQ := Lib.hid kq
      clear kq hv2 jl j0l
      go_wp2_with fail
      refine (KQ.out _).mono ?_
      rintro e w7 ⟨rfl, h7⟩
      have cz7 := (h7.cell (World.block_lt_of_cell? _ _ cz)).trans cz
      have held7 : Held1 w w2.heap.size D (.slice B m d) (.slice (some ⟨g5, 0, none⟩) (sa.length + 1) cap5) (sa.length + 1) sb w7 :=
        ⟨held6.dice.below h7 (Nat.le_refl _), held6.low.trans (h7.mono held6.low.size), own_below held6.row h7, Nat.le_trans held6.big h7.size⟩
      clear cz cj h7 held6 KQ
      clear kl
      go_upto_region 6 with fail
      have big7 := held7.big
      have cz7d : w7.drew.cell? ⟨g5, 0, none⟩ = some (.string X0) := cz7
      have held7d := held7.drew
      go_cut [13, 14, 15] (fun r1 r2 r3 wx => ∃ (G1 G2 G3 : Nat) (as_ : List ByteArray), as_.length = 4 ∧ (∀ x, x ∈ as_ → x.size ≤ 2000) ∧ r1 = .slice (some ⟨G1, 0, none⟩) 4 4 ∧ r2 = .slice (some ⟨G2, 0, none⟩) 4 4 ∧ r3 = .slice (some ⟨G3, 0, none⟩) 4 4 ∧
        wx.ownsRow w2.heap.size 9 1 (.slice (some ⟨G1, 0, none⟩) 4 4) 4 (as_.map Value.string) ∧ wx.ownsRow w2.heap.size 9 1 (.slice (some ⟨G2, 0, none⟩) 4 4) 4 (([s, X0, s, X0] : List ByteArray).map Value.string) ∧
        wx.ownsRow w2.heap.size 28 1 (.slice (some ⟨G3, 0, none⟩) 4 4) 4 [.slice A n c, .slice (some ⟨g5, 0, none⟩) (sa.length + 1) cap5, .slice A n c, .slice (some ⟨g5, 0, none⟩) (sa.length + 1) cap5] ∧
        Held1 w w2.heap.size D (.slice B m d) (.slice (some ⟨g5, 0, none⟩) (sa.length + 1) cap5) (sa.length + 1) sb wx)
      case first =>
        refine wp_region_settles [some 55, some 56, some 57, some 58, some 59, some 60, some 61, some 62, some 63, some 64, some 65, some 66, some 67, some 68, some 69, some 70, some 71, some 72, some 73, some 74, some 75, some 76, some 77, some 13, some 14, some 15] (fun w' => w'.cell? ⟨g5, 0, none⟩ = some (.string X0) ∧ Held1 w w2.heap.size D (.slice B m d) (.slice (some ⟨g5, 0, none⟩) (sa.length + 1) cap5) (sa.length + 1) sb w')
          (fun j v w' => match j with
            | 0 => v = .string abbr
            | 1 => v = .pointer (some ⟨D, 0, none⟩)
            | 2 => v = .string KK
            | 3 => ∃ x : ByteArray, v = .string x ∧ x.size ≤ 2000
            | 4 => v = .pointer (some ⟨D, 0, none⟩)
            | 5 => v = .string KK
            | 6 => ∃ x : ByteArray, v = .string x ∧ x.size ≤ 2000
            | 7 => v = .string abbr
            | 8 => RowA w2.heap.size v w'
            | 9 => v = .string s
            | 10 => v = (.slice (some ⟨g5, 0, none⟩) (sa.length + 1) cap5)
            | 11 => v = .pointer (some ⟨g5, 0, none⟩)
            | 12 => v = .string X0
            | 13 => v = .string s
            | 14 => v = (.slice (some ⟨g5, 0, none⟩) (sa.length + 1) cap5)
            | 15 => v = .pointer (some ⟨g5, 0, none⟩)
            | 16 => v = .string X0
            | 17 => RowB w2.heap.size [.string s, .string X0, .string s, .string X0] 9 v w'
            | 18 => v = (.slice A n c)
            | 19 => v = (.slice (some ⟨g5, 0, none⟩) (sa.length + 1) cap5)
            | 20 => v = (.slice A n c)
            | 21 => v = (.slice (some ⟨g5, 0, none⟩) (sa.length + 1) cap5)
            | 22 => RowB w2.heap.size [(.slice A n c), (.slice (some ⟨g5, 0, none⟩) (sa.length + 1) cap5), (.slice A n c), (.slice (some ⟨g5, 0, none⟩) (sa.length + 1) cap5)] 28 v w'
            | 23 => RowA w2.heap.size v w'
            | 24 => RowB w2.heap.size [.string s, .string X0, .string s, .string X0] 9 v w'
            | 25 => RowB w2.heap.size [(.slice A n c), (.slice (some ⟨g5, 0, none⟩) (sa.length + 1) cap5), (.slice A n c), (.slice (some ⟨g5, 0, none⟩) (sa.length + 1) cap5)] 28 v w'
            | _ => True) (Turns D) (by kernel_rfl) rfl (by decide +kernel) rfl (by decide +kernel) ⟨cz7, held7.drew⟩ ?_ ?_ ?_
        · intro j v w' w'' hR hs
          match j, hs with
          | 0, hs => exact hs
          | 1, hs => exact hs
          | 2, hs => exact hs
          | 3, hs => exact hs
          | 4, hs => exact hs
          | 5, hs => exact hs
          | 6, hs => exact hs
          | 7, hs => exact hs
          | 8, hs => exact hs.turns hR hD2
          | 9, hs => exact hs
          | 10, hs => exact hs
          | 11, hs => exact hs
          | 12, hs => exact hs
          | 13, hs => exact hs
          | 14, hs => exact hs
          | 15, hs => exact hs
          | 16, hs => exact hs
          | 17, hs => exact hs.turns hR hD2
          | 18, hs => exact hs
          | 19, hs => exact hs
          | 20, hs => exact hs
          | 21, hs => exact hs
          | 22, hs => exact hs.turns hR hD2
          | 23, hs => exact hs.turns hR hD2
          | 24, hs => exact hs.turns hR hD2
          | 25, hs => exact hs.turns hR hD2
          | (_ + 26), _ => trivial
        · intro i o ho a wv vals hC hdep heval hoth
          match i, ho with
          | 0, ho =>
            obtain rfl := Option.some.inj ho
            exact wp_move _ rfl ⟨_, rfl, .inl rfl, hC, hoth _ (not_in (t := 0) rfl)⟩
          | 1, ho =>
            obtain rfl := Option.some.inj ho
            exact wp_move _ rfl ⟨_, rfl, .inl rfl, hC, hoth _ (not_in (t := 9) rfl)⟩
          | 2, ho =>
            obtain rfl := Option.some.inj ho
            exact wp_move _ rfl ⟨_, rfl, .inl rfl, hC, hoth _ (not_in (t := 11) rfl)⟩
          | 3, ho =>
            obtain rfl := Option.some.inj ho
            have f1 := (heval 1 56 (by decide) rfl (show 56 < 163 from by decide)).trans (hdep 1 (by decide))
            have f2 := (heval 2 57 (by decide) rfl (show 57 < 163 from by decide)).trans (hdep 2 (by decide))
            simp only [Act.eval, Array.getD_eq_getD_getElem?] at f1 f2
            clear hdep heval hoth
            go_simp
            refine (ShortOf_any D _ KK _ hC.2.dice hk1000).mono ?_
            rintro e wn ⟨l, rfl, hl1, hl2, hl3, hdd, hgg⟩
            exact ⟨_, rfl, .inr (.inr hgg), ⟨cell_turned hC.1 hgg g5b hD2, hC.2.turned hdd hgg hD hD2⟩, ⟨_, rfl, by show (l ++ [46]).toArray.size ≤ 2000; simp; omega⟩⟩
          | 4, ho =>
            obtain rfl := Option.some.inj ho
            exact wp_move _ rfl ⟨_, rfl, .inl rfl, hC, hoth _ (not_in (t := 9) rfl)⟩
          | 5, ho =>
            obtain rfl := Option.some.inj ho
            exact wp_move _ rfl ⟨_, rfl, .inl rfl, hC, hoth _ (not_in (t := 11) rfl)⟩
          | 6, ho =>
            obtain rfl := Option.some.inj ho
            have f1 := (heval 4 59 (by decide) rfl (show 59 < 163 from by decide)).trans (hdep 4 (by decide))
            have f2 := (heval 5 60 (by decide) rfl (show 60 < 163 from by decide)).trans (hdep 5 (by decide))
            simp only [Act.eval, Array.getD_eq_getD_getElem?] at f1 f2
            clear hdep heval hoth
            go_simp
            refine (ShortOf_any D _ KK _ hC.2.dice hk1000).mono ?_
            rintro e wn ⟨l, rfl, hl1, hl2, hl3, hdd, hgg⟩
            exact ⟨_, rfl, .inr (.inr hgg), ⟨cell_turned hC.1 hgg g5b hD2, hC.2.turned hdd hgg hD hD2⟩, ⟨_, rfl, by show (l ++ [46]).toArray.size ≤ 2000; simp; omega⟩⟩
          | 7, ho =>
            obtain rfl := Option.some.inj ho
            exact wp_move _ rfl ⟨_, rfl, .inl rfl, hC, hoth _ (not_in (t := 0) rfl)⟩
          | 8, ho =>
            obtain rfl := Option.some.inj ho
            have f1 := (heval 0 55 (by decide) rfl (show 55 < 163 from by decide)).trans (hdep 0 (by decide))
            obtain ⟨x3, h3, z3⟩ := hdep 3 (by decide)
            have f2 := (heval 3 58 (by decide) rfl (show 58 < 163 from by decide)).trans h3
            obtain ⟨x6, h6, z6⟩ := hdep 6 (by decide)
            have f3 := (heval 6 61 (by decide) rfl (show 61 < 163 from by decide)).trans h6
            have f4 := (heval 7 62 (by decide) rfl (show 62 < 163 from by decide)).trans (hdep 7 (by decide))
            simp only [Act.eval, Array.getD_eq_getD_getElem?] at f1 f2 f3 f4
            clear hdep heval hoth
            have bg := hC.2.big
            go_simp
            refine ⟨_, rfl, .inr (.inl ⟨_, rfl⟩), ⟨cell_alloc hC.1, hC.2.alloc _⟩, ⟨_, [abbr, x3, x6, abbr], rfl, rfl, ?_, own_lit wv w2.heap.size #[.string abbr, .string x3, .string x6, .string abbr] 9 4 bg rfl (by decide)⟩⟩
            intro x hx
            simp only [List.mem_cons, List.not_mem_nil, or_false] at hx
            rcases hx with rfl | rfl | rfl | rfl <;> omega
          | 9, ho =>
            obtain rfl := Option.some.inj ho
            exact wp_move _ rfl ⟨_, rfl, .inl rfl, hC, hoth _ (not_in (t := 1) rfl)⟩
          | 10, ho =>
            obtain rfl := Option.some.inj ho
            exact wp_move _ rfl ⟨_, rfl, .inl rfl, hC, hoth _ (not_in (t := 10) rfl)⟩
          | 11, ho =>
            obtain rfl := Option.some.inj ho
            have f1 := (heval 10 65 (by decide) rfl (show 65 < 163 from by decide)).trans (hdep 10 (by decide))
            simp only [Act.eval, Array.getD_eq_getD_getElem?] at f1
            clear hdep heval hoth
            have jz : (0 : Int) < ((sa.length + 1 : Nat) : Int) := by omega
            go_simp
            first | exact .inl rfl | exact ⟨.inl rfl, hC.1, hC.2⟩
          | 12, ho =>
            obtain rfl := Option.some.inj ho
            have f1 := (heval 11 66 (by decide) rfl (show 66 < 163 from by decide)).trans (hdep 11 (by decide))
            simp only [Act.eval, Array.getD_eq_getD_getElem?] at f1
            clear hdep heval hoth
            have cl := hC.1
            go_simp
            first | exact .inl rfl | exact ⟨.inl rfl, hC.1, hC.2⟩
          | 13, ho =>
            obtain rfl := Option.some.inj ho
            exact wp_move _ rfl ⟨_, rfl, .inl rfl, hC, hoth _ (not_in (t := 1) rfl)⟩
          | 14, ho =>
            obtain rfl := Option.some.inj ho
            exact wp_move _ rfl ⟨_, rfl, .inl rfl, hC, hoth _ (not_in (t := 10) rfl)⟩
          | 15, ho =>
            obtain rfl := Option.some.inj ho
            have f1 := (heval 14 69 (by decide) rfl (show 69 < 163 from by decide)).trans (hdep 14 (by decide))
            simp only [Act.eval, Array.getD_eq_getD_getElem?] at f1
            clear hdep heval hoth
            have jz : (0 : Int) < ((sa.length + 1 : Nat) : Int) := by omega
            go_simp
            first | exact .inl rfl | exact ⟨.inl rfl, hC.1, hC.2⟩
          | 16, ho =>
            obtain rfl := Option.some.inj ho
            have f1 := (heval 15 70 (by decide) rfl (show 70 < 163 from by decide)).trans (hdep 15 (by decide))
            simp only [Act.eval, Array.getD_eq_getD_getElem?] at f1
            clear hdep heval hoth
            have cl := hC.1
            go_simp
            first | exact .inl rfl | exact ⟨.inl rfl, hC.1, hC.2⟩
          | 17, ho =>
            obtain rfl := Option.some.inj ho
            have f1 := (heval 9 64 (by decide) rfl (show 64 < 163 from by decide)).trans (hdep 9 (by decide))
            have f2 := (heval 12 67 (by decide) rfl (show 67 < 163 from by decide)).trans (hdep 12 (by decide))
            have f3 := (heval 13 68 (by decide) rfl (show 68 < 163 from by decide)).trans (hdep 13 (by decide))
            have f4 := (heval 16 71 (by decide) rfl (show 71 < 163 from by decide)).trans (hdep 16 (by decide))
            simp only [Act.eval, Array.getD_eq_getD_getElem?] at f1 f2 f3 f4
            clear hdep heval hoth
            have bg := hC.2.big
            go_simp
            exact ⟨_, rfl, .inr (.inl ⟨_, rfl⟩), ⟨cell_alloc hC.1, hC.2.alloc _⟩, ⟨_, rfl, own_lit wv w2.heap.size #[.string s, .string X0, .string s, .string X0] 9 4 bg rfl (by decide)⟩⟩
          | 18, ho =>
            obtain rfl := Option.some.inj ho
            exact wp_move _ rfl ⟨_, rfl, .inl rfl, hC, hoth _ (not_in (t := 2) rfl)⟩
          | 19, ho =>
            obtain rfl := Option.some.inj ho
            exact wp_move _ rfl ⟨_, rfl, .inl rfl, hC, hoth _ (not_in (t := 10) rfl)⟩
          | 20, ho =>
            obtain rfl := Option.some.inj ho
            exact wp_move _ rfl ⟨_, rfl, .inl rfl, hC, hoth _ (not_in (t := 2) rfl)⟩
          | 21, ho =>
            obtain rfl := Option.some.inj ho
            exact wp_move _ rfl ⟨_, rfl, .inl rfl, hC, hoth _ (not_in (t := 10) rfl)⟩
          | 22, ho =>
            obtain rfl := Option.some.inj ho
            have f1 := (heval 18 73 (by decide) rfl (show 73 < 163 from by decide)).trans (hdep 18 (by decide))
            have f2 := (heval 19 74 (by decide) rfl (show 74 < 163 from by decide)).trans (hdep 19 (by decide))
            have f3 := (heval 20 75 (by decide) rfl (show 75 < 163 from by decide)).trans (hdep 20 (by decide))
            have f4 := (heval 21 76 (by decide) rfl (show 76 < 163 from by decide)).trans (hdep 21 (by decide))
            simp only [Act.eval, Array.getD_eq_getD_getElem?] at f1 f2 f3 f4
            clear hdep heval hoth
            have bg := hC.2.big
            go_simp
            exact ⟨_, rfl, .inr (.inl ⟨_, rfl⟩), ⟨cell_alloc hC.1, hC.2.alloc _⟩, ⟨_, rfl, own_lit wv w2.heap.size #[(.slice A n c), (.slice (some ⟨g5, 0, none⟩) (sa.length + 1) cap5), (.slice A n c), (.slice (some ⟨g5, 0, none⟩) (sa.length + 1) cap5)] 28 4 bg rfl (by decide)⟩⟩
          | 23, ho =>
            obtain rfl := Option.some.inj ho
            have f1 := heval 8 63 (by decide) rfl (show 63 < 163 from by decide)
            have f2 := hdep 8 (by decide)
            exact wp_assign _ rfl ⟨_, rfl, .inl rfl, hC, by rw [f1]; exact f2⟩
          | 24, ho =>
            obtain rfl := Option.some.inj ho
            have f1 := heval 17 72 (by decide) rfl (show 72 < 163 from by decide)
            have f2 := hdep 17 (by decide)
            exact wp_assign _ rfl ⟨_, rfl, .inl rfl, hC, by rw [f1]; exact f2⟩
          | 25, ho =>
            obtain rfl := Option.some.inj ho
            have f1 := heval 22 77 (by decide) rfl (show 77 < 163 from by decide)
            have f2 := hdep 22 (by decide)
            exact wp_assign _ rfl ⟨_, rfl, .inl rfl, hC, by rw [f1]; exact f2⟩
          | (_ + 26), ho => cases ho
        · intro vals wz hCz hv
          obtain ⟨G1, xs, e1, l1, z1, r1⟩ := hv 23 (show 23 < 26 from by decide)
          obtain ⟨G2, e2, r2⟩ := hv 24 (show 24 < 26 from by decide)
          obtain ⟨G3, e3, r3⟩ := hv 25 (show 25 < 26 from by decide)
          rw [e1] at r1
          rw [e2] at r2
          rw [e3] at r3
          have hz := hCz.2
          clear hv hCz
          simp only [List.length_cons, List.length_nil, Nat.zero_add, Nat.reduceAdd, fillAll, List.getD_cons_zero, List.getD_cons_succ, Act.put, List.setIfInBounds_toArray, List.set_cons_zero, List.set_cons_succ]
          rw [e1, e2, e3]
          clear e1 e2 e3
          go_wp2_with fail
          go_meet
          exact ⟨G1, G2, G3, xs, l1, z1, rfl, rfl, rfl, r1, r2, r3, hz⟩
      case rest =>
        obtain ⟨G1, G2, G3, xs, l1, z1, rfl, rfl, rfl, r1, r2, r3, hz⟩ := hcut
        have bc := hz.low
        have so := StrList.own hz.row L6.out n6
        have CA := Lib.hid (cells_own r1)
        have CB := Lib.hid (cells_own r2)
        have SLS : Hid (StrLists wc (some ⟨G3, 0, none⟩) [.slice A n c, .slice (some ⟨g5, 0, none⟩) (sa.length + 1) cap5, .slice A n c, .slice (some ⟨g5, 0, none⟩) (sa.length + 1) cap5]) := by
          refine Lib.hid ⟨cells_own r3, fun i hi => ?_⟩
          match i, hi with
          | 0, _ => exact ⟨ss, SL.out.below bc⟩
          | 1, _ => exact ⟨sb, so⟩
          | 2, _ => exact ⟨ss, SL.out.below bc⟩
          | 3, _ => exact ⟨sb, so⟩
        clear r1 r2 r3 hz so
        go_wp2_with fail
        have ln2 : ([s, X0, s, X0] : List ByteArray).length = 4 := rfl
        have LN1 := Lib.hid l1
        have LN2 := Lib.hid ln2
        have ZS := Lib.hid z1
        have ln3 : ([.slice A n c, .slice (some ⟨g5, 0, none⟩) (sa.length + 1) cap5, .slice A n c, .slice (some ⟨g5, 0, none⟩) (sa.length + 1) cap5] : List Value).length = 4 := rfl
        have LN3 := Lib.hid ln3
        clear l1 ln2 ln3 z1
        generalize ([s, X0, s, X0] : List ByteArray) = ys_ at *
        generalize ([.slice A n c, .slice (some ⟨g5, 0, none⟩) (sa.length + 1) cap5, .slice A n c, .slice (some ⟨g5, 0, none⟩) (sa.length + 1) cap5] : List Value) = vs at *
        go_loopw [16, 17, 18, 19, 20, 21, 22, 23, 24, 25] (fun i _ _ _ _ _ _ _ _ _ wr => ∃ k : Nat, k ≤ 4 ∧ i = .int .i64 k ∧ Below w.heap.size w wr ∧ StrLists wr (some ⟨G3, 0, none⟩) vs ∧ Cells wr (some ⟨G1, 0, none⟩) (xs.map Value.string) ∧ Cells wr (some ⟨G2, 0, none⟩) (ys_.map Value.string)) (fun i _ _ _ _ _ _ _ _ _ _ => 4 - (intOf i).toNat)
        case atStart => exact ⟨0, Nat.zero_le _, rfl, bc, SLS.out, CA.out, CB.out⟩
        case round =>
          obtain ⟨k, hk, rfl, t0, hs, hi_, hw⟩ := hrel
          have S0 := Lib.hid hs
          have I0 := Lib.hid hi_
          have Z0 := Lib.hid hw
          clear hs hi_ hw bc SLS CA CB
          by_cases hlt : k < 4
          · obtain ⟨bl, ol, hv, l0⟩ := S0.out.1.any k (by rw [LN3.out]; exact hlt)
            injection hv with hv
            injection hv with hv1 hv2
            subst hv1 hv2
            obtain ⟨bl, ol, hv, i0⟩ := I0.out.str k (by rw [LN1.out]; exact hlt)
            injection hv with hv
            injection hv with hv1 hv2
            subst hv1 hv2
            obtain ⟨bl, ol, hv, z0⟩ := Z0.out.str k (by rw [LN2.out]; exact hlt)
            injection hv with hv
            injection hv with hv1 hv2
            subst hv1 hv2
            rw [Nat.zero_add] at l0 i0 z0
            obtain ⟨sk, hsk⟩ := S0.out.2 k (by rw [LN3.out]; exact hlt)
            have hX1 := ZS.out (xs[k]'(by rw [LN1.out]; exact hlt)) (List.getElem_mem _)
            generalize vs[k]'(by rw [LN3.out]; exact hlt) = V at *
            generalize xs[k]'(by rw [LN1.out]; exact hlt) = X at *
            generalize ys_[k]'(by rw [LN2.out]; exact hlt) = Y at *
            obtain ⟨A', n', c', rfl, hn', hb', h0', hc'⟩ := hsk
            have j5 : (0 : Int) ≤ (k : Int) := by omega
            have j6 : (k : Int) < 4 := by omega
            have xl := standsL_len X.data.toList sk
            have q1 : ∀ W, LaidErr W → Calls Tryz.prog 49 #[.string X, .string Y] W fun e w' => e = .returned (.tuple #[.bool (decide (shortPairErr X.data.toList Y.data.toList = 0) && shortB X.data.toList Y.data.toList), .int .i64 (shortPairErr X.data.toList Y.data.toList)]) ∧ Below W.heap.size W w' := fun W h => pShort_any X Y W h (by omega)
            have q2 : ∀ W, Calls Tryz.prog 50 #[.string X, .string Y] W fun e w' => e = .returned (.tuple #[.bool (decide (shortPairErr X.data.toList Y.data.toList = 0) && shortB X.data.toList Y.data.toList), .int .i64 (shortPairErr X.data.toList Y.data.toList)]) ∧ Below W.heap.size W w' := fun W => Short_any X Y W (by omega)
            have q3 : ∀ (P : Option Addr) (cc : Nat) W, LaidErr W → Cells W P (sk.map Value.string) → Calls Tryz.prog 51 #[.string X, .slice P n' cc] W (IntsPost (standsL X.data.toList sk) (standsErr X.data.toList sk) W) := fun P cc W hl h => pStands_any X P n' cc sk W hl (by omega) hn' h
            have q4 : ∀ (P : Option Addr) (cc : Nat) W, Cells W P (sk.map Value.string) → Calls Tryz.prog 52 #[.string X, .slice P n' cc] W (IntsPost (standsL X.data.toList sk) (standsErr X.data.toList sk) W) := fun P cc W h => Stands_any X P n' cc sk W (by omega) hn' h
            have q5 : ∀ (P : Option Addr) (cc : Nat) W, Cells W P (sk.map Value.string) → Cells W A' (sk.map Value.string) → Calls Tryz.prog 36 #[.slice P n' cc, .slice A' n' c'] W (EqPost sk sk W) := fun P cc W h h' => EqStrings_any P A' n' n' cc c' sk sk W hn' hn' (by omega) h h'
            have q6 : ∀ W, Cells W A' (sk.map Value.string) → Calls Tryz.prog 27 #[.slice A' n' c'] W (DupPost sk W) := fun W h => DupStrings_any A' n' c' sk W hn' (by omega) h0' h
            generalize (decide (shortPairErr X.data.toList Y.data.toList = 0) && shortB X.data.toList Y.data.toList) = R1 at *
            generalize shortPairErr X.data.toList Y.data.toList = R2 at *
            generalize standsL X.data.toList sk = XS at *
            generalize standsErr X.data.toList sk = R4 at *
            have Q1 := Lib.hid q1
            have Q2 := Lib.hid q2
            have Q3 := Lib.hid q3
            have Q4 := Lib.hid q4
            have Q5 := Lib.hid q5
            have Q6 := Lib.hid q6
            have M0 := Lib.hid hc'
            have HN := Lib.hid hn'
            have xl1 : XS.length ≤ 1000000000000000000 := by omega
            clear q1 q2 q3 q4 q5 q6 h0' hc' hn' xl
            go_wp2_with fail
            refine (Q6.out _ M0.out).mono ?_
            rintro e v1 ⟨oo, rfl, hoo, h1⟩
            obtain ⟨A2, c2, rfl⟩ := own_form hoo
            rw [← HN.out] at hoo ⊢
            have N1 := Lib.hid (cells_own hoo)
            clear hoo
            have l1 := (h1.cell (World.block_lt_of_cell? _ _ l0)).trans l0
            have i1 := (h1.cell (World.block_lt_of_cell? _ _ i0)).trans i0
            have z1 := (h1.cell (World.block_lt_of_cell? _ _ z0)).trans z0
            have t1 := t0.trans (h1.mono t0.size)
            have M1 := Lib.hid (M0.out.below h1)
            have S1 := Lib.hid (S0.out.below h1)
            have I1 := Lib.hid (I0.out.below h1)
            have Z1 := Lib.hid (Z0.out.below h1)
            clear l0 i0 z0 t0 M0 S0 I0 Z0 h1
            go_wp2_with fail
            obtain ⟨T, g, hg0, hgb, hT, hgl0, hgl1⟩ : ∃ (T : Type) (g : T → World), (∃ x, v1.drew = g x) ∧ (∀ x, Below v1.heap.size v1 (g x)) ∧
                (∀ x, Calls Tryz.prog 49 #[.string X, .string Y] (g x) fun e w' => e = .returned (.tuple #[.bool R1, .int .i64 R2]) ∧ ∃ y, w' = g y) ∧ (∀ x, (g x).cell? ⟨G1, k, none⟩ = some (.string X)) ∧ (∀ x, (g x).cell? ⟨G2, k, none⟩ = some (.string Y)) :=
              ⟨Since v1, Subtype.val, Since.here v1, fun x => x.property, fun x => x.calls (Q1.out _ (HLE.out.below (t1.trans (x.property.mono t1.size)))), fun x => x.cell i1, fun x => x.cell z1⟩
            have hTne : Nonempty T := let ⟨x, _⟩ := hg0; ⟨x⟩
            have HT1 := Lib.hid hT
            clear hT
            refine wp_region_class g hg0 (by kernel_rfl) (by kernel_rfl) ?_
            repeat (go_big_quiet_step (fail))
            go_big_quiet_step (exact HT1.out _)
            repeat (go_big_quiet_step (fail))
            refine wpQuiet_nil ?_
            rintro _ ⟨xq, rfl⟩
            have hbq := hgb xq
            have l2 := (hbq.cell (World.block_lt_of_cell? _ _ l1)).trans l1
            have i2 := (hbq.cell (World.block_lt_of_cell? _ _ i1)).trans i1
            have z2 := (hbq.cell (World.block_lt_of_cell? _ _ z1)).trans z1
            have t2 := t1.trans (hbq.mono t1.size)
            have N2 := Lib.hid (N1.out.below hbq)
            have M2 := Lib.hid (M1.out.below hbq)
            have S2 := Lib.hid (S1.out.below hbq)
            have I2 := Lib.hid (I1.out.below hbq)
            have Z2 := Lib.hid (Z1.out.below hbq)
            clear l1 i1 z1 t1 N1 M1 S1 I1 Z1
            clear hgb hg0 hgl0 hgl1 HT1 hbq
            generalize g xq = v2 at *
            clear hTne xq g T
            go_wp2_with fail
            obtain ⟨T, g, hg0, hgb, hT, hgl0, hgl1⟩ : ∃ (T : Type) (g : T → World), (∃ x, v2.drew = g x) ∧ (∀ x, Below v2.heap.size v2 (g x)) ∧
                (∀ x, Calls Tryz.prog 50 #[.string X, .string Y] (g x) fun e w' => e = .returned (.tuple #[.bool R1, .int .i64 R2]) ∧ ∃ y, w' = g y) ∧ (∀ x, (g x).cell? ⟨G1, k, none⟩ = some (.string X)) ∧ (∀ x, (g x).cell? ⟨G2, k, none⟩ = some (.string Y)) :=
              ⟨Since v2, Subtype.val, Since.here v2, fun x => x.property, fun x => x.calls (Q2.out _), fun x => x.cell i2, fun x => x.cell z2⟩
            have hTne : Nonempty T := let ⟨x, _⟩ := hg0; ⟨x⟩
            have HT1 := Lib.hid hT
            clear hT
            refine wp_region_class g hg0 (by kernel_rfl) (by kernel_rfl) ?_
            repeat (go_big_quiet_step (fail))
            go_big_quiet_step (exact HT1.out _)
            repeat (go_big_quiet_step (fail))
            refine wpQuiet_nil ?_
            rintro _ ⟨xq, rfl⟩
            have hbq := hgb xq
            have l3 := (hbq.cell (World.block_lt_of_cell? _ _ l2)).trans l2
            have i3 := (hbq.cell (World.block_lt_of_cell? _ _ i2)).trans i2
            have z3 := (hbq.cell (World.block_lt_of_cell? _ _ z2)).trans z2
            have t3 := t2.trans (hbq.mono t2.size)
            have N3 := Lib.hid (N2.out.below hbq)
            have M3 := Lib.hid (M2.out.below hbq)
            have S3 := Lib.hid (S2.out.below hbq)
            have I3 := Lib.hid (I2.out.below hbq)
            have Z3 := Lib.hid (Z2.out.below hbq)
            clear l2 i2 z2 t2 N2 M2 S2 I2 Z2
            clear hgb hg0 hgl0 hgl1 HT1 hbq
            generalize g xq = v3 at *
            clear hTne xq g T
            go_wp2_with fail
            refine (Q3.out _ _ _ (HLE.out.below t3) N3.out).mono ?_
            rintro e v4 ⟨o4, rfl, ho4', h4⟩
            obtain ⟨A4, c4, rfl⟩ := own_form ho4'
            have P4 := Lib.hid (cells_own ho4')
            clear ho4'
            have l4 := (h4.cell (World.block_lt_of_cell? _ _ l3)).trans l3
            have i4 := (h4.cell (World.block_lt_of_cell? _ _ i3)).trans i3
            have z4 := (h4.cell (World.block_lt_of_cell? _ _ z3)).trans z3
            have t4 := t3.trans (h4.mono t3.size)
            have N4 := Lib.hid (N3.out.below h4)
            have M4 := Lib.hid (M3.out.below h4)
            have S4 := Lib.hid (S3.out.below h4)
            have I4 := Lib.hid (I3.out.below h4)
            have Z4 := Lib.hid (Z3.out.below h4)
            clear l3 i3 z3 t3 N3 M3 S3 I3 Z3
            clear h4
            have qq : ∀ W, Below v4.heap.size v4 W → Calls Tryz.prog 52 #[.string X, .slice A' n' c'] W fun e w' => ∃ o, e = .returned (.tuple #[o, .int .i64 R4]) ∧ w'.ownsRow 0 3 1 o XS.length (XS.map (Value.int .i64)) ∧
                w'.cell? ⟨G1, k, none⟩ = some (.string X) ∧ w'.cell? ⟨G3, k, none⟩ = some (.slice A' n' c') ∧ Below v4.heap.size v4 w' := fun W h =>
              (Q4.out A' c' W (M4.out.below h)).mono fun e w' ⟨o, he, ho, hb⟩ => by
                have t := h.trans (hb.mono h.size)
                exact ⟨o, he, ho.mono (Nat.zero_le _), (t.cell (World.block_lt_of_cell? _ _ i4)).trans i4, (t.cell (World.block_lt_of_cell? _ _ l4)).trans l4, t⟩
            have QQ := Lib.hid qq
            clear qq
            have d1 : v4.drew.cell? ⟨G1, k, none⟩ = some (.string X) := i4
            have d2 : v4.drew.cell? ⟨G3, k, none⟩ = some (.slice A' n' c') := l4
            have d3 : Below v4.heap.size v4 v4.drew := (Below.refl _ _).drew
            go_wp2_with fail
            go_region_held3 (fun w' => w'.cell? ⟨G1, k, none⟩ = some (.string X) ∧ w'.cell? ⟨G3, k, none⟩ = some (.slice A' n' c') ∧ Below v4.heap.size v4 w')
              ((refine ⟨(by first | assumption | (go_split_ands; assumption)), (by first | assumption | (go_split_ands; assumption)), (by first | assumption | (go_split_ands; assumption))⟩))
              (first
                | (go_at_call 52; refine (QQ.out _ (by go_split_ands; assumption)).mono ?_; rintro e w5 ⟨o5, rfl, ho5, hx5, hy5, hb5⟩; obtain ⟨A5, c5, rfl⟩ := own_form ho5))
            have P5 := Lib.hid (P4.out.below hb5)
            have O5 := Lib.hid (cells_own ho5)
            have q7 := EqInts_any A4 A5 XS.length XS.length c4 c5 XS XS w5 rfl rfl xl1 P5.out O5.out
            have Q7 := Lib.hid q7
            have l5 := (hb5.cell (World.block_lt_of_cell? _ _ l4)).trans l4
            have t5 := t4.trans (hb5.mono t4.size)
            have N5 := Lib.hid (N4.out.below hb5)
            have M5 := Lib.hid (M4.out.below hb5)
            have S5 := Lib.hid (S4.out.below hb5)
            have I5 := Lib.hid (I4.out.below hb5)
            have Z5 := Lib.hid (Z4.out.below hb5)
            clear l4 i4 z4 t4 N4 M4 S4 I4 Z4 q7 d1 d2 d3 hx5 hy5 hb5 ho5
            go_wp2_with fail
            refine Q7.out.mono ?_
            rintro e v6 ⟨rfl, n6', rfl⟩
            rw [show decide (XS = XS) = true from by simp]
            have h6 := Drew.below (w' := w5.drewN n6') ⟨n6', rfl⟩ w5.heap.size
            have t6 := t5.trans (h6.mono t5.size)
            have N6 := Lib.hid (N5.out.below h6)
            have M6 := Lib.hid (M5.out.below h6)
            have S6 := Lib.hid (S5.out.below h6)
            have I6 := Lib.hid (I5.out.below h6)
            have Z6 := Lib.hid (Z5.out.below h6)
            clear t5 N5 M5 S5 I5 Z5
            have l6 : (w5.drewN n6').cell? ⟨G3, k, none⟩ = some (.slice A' n' c') := l5
            go_wp2_with fail
            refine (Q5.out _ _ _ N6.out M6.out).mono ?_
            rintro e v7 ⟨rfl, n7', rfl⟩
            rw [show decide (sk = sk) = true from by simp]
            have h7 := Drew.below (w' := (w5.drewN n6').drewN n7') ⟨n7', rfl⟩ (w5.drewN n6').heap.size
            have t7 := t6.trans (h7.mono t6.size)
            have S7 := Lib.hid (S6.out.below h7)
            have I7 := Lib.hid (I6.out.below h7)
            have Z7 := Lib.hid (Z6.out.below h7)
            go_wp2
            go_roundw
            case rel => exact ⟨k + 1, by omega, by go_num, by rw [← World.drewN_drewN]; exact t7, by rw [← World.drewN_drewN]; exact S7.out, by rw [← World.drewN_drewN]; exact I7.out, by rw [← World.drewN_drewN]; exact Z7.out⟩
            case measure => simp [intOf]; omega
          · go_wp2_with fail
            refine (spelling_at _ t0).mono ?_
            rintro e wz ⟨rfl, hbz⟩
            go_wp2
            go_ret
            exact ⟨rfl, hbz⟩
end Go.Proofs.YtapagncaadjiaaaGreatDoor
