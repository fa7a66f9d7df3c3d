/- How often one uses rules from name to name, and what follows: the walk. -/
import Derived.Test.YtlhiekeolmgilaaGreatDoorLawF0
import Derived.Test.YtlhiekeolmgilaaGreatDoorKitV
import Derived.Test.YtlhiekeolmgilaaGreatDoorPgNs
namespace Go.Proofs.YtlhiekeolmgilaaGreatDoor
open Go.RowKit

/-- What stays through the drawn region. -/
structure HeldU (w : World) (BR BASE D : Nat) (dv v : Value) (n : Nat) (sb : List ByteArray) (u : Value) (qs : List (ByteArray × ByteArray)) (w' : World) : Prop where
  one : Held1 w BASE D dv v n sb w'
  rules : w'.ownsRow BR 76 2 u qs.length (ruleCells qs)
theorem HeldU.alloc {w : World} {BR BASE D : Nat} {dv v : Value} {n : Nat} {sb : List ByteArray} {u : Value} {qs : List (ByteArray × ByteArray)} {w' : World} (h : HeldU w BR BASE D dv v n sb u qs w') (o : Obj) : HeldU w BR BASE D dv v n sb u qs (w'.alloc o) :=
  ⟨h.one.alloc o, h.rules.alloc o⟩
theorem HeldU.drew {w : World} {BR BASE D : Nat} {dv v : Value} {n : Nat} {sb : List ByteArray} {u : Value} {qs : List (ByteArray × ByteArray)} {w' : World} (h : HeldU w BR BASE D dv v n sb u qs w') : HeldU w BR BASE D dv v n sb u qs w'.drew :=
  ⟨h.one.drew, h.rules⟩
theorem HeldU.turned {w : World} {BR BASE D : Nat} {dv v : Value} {n : Nat} {sb : List ByteArray} {u : Value} {qs : List (ByteArray × ByteArray)} {w' w'' : World} (h : HeldU w BR BASE D dv v n sb u qs w') (hd : Dice w'' D dv) (hg : w'.grownBy w'' (some D)) (h1 : w.heap.size ≤ D) (h2 : D < BASE) (h3 : D < BR) : HeldU w BR BASE D dv v n sb u qs w'' :=
  ⟨h.one.turned hd hg h1 h2, own_kept h.rules hg h3⟩
/-- A row of four strings, somewhere. -/
def RowU (base : Nat) (v : Value) (w : World) : Prop := ∃ (G : Nat) (xs : List ByteArray), v = .slice (some ⟨G, 0, none⟩) 4 4 ∧ xs.length = 4 ∧ w.ownsRow base 9 1 v 4 (xs.map Value.string)
theorem RowU.turns {w w' : World} {base D : Nat} {v : Value} (h : RowU base v w) (hR : Turns D w w') (hd : D < base) : RowU base v w' := by
  obtain ⟨G, xs, h1, h2, h4⟩ := h
  exact ⟨G, xs, h1, h2, own_turns h4 hR hd⟩

set_option maxRecDepth 100000 in
set_option maxHeartbeats 6400000 in
theorem NameUses_any (A : Option Addr) (nr cr : Nat) (rs : List (ByteArray × ByteArray)) (L : Option Addr) (n c : Nat) (ss : List ByteArray) (pa pb : ByteArray) (B : Option Addr) (m d : Nat) (w : World) (hL : LaidErr w)
    (hnr : nr = rs.length) (nbr : nr ≤ 1000000000000000000) (hfr : Fine rs) (hr0 : A = none → cr = 0) (hxr : Cells w A (ruleCells rs)) (hn : n = ss.length) (nb : n ≤ 1000000000000000000) (h0 : L = none → c = 0)
    (hx : Cells w L (ss.map Value.string)) (hm : m ≤ 1000000000000000000) (hy : NumsIn w B m) :
    Calls Tryz.prog 4 #[.slice A nr cr, .slice L n c, .string pa, .string pb, .slice B m d] w (TruePost w) := by
  obtain ⟨si, hi, hz0, hz1, hz2⟩ := info_parts infoStr
  obtain ⟨ri, gi, gz0, gz1, gz2⟩ := info_parts infoRule
  have q1 := long_any A L nr cr n c rs ss w hnr hn nbr nb hfr hxr hx
  have Q1 := Lib.hid q1
  have HLE := Lib.hid hL
  clear hL
  have HY := Lib.hid hy
  cases e1 : longB rs ss with
  | true =>
    clear q1 hx hy hn hxr hnr hfr
    go_enter Tryz.func4, Tryz.ntmps4
    go_wp2_with fail
    refine Q1.out.mono ?_
    rintro e w1 ⟨rfl, hd⟩
    rw [e1]
    have b2 := Drew.below hd w.heap.size
    clear e1 hd
    go_wp2_with fail
    refine (spelling_at _ b2).mono ?_
    rintro e w2 ⟨rfl, hb⟩
    go_wp2
    go_ret
    exact ⟨rfl, hb⟩
  | false =>
    obtain ⟨r20, rsh, n20, s20⟩ := long_rules e1
    have sl : StrList w (.slice L n c) ss := ⟨L, n, c, rfl, hn, by omega, h0, hx⟩
    have SL := Lib.hid sl
    have rl : RuleList w (.slice A nr cr) rs := ⟨A, nr, cr, rfl, hnr, by omega, hr0, hxr⟩
    have RL := Lib.hid rl
    have RSH := Lib.hid rsh
    have q2 : ∀ W : World, Calls Tryz.prog 11 #[.slice none 0 0, .slice (some ⟨W.heap.size, 0, none⟩) 2 2] (W.alloc (.cells #[.string pa, .string pb] 9)) (LongPost [] [pa, pb] (W.alloc (.cells #[.string pa, .string pb] 9))) := fun W =>
      long_any none _ 0 0 2 2 [] [pa, pb] _ rfl rfl (by decide) (by decide) (fun r h => by cases h) (fun i h => by cases h) (cells_lit W #[.string pa, .string pb] 9 2 rfl (by unfold maxLen; omega))
    have Q2 := Lib.hid q2
    clear q1 hx hy hn sl s20 h0 q2 rl rsh hxr hnr hfr hr0
    cases e2 : longB [] [pa, pb] with
    | true =>
      go_enter Tryz.func4, Tryz.ntmps4
      go_wp2_with fail
      refine Q1.out.mono ?_
      rintro e w1 ⟨rfl, hd⟩
      rw [e1]
      have b2 := Drew.below hd w.heap.size
      have b2' := b2.alloc (o := .cells #[.string pa, .string pb] 9) b2.size
      clear e1 hd
      go_wp2_with fail
      refine (Q2.out _).mono ?_
      rintro e w2 ⟨rfl, hd⟩
      rw [e2]
      have b3 := b2'.trans (Drew.below hd w.heap.size)
      clear e2 hd
      go_wp2_with fail
      refine (spelling_at _ b3).mono ?_
      rintro e w3 ⟨rfl, hb⟩
      go_wp2
      go_ret
      exact ⟨rfl, hb⟩
    | false =>
      go_enter Tryz.func4, Tryz.ntmps4
      go_wp2_with fail
      refine Q1.out.mono ?_
      rintro e w0 ⟨rfl, hd⟩
      rw [e1]
      have b2 := Drew.below hd w.heap.size
      have b2' := b2.alloc (o := .cells #[.string pa, .string pb] 9) b2.size
      clear e1 hd Q1
      go_wp2_with fail
      refine (Q2.out _).mono ?_
      rintro e w1 ⟨rfl, hd⟩
      rw [e2]
      have b2 := b2'.trans (Drew.below hd w.heap.size)
      clear e2 hd Q2 b2'
      go_wp2_with fail
      refine (NewDice_any B m d _ hm (HY.out.below b2)).mono ?_
      rintro e w2 ⟨rfl, hd2, hb2⟩
      have b3 := b2.trans (hb2.mono b2.size)
      have hD : w.heap.size ≤ w1.heap.size := b2.size
      have hD2 := hd2.lt
      generalize w1.heap.size = D at *
      clear b2 hb2
      go_wp2_with fail
      refine (RulesOf_any D _ 3 _ hd2 (by decide) (by decide)).mono ?_
      rintro e w3 ⟨qo, qs, rfl, hq3, hoq3, hqm, hd3, hg3⟩
      obtain ⟨AQ, cq, rfl⟩ := own_form hoq3
      have b4 := b3.grown hg3 b3.size fun k hk => by cases hk; exact hD
      have hD3 := hd3.lt
      have hq4 : qs.length ≤ 3 := by omega
      have QSH := Lib.hid (made_short hqm)
      have hw23 := hg3.size
      clear hd2 b3 hqm hq3 hg3
      go_wp2_with fail
      refine (NamesOf_any D _ 4 4 _ hd3 (by decide) (by decide) (by decide) (by decide)).mono ?_
      rintro e w4 ⟨o, sa, rfl, hl4, ho4, hlike4, hd4, hg4⟩
      obtain ⟨O, capo, rfl⟩ := own_form ho4
      clear hlike4
      go_wp2_with fail
      refine (NameOf_any D _ 4 _ hd4 (by decide) (by decide)).mono ?_
      rintro e w5 ⟨s5, rfl, hs5, hs5', hl5, hd5, hg5⟩
      have ho5 := own_kept ho4 hg5 hD3
      have hg35 := grownBy_trans hg4 hg5
      have hws : w3.heap.size ≤ w5.heap.size := hg35.size
      clear hl5 hs5 hs5' hd4 hg4 hg5 ho4
      go_wp2_with (at_builtin; refine wpList_append_own _ rfl _ _ 22 rfl w3.heap.size 9 si (.string ByteArray.empty) 1 16 Tryz.underlying22 hi hz0 hz1 hz2 rfl (by decide) _ _ _ rfl (ho5.alloc _) ⟨w5.heap.size, 0, none⟩ 1 1 [.string s5] rfl rfl (cell_one_new _ _ _) (by simp [Value.oneCell']) (by unfold maxLen; omega) (by omega) (by simp; omega) ?_; intro v' w6 ho6 hg6 _; obtain ⟨O6, cap6, rfl⟩ := own_form ho6)
      obtain ⟨hd6, hg36⟩ := own_append2 (w := w3) (wl := w5) (ho5.alloc _) hD3 hg35 hd5 ((Below.refl _ _).alloc (Nat.le_refl _) _) hg6
      have b6 := b4.grown hg36 b4.size fun k hk => by cases hk; exact hD
      have hoq6 := own_kept hoq3 hg36 hD2
      have hws6 : w3.heap.size ≤ w6.heap.size := hg36.size
      have e6 : (sa.map Value.string ++ [Value.string s5]) = (sa ++ [s5]).map Value.string := by simp
      rw [e6] at ho6
      have l6 : sa.length + 1 = (sa ++ [s5]).length := by simp
      have n6 : sa.length + 1 ≤ 1000 := by omega
      have hsl : (sa.length : Int) ≤ 1000 := by omega
      have L6 := Lib.hid l6
      generalize sa ++ [s5] = sb at *
      have held : HeldU w w2.heap.size w3.heap.size D (.slice B m d) (.slice O6 (sa.length + 1) cap6) (sa.length + 1) sb (.slice AQ qs.length cq) qs w6 := ⟨⟨hd6, b6, ho6, hws6⟩, hoq6⟩
      have j0l : 0 < sb.length := by rw [← L6.out]; omega
      have jll : sa.length < sb.length := by rw [← L6.out]; omega
      obtain ⟨g5, cap', hv, cz⟩ := own_str ho6 0 j0l
      injection hv with hv1 hv2 hv3
      subst hv1 hv3
      obtain ⟨g5', cap', hv, cl⟩ := own_str ho6 sa.length jll
      injection hv with hv1 hv2 hv3
      injection hv1 with hv1
      injection hv1 with hv1
      subst hv1 hv3
      have g5b := (ho6.lt g5 rfl).1
      generalize sb[0] = X0 at *
      generalize sb[sa.length] = XL at *
      clear hd6 hg36 ho5 hg6 hg35 b6 hd5 hws e6 ho6 l6 hl4 b4 hws6 hoq6 hoq3 hd3 hv2 j0l jll
      go_upto_region 6 with fail
      have czd : w6.drew.cell? ⟨g5, 0, none⟩ = some (.string X0) := cz
      have cld : w6.drew.cell? ⟨g5, sa.length, none⟩ = some (.string XL) := cl
      have heldd := held.drew
      go_cut [14, 15, 16, 17] (fun r1 r2 r3 r4 wx => ∃ (G1 G2 G3 G4 : Nat) (as_ bs_ : List ByteArray), as_.length = 4 ∧ bs_.length = 4 ∧ r1 = .slice (some ⟨G1, 0, none⟩) 4 4 ∧ r2 = .slice (some ⟨G2, 0, none⟩) 4 4 ∧ r3 = .slice (some ⟨G3, 0, none⟩) 4 4 ∧ r4 = .slice (some ⟨G4, 0, none⟩) 4 4 ∧ wx.ownsRow w3.heap.size 41 1 (.slice (some ⟨G1, 0, none⟩) 4 4) 4 [(.slice A nr cr), (.slice AQ qs.length cq), (.slice AQ qs.length cq), (.slice A nr cr)] ∧ wx.ownsRow w3.heap.size 22 1 (.slice (some ⟨G2, 0, none⟩) 4 4) 4 [(.slice L n c), (.slice (some ⟨g5, 0, none⟩) (sa.length + 1) cap6), (.slice L n c), (.slice (some ⟨g5, 0, none⟩) (sa.length + 1) cap6)] ∧ wx.ownsRow w3.heap.size 9 1 (.slice (some ⟨G3, 0, none⟩) 4 4) 4 (as_.map Value.string) ∧ wx.ownsRow w3.heap.size 9 1 (.slice (some ⟨G4, 0, none⟩) 4 4) 4 (bs_.map Value.string) ∧ HeldU w w2.heap.size w3.heap.size D (.slice B m d) (.slice (some ⟨g5, 0, none⟩) (sa.length + 1) cap6) (sa.length + 1) sb (.slice AQ qs.length cq) qs wx)
      case first =>
        (try dsimp only [List.append])
        refine wp_region_settles [some 54, some 55, some 56, some 57, some 58, some 59, some 60, some 61, some 62, some 63, some 64, some 65, some 66, some 67, some 68, some 69, some 70, some 71, some 72, some 73, some 74, some 75, some 76, some 77, some 78, some 79, some 80, some 81, some 82, some 83, some 84, some 85, some 86, some 87, some 88, some 89, some 14, some 15, some 16, some 17] (fun w' => w'.cell? ⟨g5, 0, none⟩ = some (.string X0) ∧ w'.cell? ⟨g5, sa.length, none⟩ = some (.string XL) ∧ HeldU w w2.heap.size w3.heap.size D (.slice B m d) (.slice (some ⟨g5, 0, none⟩) (sa.length + 1) cap6) (sa.length + 1) sb (.slice AQ qs.length cq) qs w')
          (fun j v w' => match j with
            | 0 => v = (.slice A nr cr)
            | 1 => v = (.slice AQ qs.length cq)
            | 2 => v = (.slice AQ qs.length cq)
            | 3 => v = (.slice A nr cr)
            | 4 => RowB w3.heap.size [(.slice A nr cr), (.slice AQ qs.length cq), (.slice AQ qs.length cq), (.slice A nr cr)] 41 v w'
            | 5 => v = (.slice L n c)
            | 6 => v = (.slice (some ⟨g5, 0, none⟩) (sa.length + 1) cap6)
            | 7 => v = (.slice L n c)
            | 8 => v = (.slice (some ⟨g5, 0, none⟩) (sa.length + 1) cap6)
            | 9 => RowB w3.heap.size [(.slice L n c), (.slice (some ⟨g5, 0, none⟩) (sa.length + 1) cap6), (.slice L n c), (.slice (some ⟨g5, 0, none⟩) (sa.length + 1) cap6)] 22 v w'
            | 10 => v = .string pa
            | 11 => v = (.slice (some ⟨g5, 0, none⟩) (sa.length + 1) cap6)
            | 12 => v = .pointer (some ⟨g5, 0, none⟩)
            | 13 => v = .string X0
            | 14 => v = .string pa
            | 15 => v = (.slice (some ⟨g5, 0, none⟩) (sa.length + 1) cap6)
            | 16 => v = .pointer (some ⟨D, 0, none⟩)
            | 17 => v = (.slice (some ⟨g5, 0, none⟩) (sa.length + 1) cap6)
            | 18 => v = .int .i64 ((sa.length : Int) + 1)
            | 19 => v = .int .i64 (sa.length : Int)
            | 20 => ∃ j : Nat, v = .int .i64 (j : Int) ∧ j ≤ sa.length
            | 21 => ∃ j : Nat, v = .pointer (some ⟨g5, j, none⟩) ∧ j ≤ sa.length
            | 22 => ∃ x : ByteArray, v = .string x
            | 23 => RowU w3.heap.size v w'
            | 24 => v = .string pb
            | 25 => v = (.slice (some ⟨g5, 0, none⟩) (sa.length + 1) cap6)
            | 26 => v = (.slice (some ⟨g5, 0, none⟩) (sa.length + 1) cap6)
            | 27 => v = .int .i64 ((sa.length : Int) + 1)
            | 28 => v = .int .i64 (sa.length : Int)
            | 29 => v = .pointer (some ⟨g5, sa.length, none⟩)
            | 30 => v = .string XL
            | 31 => v = .string pb
            | 32 => v = (.slice (some ⟨g5, 0, none⟩) (sa.length + 1) cap6)
            | 33 => v = .pointer (some ⟨g5, 0, none⟩)
            | 34 => v = .string X0
            | 35 => RowU w3.heap.size v w'
            | 36 => RowB w3.heap.size [(.slice A nr cr), (.slice AQ qs.length cq), (.slice AQ qs.length cq), (.slice A nr cr)] 41 v w'
            | 37 => RowB w3.heap.size [(.slice L n c), (.slice (some ⟨g5, 0, none⟩) (sa.length + 1) cap6), (.slice L n c), (.slice (some ⟨g5, 0, none⟩) (sa.length + 1) cap6)] 22 v w'
            | 38 => RowU w3.heap.size v w'
            | 39 => RowU w3.heap.size v w'
            | _ => True) (Turns D) (by kernel_rfl) rfl (by decide +kernel) rfl (by decide +kernel) ⟨cz, cl, held.drew⟩ ?_ ?_ ?_
        · intro j v w' w'' hR hs
          match j, hs with
          | 0, hs => exact hs
          | 1, hs => exact hs
          | 2, hs => exact hs
          | 3, hs => exact hs
          | 4, hs => exact hs.turns hR hD3
          | 5, hs => exact hs
          | 6, hs => exact hs
          | 7, hs => exact hs
          | 8, hs => exact hs
          | 9, hs => exact hs.turns hR hD3
          | 10, hs => exact hs
          | 11, hs => exact hs
          | 12, hs => exact hs
          | 13, hs => exact hs
          | 14, hs => exact hs
          | 15, hs => exact hs
          | 16, hs => exact hs
          | 17, hs => exact hs
          | 18, hs => exact hs
          | 19, hs => exact hs
          | 20, hs => exact hs
          | 21, hs => exact hs
          | 22, hs => exact hs
          | 23, hs => exact hs.turns hR hD3
          | 24, hs => exact hs
          | 25, hs => exact hs
          | 26, hs => exact hs
          | 27, hs => exact hs
          | 28, hs => exact hs
          | 29, hs => exact hs
          | 30, hs => exact hs
          | 31, hs => exact hs
          | 32, hs => exact hs
          | 33, hs => exact hs
          | 34, hs => exact hs
          | 35, hs => exact hs.turns hR hD3
          | 36, hs => exact hs.turns hR hD3
          | 37, hs => exact hs.turns hR hD3
          | 38, hs => exact hs.turns hR hD3
          | 39, hs => exact hs.turns hR hD3
          | (_ + 40), _ => trivial
        · intro i o ho a wv vals hC hdep heval hoth
          match i, ho with
          | 0, ho =>
            obtain rfl := Option.some.inj ho
            exact wp_move _ rfl ⟨_, rfl, .inl rfl, hC, hoth _ (not_in (t := 0) rfl)⟩
          | 1, ho =>
            obtain rfl := Option.some.inj ho
            exact wp_move _ rfl ⟨_, rfl, .inl rfl, hC, hoth _ (not_in (t := 12) rfl)⟩
          | 2, ho =>
            obtain rfl := Option.some.inj ho
            exact wp_move _ rfl ⟨_, rfl, .inl rfl, hC, hoth _ (not_in (t := 12) rfl)⟩
          | 3, ho =>
            obtain rfl := Option.some.inj ho
            exact wp_move _ rfl ⟨_, rfl, .inl rfl, hC, hoth _ (not_in (t := 0) rfl)⟩
          | 4, ho =>
            obtain rfl := Option.some.inj ho
            have f0 := (heval 0 54 (by decide) rfl (show 54 < 277 from by decide)).trans (hdep 0 (by decide))
            have f1 := (heval 1 55 (by decide) rfl (show 55 < 277 from by decide)).trans (hdep 1 (by decide))
            have f2 := (heval 2 56 (by decide) rfl (show 56 < 277 from by decide)).trans (hdep 2 (by decide))
            have f3 := (heval 3 57 (by decide) rfl (show 57 < 277 from by decide)).trans (hdep 3 (by decide))
            simp only [Act.eval, Array.getD_eq_getD_getElem?] at f0 f1 f2 f3
            clear hdep heval hoth
            have bg := hC.2.2.one.big
            go_simp
            exact ⟨_, rfl, .inr (.inl ⟨_, rfl⟩), ⟨cell_alloc hC.1, cell_alloc hC.2.1, hC.2.2.alloc _⟩, ⟨_, rfl, own_lit wv w3.heap.size #[(.slice A nr cr), (.slice AQ qs.length cq), (.slice AQ qs.length cq), (.slice A nr cr)] 41 4 bg rfl (by decide)⟩⟩
          | 5, ho =>
            obtain rfl := Option.some.inj ho
            exact wp_move _ rfl ⟨_, rfl, .inl rfl, hC, hoth _ (not_in (t := 1) rfl)⟩
          | 6, ho =>
            obtain rfl := Option.some.inj ho
            exact wp_move _ rfl ⟨_, rfl, .inl rfl, hC, hoth _ (not_in (t := 13) rfl)⟩
          | 7, ho =>
            obtain rfl := Option.some.inj ho
            exact wp_move _ rfl ⟨_, rfl, .inl rfl, hC, hoth _ (not_in (t := 1) rfl)⟩
          | 8, ho =>
            obtain rfl := Option.some.inj ho
            exact wp_move _ rfl ⟨_, rfl, .inl rfl, hC, hoth _ (not_in (t := 13) rfl)⟩
          | 9, ho =>
            obtain rfl := Option.some.inj ho
            have f0 := (heval 5 59 (by decide) rfl (show 59 < 277 from by decide)).trans (hdep 5 (by decide))
            have f1 := (heval 6 60 (by decide) rfl (show 60 < 277 from by decide)).trans (hdep 6 (by decide))
            have f2 := (heval 7 61 (by decide) rfl (show 61 < 277 from by decide)).trans (hdep 7 (by decide))
            have f3 := (heval 8 62 (by decide) rfl (show 62 < 277 from by decide)).trans (hdep 8 (by decide))
            simp only [Act.eval, Array.getD_eq_getD_getElem?] at f0 f1 f2 f3
            clear hdep heval hoth
            have bg := hC.2.2.one.big
            go_simp
            exact ⟨_, rfl, .inr (.inl ⟨_, rfl⟩), ⟨cell_alloc hC.1, cell_alloc hC.2.1, hC.2.2.alloc _⟩, ⟨_, rfl, own_lit wv w3.heap.size #[(.slice L n c), (.slice (some ⟨g5, 0, none⟩) (sa.length + 1) cap6), (.slice L n c), (.slice (some ⟨g5, 0, none⟩) (sa.length + 1) cap6)] 22 4 bg rfl (by decide)⟩⟩
          | 10, ho =>
            obtain rfl := Option.some.inj ho
            exact wp_move _ rfl ⟨_, rfl, .inl rfl, hC, hoth _ (not_in (t := 2) rfl)⟩
          | 11, ho =>
            obtain rfl := Option.some.inj ho
            exact wp_move _ rfl ⟨_, rfl, .inl rfl, hC, hoth _ (not_in (t := 13) rfl)⟩
          | 12, ho =>
            obtain rfl := Option.some.inj ho
            have f1 := (heval 11 65 (by decide) rfl (show 65 < 277 from by decide)).trans (hdep 11 (by decide))
            simp only [Act.eval, Array.getD_eq_getD_getElem?] at f1
            clear hdep heval hoth
            have jz : (0 : Int) < ((sa.length + 1 : Nat) : Int) := by omega
            go_simp
            first | exact .inl rfl | exact ⟨.inl rfl, hC.1, hC.2.1, hC.2.2⟩
          | 13, ho =>
            obtain rfl := Option.some.inj ho
            have f1 := (heval 12 66 (by decide) rfl (show 66 < 277 from by decide)).trans (hdep 12 (by decide))
            simp only [Act.eval, Array.getD_eq_getD_getElem?] at f1
            clear hdep heval hoth
            have cl0 := hC.1
            have cl1 := hC.2.1
            go_simp
            first | exact .inl rfl | exact ⟨.inl rfl, hC.1, hC.2.1, hC.2.2⟩
          | 14, ho =>
            obtain rfl := Option.some.inj ho
            exact wp_move _ rfl ⟨_, rfl, .inl rfl, hC, hoth _ (not_in (t := 2) rfl)⟩
          | 15, ho =>
            obtain rfl := Option.some.inj ho
            exact wp_move _ rfl ⟨_, rfl, .inl rfl, hC, hoth _ (not_in (t := 13) rfl)⟩
          | 16, ho =>
            obtain rfl := Option.some.inj ho
            exact wp_move _ rfl ⟨_, rfl, .inl rfl, hC, hoth _ (not_in (t := 11) rfl)⟩
          | 17, ho =>
            obtain rfl := Option.some.inj ho
            exact wp_move _ rfl ⟨_, rfl, .inl rfl, hC, hoth _ (not_in (t := 13) rfl)⟩
          | 18, ho =>
            obtain rfl := Option.some.inj ho
            have f1 := (heval 17 71 (by decide) rfl (show 71 < 277 from by decide)).trans (hdep 17 (by decide))
            simp only [Act.eval, Array.getD_eq_getD_getElem?] at f1
            clear hdep heval hoth
            go_simp
            first | exact .inl rfl | exact ⟨.inl rfl, hC.1, hC.2.1, hC.2.2⟩
          | 19, ho =>
            obtain rfl := Option.some.inj ho
            have f1 := (heval 18 72 (by decide) rfl (show 72 < 277 from by decide)).trans (hdep 18 (by decide))
            simp only [Act.eval, Array.getD_eq_getD_getElem?] at f1
            clear hdep heval hoth
            have j1 : (sa.length : Int) + 1 - 1 = (sa.length : Int) := by omega
            have j2 : IntKind.i64.wrap (sa.length : Int) = (sa.length : Int) := IntWalk.i64_in _ (by omega)
            go_simp
            first | exact .inl rfl | exact ⟨.inl rfl, hC.1, hC.2.1, hC.2.2⟩
          | 20, ho =>
            obtain rfl := Option.some.inj ho
            have f1 := (heval 16 70 (by decide) rfl (show 70 < 277 from by decide)).trans (hdep 16 (by decide))
            have f2 := (heval 19 73 (by decide) rfl (show 73 < 277 from by decide)).trans (hdep 19 (by decide))
            simp only [Act.eval, Array.getD_eq_getD_getElem?] at f1 f2
            clear hdep heval hoth
            go_simp
            refine (To_any D _ (sa.length : Nat) _ hC.2.2.one.dice (by omega)).mono ?_
            rintro e wn ⟨x1, rfl, hx0, hx1, hx2, hdd, hgg⟩
            obtain ⟨j, rfl⟩ := Int.eq_ofNat_of_zero_le hx0
            have hj : j ≤ sa.length := by
              rcases Nat.eq_zero_or_pos sa.length with h | h
              · have := hx2 (by omega); omega
              · have := hx1 (by omega); omega
            exact ⟨_, rfl, .inr (.inr hgg), ⟨cell_turned hC.1 hgg g5b hD3, cell_turned hC.2.1 hgg g5b hD3, hC.2.2.turned hdd hgg hD hD3 hD2⟩, ⟨j, rfl, hj⟩⟩
          | 21, ho =>
            obtain rfl := Option.some.inj ho
            have f1 := (heval 15 69 (by decide) rfl (show 69 < 277 from by decide)).trans (hdep 15 (by decide))
            obtain ⟨j, h2, hj⟩ := hdep 20 (by decide)
            have f2 := (heval 20 74 (by decide) rfl (show 74 < 277 from by decide)).trans h2
            simp only [Act.eval, Array.getD_eq_getD_getElem?] at f1 f2
            clear hdep heval hoth
            have j5 : (0 : Int) ≤ (j : Int) := by omega
            have j6 : (j : Int) < (sa.length : Int) + 1 := by omega
            have j7 : (j : Int) < ((sa.length + 1 : Nat) : Int) := by omega
            go_simp
            first | exact ⟨_, rfl, .inl rfl, j, rfl, hj⟩ | exact ⟨_, rfl, .inl rfl, hC, j, rfl, hj⟩
          | 22, ho =>
            obtain rfl := Option.some.inj ho
            obtain ⟨j, h1, hj⟩ := hdep 21 (by decide)
            have f1 := (heval 21 75 (by decide) rfl (show 75 < 277 from by decide)).trans h1
            simp only [Act.eval, Array.getD_eq_getD_getElem?] at f1
            clear hdep heval hoth
            have jl : j < sb.length := by rw [← L6.out]; omega
            obtain ⟨g6, cap7, hv, cj⟩ := own_str hC.2.2.one.row j jl
            injection hv with hv1 hv2 hv3
            injection hv1 with hv1
            injection hv1 with hv1
            subst hv1 hv3
            go_simp
            first | exact ⟨_, rfl, .inl rfl, _, rfl⟩ | exact ⟨_, rfl, .inl rfl, hC, _, rfl⟩
          | 23, ho =>
            obtain rfl := Option.some.inj ho
            have f0 := (heval 10 64 (by decide) rfl (show 64 < 277 from by decide)).trans (hdep 10 (by decide))
            have f1 := (heval 13 67 (by decide) rfl (show 67 < 277 from by decide)).trans (hdep 13 (by decide))
            have f2 := (heval 14 68 (by decide) rfl (show 68 < 277 from by decide)).trans (hdep 14 (by decide))
            obtain ⟨x3, h3⟩ := hdep 22 (by decide)
            have f3 := (heval 22 76 (by decide) rfl (show 76 < 277 from by decide)).trans h3
            simp only [Act.eval, Array.getD_eq_getD_getElem?] at f0 f1 f2 f3
            clear hdep heval hoth
            have bg := hC.2.2.one.big
            go_simp
            exact ⟨_, rfl, .inr (.inl ⟨_, rfl⟩), ⟨cell_alloc hC.1, cell_alloc hC.2.1, hC.2.2.alloc _⟩, ⟨_, [pa, X0, pa, x3], rfl, rfl, own_lit wv w3.heap.size #[.string pa, .string X0, .string pa, .string x3] 9 4 bg rfl (by decide)⟩⟩
          | 24, ho =>
            obtain rfl := Option.some.inj ho
            exact wp_move _ rfl ⟨_, rfl, .inl rfl, hC, hoth _ (not_in (t := 3) rfl)⟩
          | 25, ho =>
            obtain rfl := Option.some.inj ho
            exact wp_move _ rfl ⟨_, rfl, .inl rfl, hC, hoth _ (not_in (t := 13) rfl)⟩
          | 26, ho =>
            obtain rfl := Option.some.inj ho
            exact wp_move _ rfl ⟨_, rfl, .inl rfl, hC, hoth _ (not_in (t := 13) rfl)⟩
          | 27, ho =>
            obtain rfl := Option.some.inj ho
            have f1 := (heval 26 80 (by decide) rfl (show 80 < 277 from by decide)).trans (hdep 26 (by decide))
            simp only [Act.eval, Array.getD_eq_getD_getElem?] at f1
            clear hdep heval hoth
            go_simp
            first | exact .inl rfl | exact ⟨.inl rfl, hC.1, hC.2.1, hC.2.2⟩
          | 28, ho =>
            obtain rfl := Option.some.inj ho
            have f1 := (heval 27 81 (by decide) rfl (show 81 < 277 from by decide)).trans (hdep 27 (by decide))
            simp only [Act.eval, Array.getD_eq_getD_getElem?] at f1
            clear hdep heval hoth
            have j1 : (sa.length : Int) + 1 - 1 = (sa.length : Int) := by omega
            have j2 : IntKind.i64.wrap (sa.length : Int) = (sa.length : Int) := IntWalk.i64_in _ (by omega)
            go_simp
            first | exact .inl rfl | exact ⟨.inl rfl, hC.1, hC.2.1, hC.2.2⟩
          | 29, ho =>
            obtain rfl := Option.some.inj ho
            have f1 := (heval 25 79 (by decide) rfl (show 79 < 277 from by decide)).trans (hdep 25 (by decide))
            have f2 := (heval 28 82 (by decide) rfl (show 82 < 277 from by decide)).trans (hdep 28 (by decide))
            simp only [Act.eval, Array.getD_eq_getD_getElem?] at f1 f2
            clear hdep heval hoth
            have j5 : (0 : Int) ≤ (sa.length : Int) := by omega
            have j6 : (sa.length : Int) < (sa.length : Int) + 1 := by omega
            have j7 : (sa.length : Int) < ((sa.length + 1 : Nat) : Int) := by omega
            go_simp
            first | exact .inl rfl | exact ⟨.inl rfl, hC.1, hC.2.1, hC.2.2⟩
          | 30, ho =>
            obtain rfl := Option.some.inj ho
            have f1 := (heval 29 83 (by decide) rfl (show 83 < 277 from by decide)).trans (hdep 29 (by decide))
            simp only [Act.eval, Array.getD_eq_getD_getElem?] at f1
            clear hdep heval hoth
            have cl0 := hC.1
            have cl1 := hC.2.1
            go_simp
            first | exact .inl rfl | exact ⟨.inl rfl, hC.1, hC.2.1, hC.2.2⟩
          | 31, ho =>
            obtain rfl := Option.some.inj ho
            exact wp_move _ rfl ⟨_, rfl, .inl rfl, hC, hoth _ (not_in (t := 3) rfl)⟩
          | 32, ho =>
            obtain rfl := Option.some.inj ho
            exact wp_move _ rfl ⟨_, rfl, .inl rfl, hC, hoth _ (not_in (t := 13) rfl)⟩
          | 33, ho =>
            obtain rfl := Option.some.inj ho
            have f1 := (heval 32 86 (by decide) rfl (show 86 < 277 from by decide)).trans (hdep 32 (by decide))
            simp only [Act.eval, Array.getD_eq_getD_getElem?] at f1
            clear hdep heval hoth
            have jz : (0 : Int) < ((sa.length + 1 : Nat) : Int) := by omega
            go_simp
            first | exact .inl rfl | exact ⟨.inl rfl, hC.1, hC.2.1, hC.2.2⟩
          | 34, ho =>
            obtain rfl := Option.some.inj ho
            have f1 := (heval 33 87 (by decide) rfl (show 87 < 277 from by decide)).trans (hdep 33 (by decide))
            simp only [Act.eval, Array.getD_eq_getD_getElem?] at f1
            clear hdep heval hoth
            have cl0 := hC.1
            have cl1 := hC.2.1
            go_simp
            first | exact .inl rfl | exact ⟨.inl rfl, hC.1, hC.2.1, hC.2.2⟩
          | 35, ho =>
            obtain rfl := Option.some.inj ho
            have f0 := (heval 24 78 (by decide) rfl (show 78 < 277 from by decide)).trans (hdep 24 (by decide))
            have f1 := (heval 30 84 (by decide) rfl (show 84 < 277 from by decide)).trans (hdep 30 (by decide))
            have f2 := (heval 31 85 (by decide) rfl (show 85 < 277 from by decide)).trans (hdep 31 (by decide))
            have f3 := (heval 34 88 (by decide) rfl (show 88 < 277 from by decide)).trans (hdep 34 (by decide))
            simp only [Act.eval, Array.getD_eq_getD_getElem?] at f0 f1 f2 f3
            clear hdep heval hoth
            have bg := hC.2.2.one.big
            go_simp
            exact ⟨_, rfl, .inr (.inl ⟨_, rfl⟩), ⟨cell_alloc hC.1, cell_alloc hC.2.1, hC.2.2.alloc _⟩, ⟨_, [pb, XL, pb, X0], rfl, rfl, own_lit wv w3.heap.size #[.string pb, .string XL, .string pb, .string X0] 9 4 bg rfl (by decide)⟩⟩
          | 36, ho =>
            obtain rfl := Option.some.inj ho
            have f1 := heval 4 58 (by decide) rfl (show 58 < 277 from by decide)
            have f2 := hdep 4 (by decide)
            exact wp_assign _ rfl ⟨_, rfl, .inl rfl, hC, by rw [f1]; exact f2⟩
          | 37, ho =>
            obtain rfl := Option.some.inj ho
            have f1 := heval 9 63 (by decide) rfl (show 63 < 277 from by decide)
            have f2 := hdep 9 (by decide)
            exact wp_assign _ rfl ⟨_, rfl, .inl rfl, hC, by rw [f1]; exact f2⟩
          | 38, ho =>
            obtain rfl := Option.some.inj ho
            have f1 := heval 23 77 (by decide) rfl (show 77 < 277 from by decide)
            have f2 := hdep 23 (by decide)
            exact wp_assign _ rfl ⟨_, rfl, .inl rfl, hC, by rw [f1]; exact f2⟩
          | 39, ho =>
            obtain rfl := Option.some.inj ho
            have f1 := heval 35 89 (by decide) rfl (show 89 < 277 from by decide)
            have f2 := hdep 35 (by decide)
            exact wp_assign _ rfl ⟨_, rfl, .inl rfl, hC, by rw [f1]; exact f2⟩
          | (_ + 40), ho => cases ho
        · intro vals wz hCz hv
          obtain ⟨G1, e1, r1⟩ := hv 36 (show 36 < 40 from by decide)
          obtain ⟨G2, e2, r2⟩ := hv 37 (show 37 < 40 from by decide)
          obtain ⟨G3, xs, e3, l3, r3⟩ := hv 38 (show 38 < 40 from by decide)
          obtain ⟨G4, ys, e4, l4, r4⟩ := hv 39 (show 39 < 40 from by decide)
          rw [e1] at r1
          rw [e2] at r2
          rw [e3] at r3
          rw [e4] at r4
          have hz := hCz.2.2
          clear hv hCz
          simp only [List.length_cons, List.length_nil, Nat.zero_add, Nat.reduceAdd, fillAll, List.getD_cons_zero, List.getD_cons_succ, Act.put, List.setIfInBounds_toArray, List.set_cons_zero, List.set_cons_succ]
          rw [e1, e2, e3, e4]
          clear e1 e2 e3 e4
          go_wp2_with fail
          go_meet
          exact ⟨G1, G2, G3, G4, xs, ys, l3, l4, rfl, rfl, rfl, rfl, r1, r2, r3, r4, hz⟩
      case rest =>
        obtain ⟨G1, G2, G3, G4, as_, bs_, la, lb, rfl, rfl, rfl, rfl, r1, r2, r3, r4, hz⟩ := hcut
        have bc := hz.one.low
        have so := StrList.own hz.one.row L6.out n6
        have ro := RuleList.own hz.rules rfl (by omega)
        have CA := Lib.hid (cells_own r3)
        have CB := Lib.hid (cells_own r4)
        have RLS : Hid (RuleLists wc (some ⟨G1, 0, none⟩) [(.slice A nr cr), (.slice AQ qs.length cq), (.slice AQ qs.length cq), (.slice A nr cr)]) := by
          refine Lib.hid ⟨cells_own r1, fun i hi => ?_⟩
          match i, hi with
          | 0, _ => exact ⟨rs, RL.out.below bc, RSH.out⟩
          | 1, _ => exact ⟨qs, ro, QSH.out⟩
          | 2, _ => exact ⟨qs, ro, QSH.out⟩
          | 3, _ => exact ⟨rs, RL.out.below bc, RSH.out⟩
        have SLS : Hid (StrLists wc (some ⟨G2, 0, none⟩) [(.slice L n c), (.slice (some ⟨g5, 0, none⟩) (sa.length + 1) cap6), (.slice L n c), (.slice (some ⟨g5, 0, none⟩) (sa.length + 1) cap6)]) := by
          refine Lib.hid ⟨cells_own r2, fun i hi => ?_⟩
          match i, hi with
          | 0, _ => exact ⟨ss, SL.out.below bc⟩
          | 1, _ => exact ⟨sb, so⟩
          | 2, _ => exact ⟨ss, SL.out.below bc⟩
          | 3, _ => exact ⟨sb, so⟩
        clear r1 r2 r3 r4 hz so ro held heldd cz cl czd cld
        have LA := Lib.hid la
        have LB := Lib.hid lb
        have lr : ([(.slice A nr cr), (.slice AQ qs.length cq), (.slice AQ qs.length cq), (.slice A nr cr)] : List Value).length = 4 := rfl
        have LR := Lib.hid lr
        have ls : ([(.slice L n c), (.slice (some ⟨g5, 0, none⟩) (sa.length + 1) cap6), (.slice L n c), (.slice (some ⟨g5, 0, none⟩) (sa.length + 1) cap6)] : List Value).length = 4 := rfl
        have LS := Lib.hid ls
        clear la lb lr ls
        generalize ([(.slice A nr cr), (.slice AQ qs.length cq), (.slice AQ qs.length cq), (.slice A nr cr)] : List Value) = vr at *
        generalize ([(.slice L n c), (.slice (some ⟨g5, 0, none⟩) (sa.length + 1) cap6), (.slice L n c), (.slice (some ⟨g5, 0, none⟩) (sa.length + 1) cap6)] : List Value) = vs at *
        clear L6 SL RL RSH QSH
        go_wp2_with fail
        go_loopw [18, 19, 20, 21, 22, 23, 24, 25, 26, 27, 28, 29, 30, 31, 32] (fun i _ _ _ _ _ _ _ _ _ _ _ _ _ _ wr => ∃ k : Nat, k ≤ 4 ∧ i = .int .i64 k ∧ Below w.heap.size w wr ∧ RuleLists wr (some ⟨G1, 0, none⟩) vr ∧ StrLists wr (some ⟨G2, 0, none⟩) vs ∧ Cells wr (some ⟨G3, 0, none⟩) (as_.map Value.string) ∧ Cells wr (some ⟨G4, 0, none⟩) (bs_.map Value.string)) (fun i _ _ _ _ _ _ _ _ _ _ _ _ _ _ _ => 4 - (intOf i).toNat)
        case atStart => exact ⟨0, Nat.zero_le _, rfl, bc, RLS.out, SLS.out, CA.out, CB.out⟩
        case round =>
          obtain ⟨k, hk, rfl, t0, hr_, hs_, ha_, hb_⟩ := hrel
          have RR := Lib.hid hr_
          have SS := Lib.hid hs_
          have AA := Lib.hid ha_
          have BB := Lib.hid hb_
          clear hr_ hs_ ha_ hb_ bc RLS SLS CA CB
          by_cases hlt : k < 4
          ·   obtain ⟨b1, o1, hv, r0⟩ := RR.out.1.any k (by rw [LR.out]; exact hlt)
              injection hv with hv
              injection hv with hv1 hv2
              subst hv1 hv2
              obtain ⟨b1, o1, hv, l0⟩ := SS.out.1.any k (by rw [LS.out]; exact hlt)
              injection hv with hv
              injection hv with hv1 hv2
              subst hv1 hv2
              obtain ⟨b1, o1, hv, i0⟩ := AA.out.str k (by rw [LA.out]; exact hlt)
              injection hv with hv
              injection hv with hv1 hv2
              subst hv1 hv2
              obtain ⟨b1, o1, hv, z0⟩ := BB.out.str k (by rw [LB.out]; exact hlt)
              injection hv with hv
              injection hv with hv1 hv2
              subst hv1 hv2
              rw [Nat.zero_add] at r0 l0 i0 z0
              obtain ⟨RK, hRK, shk⟩ := RR.out.2 k (by rw [LR.out]; exact hlt)
              obtain ⟨SK, hSK⟩ := SS.out.2 k (by rw [LS.out]; exact hlt)
              generalize vr[k]'(by rw [LR.out]; exact hlt) = V1 at *
              generalize vs[k]'(by rw [LS.out]; exact hlt) = V2 at *
              generalize as_[k]'(by rw [LA.out]; exact hlt) = X at *
              generalize bs_[k]'(by rw [LB.out]; exact hlt) = Y at *
              obtain ⟨A1, n1, c1, rfl, hn1, hb1, h01, hc1⟩ := hRK
              obtain ⟨A2, n2, c2, rfl, hn2, hb2, h02, hc2⟩ := hSK
              have M1 := Lib.hid hc1
              have M2 := Lib.hid hc2
              have SHK := Lib.hid shk
              have HN1 := Lib.hid hn1
              have HN2 := Lib.hid hn2
              have k5 : (0 : Int) ≤ (k : Int) := by omega
              have k6 : (k : Int) < 4 := by omega
              have Q0 : Hid (∀ W, Below wr.heap.size wr W → Calls Tryz.prog 17 #[.slice A2 n2 c2] W (DupPost SK W)) := Lib.hid fun W h => DupStrings_any A2 n2 c2 SK W hn2 (by omega) h02 (hc2.below h)
              clear hc1 hc2 shk hn1 hn2
              as_aux_lemma =>
                go_upto_region 10 with fail
                have r0d : wr.drew.cell? ⟨G1, k, none⟩ = some (.slice A1 n1 c1) := r0
                have l0d : wr.drew.cell? ⟨G2, k, none⟩ = some (.slice A2 n2 c2) := l0
                go_cut [19, 20] (fun x1 x2 wx => ∃ (B1 : Option Addr) (d1 : Nat) (B2 : Option Addr) (d2 : Nat), x1 = .slice B1 n1 d1 ∧ x2 = .slice B2 n2 d2 ∧ Cells wx B1 (ruleCells RK) ∧ Cells wx B2 (SK.map Value.string) ∧ Below wr.heap.size wr wx)
                case first =>
                  refine wp_region_settles [some 96, some 97, some 98, some 99, some 100, some 101, some 102, some 103, some 104, some 105, some 106, some 19, some 20] (fun w' => w'.cell? ⟨G1, k, none⟩ = some (.slice A1 n1 c1) ∧ w'.cell? ⟨G2, k, none⟩ = some (.slice A2 n2 c2) ∧ Below wr.heap.size wr w')
                    (fun j v w' => match j with
                      | 0 => ∃ G : Nat, v = .slice (some ⟨G, 0, none⟩) 0 0 ∧ w'.heap[G]? = some (.cells #[] 76 (0, 0))
                      | 1 => v = .slice (some ⟨G1, 0, none⟩) 4 4
                      | 2 => v = .int .i64 k
                      | 3 => v = .pointer (some ⟨G1, k, none⟩)
                      | 4 => v = .slice A1 n1 c1
                      | 5 => ∃ (B : Option Addr) (c' : Nat), v = .slice B n1 c' ∧ Cells w' B (ruleCells RK)
                      | 6 => v = .slice (some ⟨G2, 0, none⟩) 4 4
                      | 7 => v = .int .i64 k
                      | 8 => v = .pointer (some ⟨G2, k, none⟩)
                      | 9 => v = .slice A2 n2 c2
                      | 10 => ∃ (B : Option Addr) (c' : Nat), v = .slice B n2 c' ∧ Cells w' B (SK.map Value.string)
                      | 11 => ∃ (B : Option Addr) (c' : Nat), v = .slice B n1 c' ∧ Cells w' B (ruleCells RK)
                      | 12 => ∃ (B : Option Addr) (c' : Nat), v = .slice B n2 c' ∧ Cells w' B (SK.map Value.string)
                      | _ => True) (fun w w' => Below w.heap.size w w') (by kernel_rfl) rfl (by decide +kernel) rfl (by decide +kernel) ⟨r0, l0, (Below.refl _ _).drew⟩ ?_ ?_ ?_
                  · intro j v w' w'' hR hs
                    match j, hs with
                    | 0, hs => obtain ⟨G, h1, h2⟩ := hs; exact ⟨G, h1, (hR.block G (Array.getElem?_eq_some_iff.1 h2).1).trans h2⟩
                    | 1, hs => exact hs
                    | 2, hs => exact hs
                    | 3, hs => exact hs
                    | 4, hs => exact hs
                    | 5, hs => obtain ⟨B, c', h1, h2⟩ := hs; exact ⟨B, c', h1, h2.below hR⟩
                    | 6, hs => exact hs
                    | 7, hs => exact hs
                    | 8, hs => exact hs
                    | 9, hs => exact hs
                    | 10, hs => obtain ⟨B, c', h1, h2⟩ := hs; exact ⟨B, c', h1, h2.below hR⟩
                    | 11, hs => obtain ⟨B, c', h1, h2⟩ := hs; exact ⟨B, c', h1, h2.below hR⟩
                    | 12, hs => obtain ⟨B, c', h1, h2⟩ := hs; exact ⟨B, c', h1, h2.below hR⟩
                    | (_ + 13), _ => trivial
                  · intro i o ho a wv vals hC hdep heval hoth
                    match i, ho with
                    | 0, ho =>
                      obtain rfl := Option.some.inj ho
                      clear hdep heval hoth
                      have hba : Below wv.heap.size wv (wv.alloc (.cells #[] 76)) := (Below.refl _ _).alloc (Nat.le_refl _) _
                      go_simp
                      first | exact ⟨_, rfl, ⟨(hba.cell (World.block_lt_of_cell? _ _ hC.1)).trans hC.1, (hba.cell (World.block_lt_of_cell? _ _ hC.2.1)).trans hC.2.1, hC.2.2.trans (hba.mono hC.2.2.size)⟩, _, rfl, heap_alloc_new wv _⟩ | exact ⟨_, rfl, hba, ⟨(hba.cell (World.block_lt_of_cell? _ _ hC.1)).trans hC.1, (hba.cell (World.block_lt_of_cell? _ _ hC.2.1)).trans hC.2.1, hC.2.2.trans (hba.mono hC.2.2.size)⟩, _, rfl, heap_alloc_new wv _⟩
                    | 1, ho =>
                      obtain rfl := Option.some.inj ho
                      exact wp_move _ rfl ⟨_, rfl, Below.refl _ _, hC, hoth _ (not_in (t := 14) rfl)⟩
                    | 2, ho =>
                      obtain rfl := Option.some.inj ho
                      exact wp_move _ rfl ⟨_, rfl, Below.refl _ _, hC, hoth _ (not_in (t := 18) rfl)⟩
                    | 3, ho =>
                      obtain rfl := Option.some.inj ho
                      have f1 := (heval 1 97 (by decide) rfl (show 97 < 277 from by decide)).trans (hdep 1 (by decide))
                      have f2 := (heval 2 98 (by decide) rfl (show 98 < 277 from by decide)).trans (hdep 2 (by decide))
                      simp only [Act.eval, Array.getD_eq_getD_getElem?] at f1 f2
                      clear hdep heval hoth
                      go_simp
                      first | exact Below.refl _ _ | exact ⟨Below.refl _ _, hC.1, hC.2.1, hC.2.2⟩ | exact ⟨_, rfl, Below.refl _ _, hC, rfl⟩
                    | 4, ho =>
                      obtain rfl := Option.some.inj ho
                      have f1 := (heval 3 99 (by decide) rfl (show 99 < 277 from by decide)).trans (hdep 3 (by decide))
                      simp only [Act.eval, Array.getD_eq_getD_getElem?] at f1
                      clear hdep heval hoth
                      have cl := hC.1
                      go_simp
                      first | exact Below.refl _ _ | exact ⟨Below.refl _ _, hC.1, hC.2.1, hC.2.2⟩ | exact ⟨_, rfl, Below.refl _ _, hC, rfl⟩
                    | 5, ho =>
                      obtain rfl := Option.some.inj ho
                      obtain ⟨G, h0, hG⟩ := hdep 0 (by decide)
                      have f1 := (heval 0 96 (by decide) rfl (show 96 < 277 from by decide)).trans h0
                      have f2 := (heval 4 100 (by decide) rfl (show 100 < 277 from by decide)).trans (hdep 4 (by decide))
                      clear hdep heval hoth
                      have hm1 := M1.out.below hC.2.2
                      refine step_append_lit2 _ _ 41 rfl 76 ri (.agg #[.string ByteArray.empty, .string ByteArray.empty]) 32 Tryz.underlying41 gi gz0 gz1 gz2 rfl G f1 hG A1 n1 c1 (ruleCells RK) f2 (by rw [ruleCells_len, HN1.out]) h01 hm1 (rules_one RK) hb1 (by omega) ?_
                      rintro v' wn ⟨B, c', hv, hcB⟩ hbn
                      exact ⟨_, rfl, hbn, ⟨(hbn.cell (World.block_lt_of_cell? _ _ hC.1)).trans hC.1, (hbn.cell (World.block_lt_of_cell? _ _ hC.2.1)).trans hC.2.1, hC.2.2.trans (hbn.mono hC.2.2.size)⟩, B, c', hv, hcB⟩
                    | 6, ho =>
                      obtain rfl := Option.some.inj ho
                      exact wp_move _ rfl ⟨_, rfl, Below.refl _ _, hC, hoth _ (not_in (t := 15) rfl)⟩
                    | 7, ho =>
                      obtain rfl := Option.some.inj ho
                      exact wp_move _ rfl ⟨_, rfl, Below.refl _ _, hC, hoth _ (not_in (t := 18) rfl)⟩
                    | 8, ho =>
                      obtain rfl := Option.some.inj ho
                      have f1 := (heval 6 102 (by decide) rfl (show 102 < 277 from by decide)).trans (hdep 6 (by decide))
                      have f2 := (heval 7 103 (by decide) rfl (show 103 < 277 from by decide)).trans (hdep 7 (by decide))
                      simp only [Act.eval, Array.getD_eq_getD_getElem?] at f1 f2
                      clear hdep heval hoth
                      go_simp
                      first | exact Below.refl _ _ | exact ⟨Below.refl _ _, hC.1, hC.2.1, hC.2.2⟩ | exact ⟨_, rfl, Below.refl _ _, hC, rfl⟩
                    | 9, ho =>
                      obtain rfl := Option.some.inj ho
                      have f1 := (heval 8 104 (by decide) rfl (show 104 < 277 from by decide)).trans (hdep 8 (by decide))
                      simp only [Act.eval, Array.getD_eq_getD_getElem?] at f1
                      clear hdep heval hoth
                      have cl := hC.2.1
                      go_simp
                      first | exact Below.refl _ _ | exact ⟨Below.refl _ _, hC.1, hC.2.1, hC.2.2⟩ | exact ⟨_, rfl, Below.refl _ _, hC, rfl⟩
                    | 10, ho =>
                      obtain rfl := Option.some.inj ho
                      have f1 := (heval 9 105 (by decide) rfl (show 105 < 277 from by decide)).trans (hdep 9 (by decide))
                      simp only [Act.eval, Array.getD_eq_getD_getElem?] at f1
                      clear hdep heval hoth
                      go_simp
                      refine (Q0.out _ hC.2.2).mono ?_
                      rintro e wn ⟨oo, rfl, hoo, hbn⟩
                      obtain ⟨B, c', rfl⟩ := own_form hoo
                      rw [← HN2.out] at hoo ⊢
                      exact ⟨_, rfl, hbn, ⟨(hbn.cell (World.block_lt_of_cell? _ _ hC.1)).trans hC.1, (hbn.cell (World.block_lt_of_cell? _ _ hC.2.1)).trans hC.2.1, hC.2.2.trans (hbn.mono hC.2.2.size)⟩, B, ⟨c', rfl⟩, cells_own hoo⟩
                    | 11, ho =>
                      obtain rfl := Option.some.inj ho
                      have f1 := heval 5 101 (by decide) rfl (show 101 < 277 from by decide)
                      have f2 := hdep 5 (by decide)
                      exact wp_assign _ rfl ⟨_, rfl, Below.refl _ _, hC, by rw [f1]; exact f2⟩
                    | 12, ho =>
                      obtain rfl := Option.some.inj ho
                      have f1 := heval 10 106 (by decide) rfl (show 106 < 277 from by decide)
                      have f2 := hdep 10 (by decide)
                      exact wp_assign _ rfl ⟨_, rfl, Below.refl _ _, hC, by rw [f1]; exact f2⟩
                    | (_ + 13), ho => cases ho
                  · intro vals wz hCz hv
                    obtain ⟨B1, d1, e1, m1⟩ := hv 11 (show 11 < 13 from by decide)
                    obtain ⟨B2, d2, e2, m2⟩ := hv 12 (show 12 < 13 from by decide)
                    have hz := hCz.2.2
                    clear hv hCz
                    simp only [List.length_cons, List.length_nil, Nat.zero_add, Nat.reduceAdd, fillAll, List.getD_cons_zero, List.getD_cons_succ, Act.put, List.setIfInBounds_toArray, List.set_cons_zero, List.set_cons_succ]
                    rw [e1, e2]
                    clear e1 e2
                    go_wp2_with fail
                    go_meet
                    exact ⟨B1, d1, B2, d2, rfl, rfl, m1, m2, hz⟩
                case rest =>
                  obtain ⟨B1, d1, B2, d2, rfl, rfl, m1, m2, u1⟩ := hcut
                  clear Q0 r0d l0d
                  have t1 := t0.trans (u1.mono t0.size)
                  have r1 := (u1.cell (World.block_lt_of_cell? _ _ r0)).trans r0
                  have l1 := (u1.cell (World.block_lt_of_cell? _ _ l0)).trans l0
                  have i1 := (u1.cell (World.block_lt_of_cell? _ _ i0)).trans i0
                  have z1 := (u1.cell (World.block_lt_of_cell? _ _ z0)).trans z0
                  have N1 := Lib.hid m1
                  have N2 := Lib.hid m2
                  have O1 := Lib.hid (M1.out.below u1)
                  have O2 := Lib.hid (M2.out.below u1)
                  have U1 := Lib.hid u1
                  have hlx : ∀ W, Below wc.heap.size wc W → LaidErr W := fun W h => HLE.out.below (t1.trans (h.mono t1.size))
                  have qa : ∀ W, Below wc.heap.size wc W → Calls Tryz.prog 29 #[.slice B1 n1 d1, .string X, .string Y] W (TwoAns (usesA RK X Y) W) := fun W h => pUses_any B1 n1 d1 RK X Y W (hlx W h) HN1.out SHK.out (N1.out.below h)
                  have qb : ∀ W, Below wc.heap.size wc W → Calls Tryz.prog 30 #[.slice A1 n1 c1, .string X, .string Y] W (TwoAns (usesA RK X Y) W) := fun W h => (usesP_eq RK X Y) ▸ Uses_any A1 n1 c1 RK X Y W HN1.out SHK.out.fine (O1.out.below h)
                  have qc : ∀ W, Below wc.heap.size wc W → Calls Tryz.prog 31 #[.slice B1 n1 d1, .string X, .string Y] W (TwoAns (verdictP RK X Y) W) := fun W h => pVerdict_any B1 n1 d1 RK X Y W (hlx W h) HN1.out SHK.out (N1.out.below h)
                  have qd : ∀ W, Below wc.heap.size wc W → Calls Tryz.prog 32 #[.slice A1 n1 c1, .string X, .string Y] W (TwoAns (verdictP RK X Y) W) := fun W h => Verdict_any A1 n1 c1 RK X Y W HN1.out SHK.out.fine (O1.out.below h)
                  have qe : ∀ W, Below wc.heap.size wc W → Calls Tryz.prog 33 #[.slice B1 n1 d1, .string X, .string Y] W (ChainsPost (chainP RK X Y) W) := fun W h => pChain_any B1 n1 d1 RK X Y W (hlx W h) HN1.out SHK.out (N1.out.below h)
                  have qf : ∀ W, Below wc.heap.size wc W → Calls Tryz.prog 34 #[.slice A1 n1 c1, .string X, .string Y] W (ChainsPost (chainP RK X Y) W) := fun W h => Chain_any A1 n1 c1 RK X Y W HN1.out SHK.out.fine (O1.out.below h)
                  have qg : ∀ W, Below wc.heap.size wc W → Calls Tryz.prog 35 #[.slice B1 n1 d1, .string X, .slice B2 n2 d2] W (NearAns (nearL RK X SK) (nearErr RK X SK) W) := fun W h => pNear_any B1 n1 d1 RK X B2 n2 d2 SK W (hlx W h) HN1.out SHK.out (N1.out.below h) HN2.out (N2.out.below h)
                  have qh : ∀ W, Below wc.heap.size wc W → Calls Tryz.prog 36 #[.slice A1 n1 c1, .string X, .slice A2 n2 c2] W (IntsPost (nearL RK X SK) (nearErr RK X SK) W) := fun W h => Near_any A1 A2 n1 c1 n2 c2 RK X SK W HN1.out SHK.out.fine (O1.out.below h) HN2.out (O2.out.below h)
                  have hCL := chainP_len RK X Y
                  have hNL : (nearL RK X SK).length ≤ 3000 := by
                    have h1 := nearL_len RK X SK
                    have h2 := HN2.out
                    omega
                  unfold TwoAns at qa qb qc qd
                  unfold ChainsPost at qe qf
                  unfold NearAns at qg
                  unfold IntsPost at qh
                  generalize (usesA RK X Y).1 = P1 at *
                  generalize (usesA RK X Y).2 = P2 at *
                  generalize (verdictP RK X Y).1 = P3 at *
                  generalize (verdictP RK X Y).2 = P4 at *
                  generalize (chainP RK X Y).1 = CH at *
                  generalize (chainP RK X Y).2 = P5 at *
                  generalize nearL RK X SK = XS at *
                  generalize nearErr RK X SK = P6 at *
                  have QA := Lib.hid qa
                  have QB := Lib.hid qb
                  have QC := Lib.hid qc
                  have QD := Lib.hid qd
                  have QE := Lib.hid qe
                  have QF := Lib.hid qf
                  have QG := Lib.hid qg
                  have QH := Lib.hid qh
                  clear qa qb qc qd qe qf qg qh hlx u1 m1 m2 r0 l0 i0 z0 M1 M2 h01 h02 SHK
                  obtain ⟨T, g, hg0, hgd, hgb, hgr, hgi, hgz, hT1, hT2, hT3, hT4⟩ : ∃ (T : Type) (g : T → World), (∃ x, wc.drew = g x) ∧ (∀ x, ∃ y, (g x).drew = g y) ∧ (∀ x, Below wc.heap.size wc (g x)) ∧ (∀ x, (g x).cell? ⟨G1, k, none⟩ = some (.slice A1 n1 c1)) ∧ (∀ x, (g x).cell? ⟨G3, k, none⟩ = some (.string X)) ∧ (∀ x, (g x).cell? ⟨G4, k, none⟩ = some (.string Y)) ∧
                      (∀ x, Calls Tryz.prog 29 #[.slice B1 n1 d1, .string X, .string Y] (g x) fun e w' => e = .returned (.tuple #[.int .i64 P1, .int .i64 P2]) ∧ ∃ y, w' = g y) ∧
                      (∀ x, Calls Tryz.prog 30 #[.slice A1 n1 c1, .string X, .string Y] (g x) fun e w' => e = .returned (.tuple #[.int .i64 P1, .int .i64 P2]) ∧ ∃ y, w' = g y) ∧
                      (∀ x, Calls Tryz.prog 31 #[.slice B1 n1 d1, .string X, .string Y] (g x) fun e w' => e = .returned (.tuple #[.int .i64 P3, .int .i64 P4]) ∧ ∃ y, w' = g y) ∧
                      (∀ x, Calls Tryz.prog 32 #[.slice A1 n1 c1, .string X, .string Y] (g x) fun e w' => e = .returned (.tuple #[.int .i64 P3, .int .i64 P4]) ∧ ∃ y, w' = g y) :=
                    ⟨Since wc, Subtype.val, Since.here wc, Since.drew, fun x => x.property, fun x => x.cell r1, fun x => x.cell i1, fun x => x.cell z1, fun x => x.calls (QA.out _ x.property), fun x => x.calls (QB.out _ x.property), fun x => x.calls (QC.out _ x.property), fun x => x.calls (QD.out _ x.property)⟩
                  have hTne : Nonempty T := let ⟨x, _⟩ := hg0; ⟨x⟩
                  have HT1 := Lib.hid hT1
                  have HT2 := Lib.hid hT2
                  have HT3 := Lib.hid hT3
                  have HT4 := Lib.hid hT4
                  have HGB := Lib.hid hgb
                  have HGD := Lib.hid hgd
                  clear hT1 hT2 hT3 hT4 hgb hgd QA QB QC QD
                  go_wp2_with fail
                  refine wp_region_class g hg0 (by kernel_rfl) (by kernel_rfl) ?_
                  repeat (go_big_quiet_step (fail))
                  go_big_quiet_step (exact HT1.out _)
                  repeat (go_big_quiet_step (fail))
                  refine wpQuiet_nil ?_
                  rintro _ ⟨x1, rfl⟩
                  clear hg0
                  go_wp2_with fail
                  refine wp_region_class g (HGD.out x1) (by kernel_rfl) (by kernel_rfl) ?_
                  repeat (go_big_quiet_step (fail))
                  go_big_quiet_step (exact HT2.out _)
                  repeat (go_big_quiet_step (fail))
                  refine wpQuiet_nil ?_
                  rintro _ ⟨x2, rfl⟩
                  go_wp2_with fail
                  refine wp_region_class g (HGD.out x2) (by kernel_rfl) (by kernel_rfl) ?_
                  repeat (go_big_quiet_step (fail))
                  go_big_quiet_step (exact HT3.out _)
                  repeat (go_big_quiet_step (fail))
                  refine wpQuiet_nil ?_
                  rintro _ ⟨x3, rfl⟩
                  go_wp2_with fail
                  refine wp_region_class g (HGD.out x3) (by kernel_rfl) (by kernel_rfl) ?_
                  repeat (go_big_quiet_step (fail))
                  go_big_quiet_step (exact HT4.out _)
                  repeat (go_big_quiet_step (fail))
                  refine wpQuiet_nil ?_
                  rintro _ ⟨x4, rfl⟩
                  have v4b := HGB.out x4
                  clear hgr hgi hgz HT1 HT2 HT3 HT4 HGB HGD
                  generalize g x4 = v4 at *
                  clear hTne x1 x2 x3 x4 g T
                  have i1c : v4.cell? ⟨G3, k, none⟩ = some (.string X) := (v4b.cell (World.block_lt_of_cell? _ _ i1)).trans i1
                  have z1c : v4.cell? ⟨G4, k, none⟩ = some (.string Y) := (v4b.cell (World.block_lt_of_cell? _ _ z1)).trans z1
                  have qq : ∀ W, Below v4.heap.size v4 W → Calls Tryz.prog 33 #[.slice B1 n1 d1, .string X, .string Y] W fun e w' => ∃ o, e = .returned (.tuple #[o, .int .i64 P5]) ∧ w'.ownsRow 0 9 1 o CH.length (CH.map Value.string) ∧ w'.cell? ⟨G3, k, none⟩ = some (.string X) ∧ w'.cell? ⟨G4, k, none⟩ = some (.string Y) ∧ Below v4.heap.size v4 w' := fun W h =>
                    (QE.out W (v4b.trans (h.mono v4b.size))).mono fun e w' ⟨o, he, ho, hb⟩ => by
                      have t := h.trans (hb.mono h.size)
                      exact ⟨o, he, ho.mono (Nat.zero_le _), (t.cell (World.block_lt_of_cell? _ _ i1c)).trans i1c, (t.cell (World.block_lt_of_cell? _ _ z1c)).trans z1c, t⟩
                  have QQ := Lib.hid qq
                  clear qq
                  have e0 : v4.drew.cell? ⟨G3, k, none⟩ = some (.string X) := i1c
                  have e1 : v4.drew.cell? ⟨G4, k, none⟩ = some (.string Y) := z1c
                  have eb : Below v4.heap.size v4 v4.drew := (Below.refl _ _).drew
                  go_wp2_with fail
                  go_region_held3 (fun w' => w'.cell? ⟨G3, k, none⟩ = some (.string X) ∧ w'.cell? ⟨G4, k, none⟩ = some (.string Y) ∧ Below v4.heap.size v4 w')
                    ((refine ⟨(by first | assumption | (go_split_ands; assumption)), (by first | assumption | (go_split_ands; assumption)), (by first | assumption | (go_split_ands; assumption))⟩))
                    (first
                      | (go_at_call 33; refine (QQ.out _ (by go_split_ands; assumption)).mono ?_; rintro e v5 ⟨o_, rfl, ho_, s0, s1, hS_⟩; obtain ⟨Rv5, cv5, rfl⟩ := own_form ho_))
                  have v5b := v4b.trans (hS_.mono v4b.size)
                  have Kv5 := Lib.hid (cells_own ho_)
                  clear ho_ hS_ QQ e0 e1 eb s0 s1 i1c z1c 
                  have r1c : v5.cell? ⟨G1, k, none⟩ = some (.slice A1 n1 c1) := (v5b.cell (World.block_lt_of_cell? _ _ r1)).trans r1
                  have i1c : v5.cell? ⟨G3, k, none⟩ = some (.string X) := (v5b.cell (World.block_lt_of_cell? _ _ i1)).trans i1
                  have z1c : v5.cell? ⟨G4, k, none⟩ = some (.string Y) := (v5b.cell (World.block_lt_of_cell? _ _ z1)).trans z1
                  have qq : ∀ W, Below v5.heap.size v5 W → Calls Tryz.prog 34 #[.slice A1 n1 c1, .string X, .string Y] W fun e w' => ∃ o, e = .returned (.tuple #[o, .int .i64 P5]) ∧ w'.ownsRow 0 9 1 o CH.length (CH.map Value.string) ∧ w'.cell? ⟨G1, k, none⟩ = some (.slice A1 n1 c1) ∧ w'.cell? ⟨G3, k, none⟩ = some (.string X) ∧ w'.cell? ⟨G4, k, none⟩ = some (.string Y) ∧ Below v5.heap.size v5 w' := fun W h =>
                    (QF.out W (v5b.trans (h.mono v5b.size))).mono fun e w' ⟨o, he, ho, hb⟩ => by
                      have t := h.trans (hb.mono h.size)
                      exact ⟨o, he, ho.mono (Nat.zero_le _), (t.cell (World.block_lt_of_cell? _ _ r1c)).trans r1c, (t.cell (World.block_lt_of_cell? _ _ i1c)).trans i1c, (t.cell (World.block_lt_of_cell? _ _ z1c)).trans z1c, t⟩
                  have QQ := Lib.hid qq
                  clear qq
                  have e0 : v5.drew.cell? ⟨G1, k, none⟩ = some (.slice A1 n1 c1) := r1c
                  have e1 : v5.drew.cell? ⟨G3, k, none⟩ = some (.string X) := i1c
                  have e2 : v5.drew.cell? ⟨G4, k, none⟩ = some (.string Y) := z1c
                  have eb : Below v5.heap.size v5 v5.drew := (Below.refl _ _).drew
                  go_wp2_with fail
                  go_region_held3 (fun w' => w'.cell? ⟨G1, k, none⟩ = some (.slice A1 n1 c1) ∧ w'.cell? ⟨G3, k, none⟩ = some (.string X) ∧ w'.cell? ⟨G4, k, none⟩ = some (.string Y) ∧ Below v5.heap.size v5 w')
                    ((refine ⟨(by first | assumption | (go_split_ands; assumption)), (by first | assumption | (go_split_ands; assumption)), (by first | assumption | (go_split_ands; assumption)), (by first | assumption | (go_split_ands; assumption))⟩))
                    (first
                      | (go_at_call 34; refine (QQ.out _ (by go_split_ands; assumption)).mono ?_; rintro e v6 ⟨o_, rfl, ho_, s0, s1, s2, hS_⟩; obtain ⟨Rv6, cv6, rfl⟩ := own_form ho_))
                  have v6b := v5b.trans (hS_.mono v5b.size)
                  have Kv6 := Lib.hid (cells_own ho_)
                  have K5 := Lib.hid (Kv5.out.below hS_)
                  clear ho_ hS_ QQ e0 e1 e2 eb s0 s1 s2 r1c i1c z1c Kv5
                  have i1c : v6.cell? ⟨G3, k, none⟩ = some (.string X) := (v6b.cell (World.block_lt_of_cell? _ _ i1)).trans i1
                  go_wp2_with fail
                  refine (QG.out _ v6b).mono ?_
                  rintro e v7 ⟨B7, c7, rfl, hk7, hb7⟩
                  have v7b := v6b.trans (hb7.mono v6b.size)
                  have K5b := Lib.hid (K5.out.below hb7)
                  have K6b := Lib.hid (Kv6.out.below hb7)
                  have K7 := Lib.hid hk7
                  clear i1c hk7 hb7 K5 Kv6
                  have r1c : v7.cell? ⟨G1, k, none⟩ = some (.slice A1 n1 c1) := (v7b.cell (World.block_lt_of_cell? _ _ r1)).trans r1
                  have i1c : v7.cell? ⟨G3, k, none⟩ = some (.string X) := (v7b.cell (World.block_lt_of_cell? _ _ i1)).trans i1
                  have l1c : v7.cell? ⟨G2, k, none⟩ = some (.slice A2 n2 c2) := (v7b.cell (World.block_lt_of_cell? _ _ l1)).trans l1
                  have qq : ∀ W, Below v7.heap.size v7 W → Calls Tryz.prog 36 #[.slice A1 n1 c1, .string X, .slice A2 n2 c2] W fun e w' => ∃ o, e = .returned (.tuple #[o, .int .i64 P6]) ∧ w'.ownsRow 0 3 1 o XS.length (XS.map (Value.int .i64)) ∧ w'.cell? ⟨G1, k, none⟩ = some (.slice A1 n1 c1) ∧ w'.cell? ⟨G3, k, none⟩ = some (.string X) ∧ w'.cell? ⟨G2, k, none⟩ = some (.slice A2 n2 c2) ∧ Below v7.heap.size v7 w' := fun W h =>
                    (QH.out W (v7b.trans (h.mono v7b.size))).mono fun e w' ⟨o, he, ho, hb⟩ => by
                      have t := h.trans (hb.mono h.size)
                      exact ⟨o, he, ho.mono (Nat.zero_le _), (t.cell (World.block_lt_of_cell? _ _ r1c)).trans r1c, (t.cell (World.block_lt_of_cell? _ _ i1c)).trans i1c, (t.cell (World.block_lt_of_cell? _ _ l1c)).trans l1c, t⟩
                  have QQ := Lib.hid qq
                  clear qq
                  have e0 : v7.drew.cell? ⟨G1, k, none⟩ = some (.slice A1 n1 c1) := r1c
                  have e1 : v7.drew.cell? ⟨G3, k, none⟩ = some (.string X) := i1c
                  have e2 : v7.drew.cell? ⟨G2, k, none⟩ = some (.slice A2 n2 c2) := l1c
                  have eb : Below v7.heap.size v7 v7.drew := (Below.refl _ _).drew
                  go_wp2_with fail
                  go_region_held3 (fun w' => w'.cell? ⟨G1, k, none⟩ = some (.slice A1 n1 c1) ∧ w'.cell? ⟨G3, k, none⟩ = some (.string X) ∧ w'.cell? ⟨G2, k, none⟩ = some (.slice A2 n2 c2) ∧ Below v7.heap.size v7 w')
                    ((refine ⟨(by first | assumption | (go_split_ands; assumption)), (by first | assumption | (go_split_ands; assumption)), (by first | assumption | (go_split_ands; assumption)), (by first | assumption | (go_split_ands; assumption))⟩))
                    (first
                      | (go_at_call 36; refine (QQ.out _ (by go_split_ands; assumption)).mono ?_; rintro e v8 ⟨o_, rfl, ho_, s0, s1, s2, hS_⟩; obtain ⟨Rv8, cv8, rfl⟩ := own_form ho_))
                  have v8b := v7b.trans (hS_.mono v7b.size)
                  have Kv8 := Lib.hid (cells_own ho_)
                  have K5c := Lib.hid (K5b.out.below hS_)
                  have K6c := Lib.hid (K6b.out.below hS_)
                  have K7c := Lib.hid (K7.out.below hS_)
                  clear ho_ hS_ QQ e0 e1 e2 eb s0 s1 s2 r1c i1c l1c K5b K6b K7
                  have z1_ := v8b.size
                  have e1 := EqStrings_any Rv5 Rv6 CH.length CH.length cv5 cv6 CH CH v8 rfl rfl (by omega) K5c.out K6c.out
                  have e2 : ∀ W, Below v8.heap.size v8 W → Calls Tryz.prog 21 #[.slice B7 XS.length c7, .slice Rv8 XS.length cv8] W (EqPost XS XS W) := fun W h => EqInts_any B7 Rv8 XS.length XS.length c7 cv8 XS XS W rfl rfl (by omega) (K7c.out.below h) (Kv8.out.below h)
                  have e3 : ∀ W, Below v8.heap.size v8 W → Calls Tryz.prog 37 #[.slice B1 n1 d1, .slice A1 n1 c1] W (EqPost RK RK W) := fun W h => EqRules_any B1 A1 n1 n1 d1 c1 RK RK W HN1.out HN1.out (by omega) (N1.out.below (v8b.trans (h.mono v8b.size))) (O1.out.below (v8b.trans (h.mono v8b.size)))
                  have e4 : ∀ W, Below v8.heap.size v8 W → Calls Tryz.prog 26 #[.slice B2 n2 d2, .slice A2 n2 c2] W (EqPost SK SK W) := fun W h => EqStrings_any B2 A2 n2 n2 d2 c2 SK SK W HN2.out HN2.out (by omega) (N2.out.below (v8b.trans (h.mono v8b.size))) (O2.out.below (v8b.trans (h.mono v8b.size)))
                  have E1 := Lib.hid e1
                  have E2 := Lib.hid e2
                  have E3 := Lib.hid e3
                  have E4 := Lib.hid e4
                  have r8 : v8.cell? ⟨G1, k, none⟩ = some (.slice A1 n1 c1) := (v8b.cell (World.block_lt_of_cell? _ _ r1)).trans r1
                  have l8 : v8.cell? ⟨G2, k, none⟩ = some (.slice A2 n2 c2) := (v8b.cell (World.block_lt_of_cell? _ _ l1)).trans l1
                  clear e1 e2 e3 e4 K5c K6c K7c Kv8 QE QF QG QH N1 N2 O1 O2 r1 l1 i1 z1
                  go_wp2_with fail
                  refine E1.out.mono ?_
                  rintro e v9 ⟨rfl, n9, rfl⟩
                  rw [show decide (CH = CH) = true from by simp]
                  have h9 := Drew.below (w' := v8.drewN n9) ⟨n9, rfl⟩ v8.heap.size
                  go_wp2_with fail
                  refine (E2.out _ h9).mono ?_
                  rintro e v10 ⟨rfl, n10, rfl⟩
                  rw [show decide (XS = XS) = true from by simp, World.drewN_drewN]
                  have h10 := Drew.below (w' := v8.drewN (n9 + n10)) ⟨_, rfl⟩ v8.heap.size
                  have r10 : (v8.drewN (n9 + n10)).cell? ⟨G1, k, none⟩ = some (.slice A1 n1 c1) := by simpa using r8
                  go_wp2_with fail
                  refine (E3.out _ h10).mono ?_
                  rintro e v11 ⟨rfl, n11, rfl⟩
                  rw [show decide (RK = RK) = true from by simp, World.drewN_drewN]
                  have h11 := Drew.below (w' := v8.drewN (n9 + n10 + n11)) ⟨_, rfl⟩ v8.heap.size
                  have l11 : (v8.drewN (n9 + n10 + n11)).cell? ⟨G2, k, none⟩ = some (.slice A2 n2 c2) := by simpa using l8
                  go_wp2_with fail
                  refine (E4.out _ h11).mono ?_
                  rintro e v12 ⟨rfl, n12, rfl⟩
                  rw [show decide (SK = SK) = true from by simp, World.drewN_drewN]
                  have h12 := Drew.below (w' := v8.drewN (n9 + n10 + n11 + n12)) ⟨_, rfl⟩ v8.heap.size
                  have t8 := U1.out.trans ((v8b.trans (h12.mono v8b.size)).mono U1.out.size)
                  go_wp2
                  go_roundw
                  case rel => exact ⟨k + 1, by omega, by go_num, t0.trans (t8.mono t0.size), RR.out.below t8, SS.out.below t8, AA.out.below t8, BB.out.below t8⟩
                  case measure => simp [intOf]; omega
          ·   go_wp2_with fail
              refine (spelling_at _ t0).mono ?_
              rintro e wz ⟨rfl, hbz⟩
              go_wp2
              go_ret
              exact ⟨rfl, hbz⟩
            end Go.Proofs.YtlhiekeolmgilaaGreatDoor
