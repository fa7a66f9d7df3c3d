/- Names, keys and names of the other alphabet: the first statement's walk. -/
import Derived.Test.YtapagncaadjiaaaGreatDoorLawB0
import Derived.Test.YtapagncaadjiaaaGreatDoorKitD
import Derived.Test.YtapagncaadjiaaaGreatDoorPgZ
namespace Go.Proofs.YtapagncaadjiaaaGreatDoor
open Go.RowKit

theorem long_one (s : ByteArray) : longB [] [s] = decide (20 < s.size) := by
  rw [longB_eq]; simp [strLong]

set_option maxRecDepth 100000 in
set_option maxHeartbeats 3200000 in
theorem NameKeys_any (s : ByteArray) (A : Option Addr) (n c : Nat) (w : World) (hL : LaidErr w) (hn : n ≤ 1000000000000000000) (hx : NumsIn w A n) :
    Calls Tryz.prog 3 #[.string s, .slice A n c] w (TruePost w) := by
  have HX := Lib.hid hx
  have HLE := Lib.hid hL
  clear hL
  have c1 : Cells (w.alloc (.cells #[.string s] 9)) (some ⟨w.heap.size, 0, none⟩) (([s] : List ByteArray).map Value.string) := cells_lit w _ 9 1 rfl (by unfold maxLen; omega)
  have b1 : Below w.heap.size w (w.alloc (.cells #[.string s] 9)) := (Below.refl _ _).alloc (Nat.le_refl _) _
  have q1 := long_any none _ 0 0 1 1 [] [s] (w.alloc (.cells #[.string s] 9)) rfl rfl (by decide) (by decide) (fun r h => by cases h) (fun i h => by cases h) c1
  have Q1 := Lib.hid q1
  clear hx c1 q1
  by_cases hl : 20 < s.size
  · have e1 : longB [] [s] = true := by rw [long_one]; exact decide_eq_true hl
    go_enter Tryz.func3, Tryz.ntmps3
    go_wp2_with fail
    refine Q1.out.mono ?_
    rintro e w1 ⟨rfl, hd⟩
    rw [e1]
    have b2 := b1.trans (Drew.below hd w.heap.size)
    clear e1 hd
    go_wp2_with fail
    refine (spelling_at _ b2).mono ?_
    rintro e w2 ⟨rfl, hb⟩
    go_wp2
    go_ret
    exact ⟨rfl, hb⟩
  · have e1 : longB [] [s] = false := by rw [long_one]; exact decide_eq_false hl
    go_enter Tryz.func3, Tryz.ntmps3
    go_wp2_with fail
    refine Q1.out.mono ?_
    rintro e w1 ⟨rfl, hd⟩
    rw [e1]
    have b2 := b1.trans (Drew.below hd w.heap.size)
    clear e1 hd b1 Q1
    go_wp2_with fail
    refine (NewDice_any A n c _ hn (HX.out.below b2)).mono ?_
    rintro e w2 ⟨rfl, hd2, hb2⟩
    have b3 := b2.trans (hb2.mono b2.size)
    have hD : w.heap.size ≤ w1.heap.size := b2.size
    generalize w1.heap.size = D at *
    clear b2 hb2
    go_wp2_with fail
    refine (NameOf_any D _ 6 _ hd2 (by decide) (by decide)).mono ?_
    rintro e w3 ⟨s1, rfl, hs1, hs1', hl1, hd3, hg3⟩
    have b4 := b3.grown hg3 b3.size fun k hk => by cases hk; exact hD
    clear hl1 hd2 hg3 b3
    go_wp2_with fail
    refine (NameOf_any D _ 3 _ hd3 (by decide) (by decide)).mono ?_
    rintro e w4 ⟨s2, rfl, hs2, hs2', hl2, hd4, hg4⟩
    have b5 := b4.grown hg4 b4.size fun k hk => by cases hk; exact hD
    clear hl2 hd3 hg4 b4
    go_wp2_with fail
    refine (NameOf_any D _ 6 _ hd4 (by decide) (by decide)).mono ?_
    rintro e w5 ⟨s3, rfl, hs3, hs3', hl3, hd5, hg5⟩
    have b6 := b5.grown hg5 b5.size fun k hk => by cases hk; exact hD
    clear hl3 hd4 hg5 b5
    have i7 : ¬ (9223372036854775807 < s3.size + s.size) := by omega
    have i8 : s3.size + s.size ≤ 9223372036854775807 := by omega
    have c6 : Cells (w5.alloc (.cells #[.string s, .string s1, .string s2, .string (s3 ++ s)] 9)) (some ⟨w5.heap.size, 0, none⟩) (([s, s1, s2, s3 ++ s] : List ByteArray).map Value.string) :=
      cells_lit w5 _ 9 4 rfl (by unfold maxLen; omega)
    have b7 := b6.alloc (o := .cells #[.string s, .string s1, .string s2, .string (s3 ++ s)] 9) b6.size
    have hLn : ([s, s1, s2, s3 ++ s] : List ByteArray).length = 4 := rfl
    generalize hLs : ([s, s1, s2, s3 ++ s] : List ByteArray) = L at *
    have C6 := Lib.hid c6
    have HL := Lib.hid hLn
    clear b6 hLs c6 hLn hd5 hs1 hs1' hs2 hs2' hs3
    go_wp2_with fail
    go_loopw [7, 8, 9, 10, 11, 12, 13, 14, 15] (fun i _ _ _ _ _ _ _ _ wr => ∃ k : Nat, k ≤ 4 ∧ i = .int .i64 k ∧ Below w.heap.size w wr ∧ Cells wr (some ⟨w5.heap.size, 0, none⟩) (L.map Value.string)) (fun i _ _ _ _ _ _ _ _ _ => 4 - (intOf i).toNat)
    case atStart => exact ⟨0, Nat.zero_le _, rfl, b7, C6.out⟩
    case round =>
      obtain ⟨k, hk, rfl, hb, hc⟩ := hrel
      have HC := Lib.hid hc
      clear hc b7
      by_cases hlt : k < 4
      · have hkl : k < L.length := by rw [HL.out]; exact hlt
        obtain ⟨bb, oo, hv, c0⟩ := HC.out.str k hkl
        injection hv with hv
        injection hv with hv1 hv2
        subst hv1 hv2
        rw [Nat.zero_add] at c0
        generalize hX : L[k] = X at *
        have j5 : (0 : Int) ≤ (k : Int) := by omega
        have j6 : (k : Int) < 4 := by omega
        have q1 : ∀ W, LaidErr W → Calls Tryz.prog 19 #[.string X] W fun e w' => e = .returned (.tuple #[str (Sp.keyR X.data.toList), .int .i64 (Sp.check X.data.toList)]) ∧ Below W.heap.size W w' := fun W h => pKey_any X W h
        have q2 : ∀ W, Calls Tryz.prog 20 #[.string X] W fun e w' => e = .returned (.tuple #[str (Sp.keyR X.data.toList), .int .i64 (Sp.check X.data.toList)]) ∧ Below W.heap.size W w' := Key_any X
        have q3 : ∀ W, LaidErr W → Calls Tryz.prog 21 #[.string X] W fun e w' => e = .returned (.tuple #[.string (otherP X).1, .int .i64 (otherP X).2]) ∧ Below W.heap.size W w' := fun W h => pOther_any X W h
        have q4 : ∀ W, Calls Tryz.prog 22 #[.string X] W fun e w' => e = .returned (.tuple #[.string (otherP X).1, .int .i64 (otherP X).2]) ∧ Below W.heap.size W w' := Other_any X
        have q5 : ∀ W, LaidErr W → Calls Tryz.prog 23 #[.string X] W fun e w' => e = .returned (.int .i64 (Sp.check X.data.toList)) ∧ Below W.heap.size W w' := fun W h => pCheck_any X W h
        have q6 : ∀ W, Calls Tryz.prog 24 #[.string X] W fun e w' => e = .returned (.int .i64 (Sp.check X.data.toList)) ∧ Below W.heap.size W w' := Check_any X
        generalize Sp.keyR X.data.toList = KK at *
        generalize Sp.check X.data.toList = CC at *
        generalize (otherP X).1 = OO at *
        generalize (otherP X).2 = EE at *
        have Q1 := Lib.hid q1
        have Q2 := Lib.hid q2
        have Q3 := Lib.hid q3
        have Q4 := Lib.hid q4
        have Q5 := Lib.hid q5
        have Q6 := Lib.hid q6
        clear hX q1 q2 q3 q4 q5 q6
        go_wp2_with fail
        refine (Q1.out _ (HLE.out.below hb)).mono ?_
        rintro e v1 ⟨rfl, h1⟩
        have c1 := (h1.cell (World.block_lt_of_cell? _ _ c0)).trans c0
        have t1 := hb.trans (h1.mono hb.size)
        have C1 := Lib.hid (HC.out.below h1)
        clear c0 h1 hb HC
        go_wp2_with fail
        refine (Q2.out _).mono ?_
        rintro e v2 ⟨rfl, h2⟩
        have c2 := (h2.cell (World.block_lt_of_cell? _ _ c1)).trans c1
        have t2 := t1.trans (h2.mono t1.size)
        have C2 := Lib.hid (C1.out.below h2)
        clear c1 h2 t1 C1
        go_wp2_with fail
        refine (Q3.out _ (HLE.out.below t2)).mono ?_
        rintro e v3 ⟨rfl, h3⟩
        have c3 := (h3.cell (World.block_lt_of_cell? _ _ c2)).trans c2
        have t3 := t2.trans (h3.mono t2.size)
        have C3 := Lib.hid (C2.out.below h3)
        clear c2 h3 t2 C2
        go_wp2_with fail
        refine (Q4.out _).mono ?_
        rintro e v4 ⟨rfl, h4⟩
        have c4 := (h4.cell (World.block_lt_of_cell? _ _ c3)).trans c3
        have t4 := t3.trans (h4.mono t3.size)
        have C4 := Lib.hid (C3.out.below h4)
        clear c3 h4 t3 C3
        go_wp2_with fail
        obtain ⟨T, g, hg0, hgb, hgx, hT, hS⟩ : ∃ (T : Type) (g : T → World), (∃ x, v4.drew = g x) ∧ (∀ x, Below v4.heap.size v4 (g x)) ∧ (∀ x, (g x).cell? ⟨w5.heap.size, k, none⟩ = some (.string X)) ∧
            (∀ x, Calls Tryz.prog 23 #[.string X] (g x) fun e w' => e = .returned (.int .i64 CC) ∧ ∃ y, w' = g y) ∧
            (∀ x, Calls Tryz.prog 24 #[.string X] (g x) fun e w' => e = .returned (.int .i64 CC) ∧ ∃ y, w' = g y) :=
          ⟨Since v4, Subtype.val, Since.here v4, fun x => x.property, fun x => x.cell c4, fun x => x.calls (Q5.out _ (HLE.out.below (t4.trans (x.property.mono t4.size)))), fun x => x.calls (Q6.out _)⟩
        have hTne : Nonempty T := let ⟨x, _⟩ := hg0; ⟨x⟩
        have HT1 := Lib.hid hT
        have HS1 := Lib.hid hS
        clear hT hS c4 Q1 Q2 Q3 Q4 Q5 Q6
        refine wp_region_class g hg0 (by kernel_rfl) (by kernel_rfl) ?_
        repeat (go_big_quiet_step (fail))
        go_big_quiet_step (exact HT1.out _)
        repeat (go_big_quiet_step (fail))
        go_big_quiet_step (exact HS1.out _)
        repeat (go_big_quiet_step (fail))
        refine wpQuiet_nil ?_
        rintro _ ⟨xq, rfl⟩
        have hbq := hgb xq
        have C5 := Lib.hid (C4.out.below hbq)
        have t5 := t4.trans (hbq.mono t4.size)
        clear C4 t4 hgb hgx hg0
        go_wp2_with fail
        go_roundw
        case rel => exact ⟨k + 1, by omega, by go_num, t5, C5.out⟩
        case measure => simp [intOf]; omega
      · go_wp2_with fail
        refine (spelling_at _ hb).mono ?_
        rintro e wz ⟨rfl, hbz⟩
        go_wp2
        go_ret
        exact ⟨rfl, hbz⟩
end Go.Proofs.YtapagncaadjiaaaGreatDoor
