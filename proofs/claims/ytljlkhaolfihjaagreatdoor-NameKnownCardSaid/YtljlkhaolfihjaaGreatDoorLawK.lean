/- The chapter's examples have the results given there: the walk. -/
import Derived.Test.YtljlkhaolfihjaaGreatDoorSpecK
import Derived.Test.YtljlkhaolfihjaaGreatDoorLawC0
import Derived.Test.YtljlkhaolfihjaaGreatDoorPgNs
import Derived.Deep.CutRange
namespace Go.Proofs.YtljlkhaolfihjaaGreatDoor
open Go.RowKit Go.Shelf

set_option maxRecDepth 100000 in
set_option maxHeartbeats 25600000 in
theorem NameKnown_any (w : World) (hL : LaidErr w) : Calls Tryz.prog 4 #[] w (TruePost w) := by
  have HLE := Lib.hid hL
  have b00 : Below w.heap.size w w := Below.refl _ _
  clear hL
  have CA0 : Cells ((w.alloc (.cells #[.string ⟨#[99, 104, 97, 100]⟩, .string ⟨#[67, 65, 68]⟩, .string ⟨#[67, 97, 68]⟩, .string ⟨#[72, 65, 84]⟩, .string ⟨#[]⟩, .string ⟨#[99, 104, 97, 100, 119, 105, 107]⟩] 9)).alloc (.cells #[.int .i64 0, .int .i64 0, .int .i64 2, .int .i64 2, .int .i64 7, .int .i64 10] 29)) (some ⟨w.heap.size, 0, none⟩) (kn1.map Value.string) := by
    have h := cells_lit w #[.string ⟨#[99, 104, 97, 100]⟩, .string ⟨#[67, 65, 68]⟩, .string ⟨#[67, 97, 68]⟩, .string ⟨#[72, 65, 84]⟩, .string ⟨#[]⟩, .string ⟨#[99, 104, 97, 100, 119, 105, 107]⟩] 9 6 rfl (by unfold maxLen; omega)
    skip
    exact Cells.below h ((Below.refl _ _).alloc (by first | exact Nat.le_refl _ | (simp; done) | (simp; omega)) _)
  have CA := Lib.hid CA0
  clear CA0
  have CB0 : Cells ((w.alloc (.cells #[.string ⟨#[99, 104, 97, 100]⟩, .string ⟨#[67, 65, 68]⟩, .string ⟨#[67, 97, 68]⟩, .string ⟨#[72, 65, 84]⟩, .string ⟨#[]⟩, .string ⟨#[99, 104, 97, 100, 119, 105, 107]⟩] 9)).alloc (.cells #[.int .i64 0, .int .i64 0, .int .i64 2, .int .i64 2, .int .i64 7, .int .i64 10] 29)) (some ⟨w.heap.size + 1, 0, none⟩) (kd1.map (Value.int .i64)) := by
    have h := cells_lit (w.alloc (.cells #[.string ⟨#[99, 104, 97, 100]⟩, .string ⟨#[67, 65, 68]⟩, .string ⟨#[67, 97, 68]⟩, .string ⟨#[72, 65, 84]⟩, .string ⟨#[]⟩, .string ⟨#[99, 104, 97, 100, 119, 105, 107]⟩] 9)) #[.int .i64 0, .int .i64 0, .int .i64 2, .int .i64 2, .int .i64 7, .int .i64 10] 29 6 rfl (by unfold maxLen; omega)
    simp only [World.size_alloc] at h
    exact Cells.below h (Below.refl _ _)
  have CB := Lib.hid CB0
  clear CB0
  have hbW0 : Below w.heap.size w ((w.alloc (.cells #[.string ⟨#[99, 104, 97, 100]⟩, .string ⟨#[67, 65, 68]⟩, .string ⟨#[67, 97, 68]⟩, .string ⟨#[72, 65, 84]⟩, .string ⟨#[]⟩, .string ⟨#[99, 104, 97, 100, 119, 105, 107]⟩] 9)).alloc (.cells #[.int .i64 0, .int .i64 0, .int .i64 2, .int .i64 2, .int .i64 7, .int .i64 10] 29)) := (((Below.refl _ _).alloc (by first | exact Nat.le_refl _ | (simp; done) | (simp; omega)) _).alloc (by first | exact Nat.le_refl _ | (simp; done) | (simp; omega)) _)
  have bW0 := b00.trans (hbW0.mono b00.size)
  clear hbW0
  go_enter Tryz.func4, Tryz.ntmps4
  go_wp2_with fail
  generalize ((w.alloc (.cells #[.string ⟨#[99, 104, 97, 100]⟩, .string ⟨#[67, 65, 68]⟩, .string ⟨#[67, 97, 68]⟩, .string ⟨#[72, 65, 84]⟩, .string ⟨#[]⟩, .string ⟨#[99, 104, 97, 100, 119, 105, 107]⟩] 9)).alloc (.cells #[.int .i64 0, .int .i64 0, .int .i64 2, .int .i64 2, .int .i64 7, .int .i64 10] 29)) = W0 at *
  go_loopw [3] (fun i wr => ∃ k : Nat, k ≤ 6 ∧ i = .int .i64 k ∧ Below W0.heap.size W0 wr) (fun i _ => 6 - (intOf i).toNat)
  case atStart => exact ⟨0, by omega, rfl, Below.refl _ _⟩
  case round =>
    obtain ⟨k, hk, rfl, t0⟩ := hrel
    have b1 := bW0.trans (t0.mono bW0.size)
    by_cases hlt : k < 6
    · have x1 : k < kn1.length := hlt
      have x2 : k < kd1.length := hlt
      obtain ⟨p1, q1, hv, c1⟩ := (CA.out.below t0).str k x1
      injection hv with hv
      injection hv with hv1 hv2
      subst hv1 hv2
      rw [Nat.zero_add] at c1
      obtain ⟨p1, q1, hv, c2⟩ := (CB.out.below t0).int k x2
      injection hv with hv
      injection hv with hv1 hv2
      subst hv1 hv2
      rw [Nat.zero_add] at c2
      have j5 : (0 : Int) ≤ (k : Int) := by omega
      have j6 : (k : Int) < 6 := by omega
      have hf := known1 k x1 x2
      have q := fun W (hW : Below wr.heap.size wr W) => pCheck_any (kn1[k]'x1) W (HLE.out.below (b1.trans (hW.mono b1.size)))
      unfold CheckAns at q
      rw [hf] at q
      generalize kn1[k]'x1 = X at *
      generalize kd1[k]'x2 = Dv at *
      have hne : (Dv != Dv) = false := by simp
      clear hf
      obtain ⟨T_, g, hg0, hgb, hT, hgl0, hgl1⟩ : ∃ (T_ : Type) (g : T_ → World), (∃ x, wr.drew = g x) ∧ (∀ x, Below wr.heap.size wr (g x)) ∧ (∀ x, Calls Tryz.prog 23 #[.string X] (g x) fun e w' => e = .returned (.int .i64 Dv) ∧ ∃ y, w' = g y) ∧ (∀ x, (g x).cell? ⟨w.heap.size, k, none⟩ = some (.string X)) ∧ (∀ x, (g x).cell? ⟨w.heap.size + 1, k, none⟩ = some (.int .i64 Dv)) :=
        ⟨Since wr, Subtype.val, Since.here wr, fun x => x.property, fun x => x.calls (q _ x.property), fun x => x.cell c1, fun x => x.cell c2⟩
      have hTne : Nonempty T_ := let ⟨x, _⟩ := hg0; ⟨x⟩
      have HT1 := Lib.hid hT
      clear hT q
      go_wp2_with fail
      refine wp_region_class g hg0 (by kernel_rfl) (by kernel_rfl) ?_
      repeat (go_big_quiet_step (fail))
      go_big_quiet_step (exact HT1.out _)
      repeat (go_big_quiet_step (fail))
      refine wpQuiet_nil ?_
      rintro _ ⟨xq, rfl⟩
      have hbq := hgb xq
      have t1 := t0.trans (hbq.mono t0.size)
      generalize g xq = W1 at *
      clear hgb hg0 hgl0 hgl1 HT1
      go_wp2_with fail
      go_roundw
      case rel => exact ⟨k + 1, by omega, by go_num, t1⟩
      case measure => simp [intOf]; omega
    · skip
      have b2 := b1
      clear b1 CA CB
      generalize wr = X1 at *
      clear t0
      have CC0 : Cells ((X1.alloc (.cells #[.string ⟨#[89, 78]⟩, .string ⟨#[74, 82, 73]⟩, .string ⟨#[88, 65, 86]⟩] 9)).alloc (.cells #[.string ⟨#[106, 97, 110]⟩, .string ⟨#[106, 117, 114, 105]⟩, .string ⟨#[115, 104, 97, 118]⟩] 9)) (some ⟨X1.heap.size, 0, none⟩) (kn2.map Value.string) := by
        have h := cells_lit X1 #[.string ⟨#[89, 78]⟩, .string ⟨#[74, 82, 73]⟩, .string ⟨#[88, 65, 86]⟩] 9 3 rfl (by unfold maxLen; omega)
        skip
        exact Cells.below h ((Below.refl _ _).alloc (by first | exact Nat.le_refl _ | (simp; done) | (simp; omega)) _)
      have CC := Lib.hid CC0
      clear CC0
      have CD0 : Cells ((X1.alloc (.cells #[.string ⟨#[89, 78]⟩, .string ⟨#[74, 82, 73]⟩, .string ⟨#[88, 65, 86]⟩] 9)).alloc (.cells #[.string ⟨#[106, 97, 110]⟩, .string ⟨#[106, 117, 114, 105]⟩, .string ⟨#[115, 104, 97, 118]⟩] 9)) (some ⟨X1.heap.size + 1, 0, none⟩) (kk2.map Value.string) := by
        have h := cells_lit (X1.alloc (.cells #[.string ⟨#[89, 78]⟩, .string ⟨#[74, 82, 73]⟩, .string ⟨#[88, 65, 86]⟩] 9)) #[.string ⟨#[106, 97, 110]⟩, .string ⟨#[106, 117, 114, 105]⟩, .string ⟨#[115, 104, 97, 118]⟩] 9 3 rfl (by unfold maxLen; omega)
        simp only [World.size_alloc] at h
        exact Cells.below h (Below.refl _ _)
      have CD := Lib.hid CD0
      clear CD0
      have hbW2 : Below X1.heap.size X1 ((X1.alloc (.cells #[.string ⟨#[89, 78]⟩, .string ⟨#[74, 82, 73]⟩, .string ⟨#[88, 65, 86]⟩] 9)).alloc (.cells #[.string ⟨#[106, 97, 110]⟩, .string ⟨#[106, 117, 114, 105]⟩, .string ⟨#[115, 104, 97, 118]⟩] 9)) := (((Below.refl _ _).alloc (by first | exact Nat.le_refl _ | (simp; done) | (simp; omega)) _).alloc (by first | exact Nat.le_refl _ | (simp; done) | (simp; omega)) _)
      have bW2 := b2.trans (hbW2.mono b2.size)
      clear hbW2
      go_wp2_with fail
      generalize ((X1.alloc (.cells #[.string ⟨#[89, 78]⟩, .string ⟨#[74, 82, 73]⟩, .string ⟨#[88, 65, 86]⟩] 9)).alloc (.cells #[.string ⟨#[106, 97, 110]⟩, .string ⟨#[106, 117, 114, 105]⟩, .string ⟨#[115, 104, 97, 118]⟩] 9)) = W2 at *
      go_loopw [5] (fun i wr => ∃ k : Nat, k ≤ 3 ∧ i = .int .i64 k ∧ Below W2.heap.size W2 wr) (fun i _ => 3 - (intOf i).toNat)
      case atStart => exact ⟨0, by omega, rfl, Below.refl _ _⟩
      case round =>
        obtain ⟨k, hk, rfl, t0⟩ := hrel
        have b1 := bW2.trans (t0.mono bW2.size)
        by_cases hlt : k < 3
        · have x1 : k < kn2.length := hlt
          have x2 : k < kk2.length := hlt
          obtain ⟨p1, q1, hv, c1⟩ := (CC.out.below t0).str k x1
          injection hv with hv
          injection hv with hv1 hv2
          subst hv1 hv2
          rw [Nat.zero_add] at c1
          obtain ⟨p1, q1, hv, c2⟩ := (CD.out.below t0).str k x2
          injection hv with hv
          injection hv with hv1 hv2
          subst hv1 hv2
          rw [Nat.zero_add] at c2
          have j5 : (0 : Int) ≤ (k : Int) := by omega
          have j6 : (k : Int) < 3 := by omega
          have hf := known2 k x1 x2
          have q := pKey_any (kn2[k]'x1) wr (HLE.out.below b1)
          unfold KeyPost str at q
          rw [hf.1, hf.2] at q
          generalize kn2[k]'x1 = X at *
          generalize kk2[k]'x2 = Y at *
          have hs : (Y.toList == Y.toList) = true := by simp
          have hs2 : (Y.toList != Y.toList) = false := by simp
          have Q := Lib.hid q
          clear hf q
          go_wp2_with fail
          refine Q.out.mono ?_
          rintro e w9 ⟨rfl, hb9⟩
          have t1 := t0.trans (hb9.mono t0.size)
          have c3 := (hb9.cell (World.block_lt_of_cell? _ _ c2)).trans c2
          generalize w9 = W9 at *
          go_wp2_with fail
          go_roundw
          case rel => exact ⟨k + 1, by omega, by go_num, t1⟩
          case measure => simp [intOf]; omega
        · skip
          have b3 := b1
          clear b1 CC CD
          generalize wr = X2 at *
          clear t0
          have CE0 : Cells ((X2.alloc (.cells #[.string ⟨#[99, 104, 97, 100]⟩, .string ⟨#[106, 97, 110]⟩, .string ⟨#[67, 65, 68]⟩] 9)).alloc (.cells #[.string ⟨#[67, 65, 68]⟩, .string ⟨#[89, 78]⟩, .string ⟨#[67, 65, 68]⟩] 9)) (some ⟨X2.heap.size, 0, none⟩) (kn3.map Value.string) := by
            have h := cells_lit X2 #[.string ⟨#[99, 104, 97, 100]⟩, .string ⟨#[106, 97, 110]⟩, .string ⟨#[67, 65, 68]⟩] 9 3 rfl (by unfold maxLen; omega)
            skip
            exact Cells.below h ((Below.refl _ _).alloc (by first | exact Nat.le_refl _ | (simp; done) | (simp; omega)) _)
          have CE := Lib.hid CE0
          clear CE0
          have CF0 : Cells ((X2.alloc (.cells #[.string ⟨#[99, 104, 97, 100]⟩, .string ⟨#[106, 97, 110]⟩, .string ⟨#[67, 65, 68]⟩] 9)).alloc (.cells #[.string ⟨#[67, 65, 68]⟩, .string ⟨#[89, 78]⟩, .string ⟨#[67, 65, 68]⟩] 9)) (some ⟨X2.heap.size + 1, 0, none⟩) (kk3.map Value.string) := by
            have h := cells_lit (X2.alloc (.cells #[.string ⟨#[99, 104, 97, 100]⟩, .string ⟨#[106, 97, 110]⟩, .string ⟨#[67, 65, 68]⟩] 9)) #[.string ⟨#[67, 65, 68]⟩, .string ⟨#[89, 78]⟩, .string ⟨#[67, 65, 68]⟩] 9 3 rfl (by unfold maxLen; omega)
            simp only [World.size_alloc] at h
            exact Cells.below h (Below.refl _ _)
          have CF := Lib.hid CF0
          clear CF0
          have hbW3 : Below X2.heap.size X2 ((X2.alloc (.cells #[.string ⟨#[99, 104, 97, 100]⟩, .string ⟨#[106, 97, 110]⟩, .string ⟨#[67, 65, 68]⟩] 9)).alloc (.cells #[.string ⟨#[67, 65, 68]⟩, .string ⟨#[89, 78]⟩, .string ⟨#[67, 65, 68]⟩] 9)) := (((Below.refl _ _).alloc (by first | exact Nat.le_refl _ | (simp; done) | (simp; omega)) _).alloc (by first | exact Nat.le_refl _ | (simp; done) | (simp; omega)) _)
          have bW3 := b3.trans (hbW3.mono b3.size)
          clear hbW3
          go_wp2_with fail
          generalize ((X2.alloc (.cells #[.string ⟨#[99, 104, 97, 100]⟩, .string ⟨#[106, 97, 110]⟩, .string ⟨#[67, 65, 68]⟩] 9)).alloc (.cells #[.string ⟨#[67, 65, 68]⟩, .string ⟨#[89, 78]⟩, .string ⟨#[67, 65, 68]⟩] 9)) = W3 at *
          go_loopw [8] (fun i wr => ∃ k : Nat, k ≤ 3 ∧ i = .int .i64 k ∧ Below W3.heap.size W3 wr) (fun i _ => 3 - (intOf i).toNat)
          case atStart => exact ⟨0, by omega, rfl, Below.refl _ _⟩
          case round =>
            obtain ⟨k, hk, rfl, t0⟩ := hrel
            have b1 := bW3.trans (t0.mono bW3.size)
            by_cases hlt : k < 3
            · have x1 : k < kn3.length := hlt
              have x2 : k < kk3.length := hlt
              obtain ⟨p1, q1, hv, c1⟩ := (CE.out.below t0).str k x1
              injection hv with hv
              injection hv with hv1 hv2
              subst hv1 hv2
              rw [Nat.zero_add] at c1
              obtain ⟨p1, q1, hv, c2⟩ := (CF.out.below t0).str k x2
              injection hv with hv
              injection hv with hv1 hv2
              subst hv1 hv2
              rw [Nat.zero_add] at c2
              have j5 : (0 : Int) ≤ (k : Int) := by omega
              have j6 : (k : Int) < 3 := by omega
              have hf := known3 k x1 x2
              have q := pOther_any (kn3[k]'x1) wr (HLE.out.below b1)
              unfold StrErrPost at q
              rw [hf] at q
              dsimp only at q
              generalize kn3[k]'x1 = X at *
              generalize kk3[k]'x2 = Y at *
              have hs : (Y.toList == Y.toList) = true := by simp
              have hs2 : (Y.toList != Y.toList) = false := by simp
              have Q := Lib.hid q
              clear hf q
              go_wp2_with fail
              refine Q.out.mono ?_
              rintro e w9 ⟨rfl, hb9⟩
              have t1 := t0.trans (hb9.mono t0.size)
              have c3 := (hb9.cell (World.block_lt_of_cell? _ _ c2)).trans c2
              generalize w9 = W9 at *
              go_wp2_with fail
              go_roundw
              case rel => exact ⟨k + 1, by omega, by go_num, t1⟩
              case measure => simp [intOf]; omega
            · skip
              have b4 := b1
              clear b1 CE CF
              generalize wr = X3 at *
              clear t0
              have CG0 : Cells (((X3.alloc (.cells #[.string ⟨#[99, 104, 97, 100]⟩, .string ⟨#[66, 69, 78]⟩, .string ⟨#[67, 65, 68]⟩] 9)).alloc (.cells #[.string ⟨#[67, 65, 68]⟩, .string ⟨#[99, 104, 97, 100]⟩, .string ⟨#[67, 65, 68]⟩] 9)).alloc (.cells #[.int .i64 (-1), .int .i64 (-1), .int .i64 0] 3)) (some ⟨X3.heap.size, 0, none⟩) (ka4.map Value.string) := by
                have h := cells_lit X3 #[.string ⟨#[99, 104, 97, 100]⟩, .string ⟨#[66, 69, 78]⟩, .string ⟨#[67, 65, 68]⟩] 9 3 rfl (by unfold maxLen; omega)
                skip
                exact Cells.below h (((Below.refl _ _).alloc (by first | exact Nat.le_refl _ | (simp; done) | (simp; omega)) _).alloc (by first | exact Nat.le_refl _ | (simp; done) | (simp; omega)) _)
              have CG := Lib.hid CG0
              clear CG0
              have CH0 : Cells (((X3.alloc (.cells #[.string ⟨#[99, 104, 97, 100]⟩, .string ⟨#[66, 69, 78]⟩, .string ⟨#[67, 65, 68]⟩] 9)).alloc (.cells #[.string ⟨#[67, 65, 68]⟩, .string ⟨#[99, 104, 97, 100]⟩, .string ⟨#[67, 65, 68]⟩] 9)).alloc (.cells #[.int .i64 (-1), .int .i64 (-1), .int .i64 0] 3)) (some ⟨X3.heap.size + 1, 0, none⟩) (kb4.map Value.string) := by
                have h := cells_lit (X3.alloc (.cells #[.string ⟨#[99, 104, 97, 100]⟩, .string ⟨#[66, 69, 78]⟩, .string ⟨#[67, 65, 68]⟩] 9)) #[.string ⟨#[67, 65, 68]⟩, .string ⟨#[99, 104, 97, 100]⟩, .string ⟨#[67, 65, 68]⟩] 9 3 rfl (by unfold maxLen; omega)
                simp only [World.size_alloc] at h
                exact Cells.below h ((Below.refl _ _).alloc (by first | exact Nat.le_refl _ | (simp; done) | (simp; omega)) _)
              have CH := Lib.hid CH0
              clear CH0
              have CI0 : Cells (((X3.alloc (.cells #[.string ⟨#[99, 104, 97, 100]⟩, .string ⟨#[66, 69, 78]⟩, .string ⟨#[67, 65, 68]⟩] 9)).alloc (.cells #[.string ⟨#[67, 65, 68]⟩, .string ⟨#[99, 104, 97, 100]⟩, .string ⟨#[67, 65, 68]⟩] 9)).alloc (.cells #[.int .i64 (-1), .int .i64 (-1), .int .i64 0] 3)) (some ⟨X3.heap.size + 2, 0, none⟩) (kc4.map (Value.int .i64)) := by
                have h := cells_lit ((X3.alloc (.cells #[.string ⟨#[99, 104, 97, 100]⟩, .string ⟨#[66, 69, 78]⟩, .string ⟨#[67, 65, 68]⟩] 9)).alloc (.cells #[.string ⟨#[67, 65, 68]⟩, .string ⟨#[99, 104, 97, 100]⟩, .string ⟨#[67, 65, 68]⟩] 9)) #[.int .i64 (-1), .int .i64 (-1), .int .i64 0] 3 3 rfl (by unfold maxLen; omega)
                simp only [World.size_alloc] at h
                exact Cells.below h (Below.refl _ _)
              have CI := Lib.hid CI0
              clear CI0
              have hbW4 : Below X3.heap.size X3 (((X3.alloc (.cells #[.string ⟨#[99, 104, 97, 100]⟩, .string ⟨#[66, 69, 78]⟩, .string ⟨#[67, 65, 68]⟩] 9)).alloc (.cells #[.string ⟨#[67, 65, 68]⟩, .string ⟨#[99, 104, 97, 100]⟩, .string ⟨#[67, 65, 68]⟩] 9)).alloc (.cells #[.int .i64 (-1), .int .i64 (-1), .int .i64 0] 3)) := ((((Below.refl _ _).alloc (by first | exact Nat.le_refl _ | (simp; done) | (simp; omega)) _).alloc (by first | exact Nat.le_refl _ | (simp; done) | (simp; omega)) _).alloc (by first | exact Nat.le_refl _ | (simp; done) | (simp; omega)) _)
              have bW4 := b4.trans (hbW4.mono b4.size)
              clear hbW4
              go_wp2_with fail
              generalize (((X3.alloc (.cells #[.string ⟨#[99, 104, 97, 100]⟩, .string ⟨#[66, 69, 78]⟩, .string ⟨#[67, 65, 68]⟩] 9)).alloc (.cells #[.string ⟨#[67, 65, 68]⟩, .string ⟨#[99, 104, 97, 100]⟩, .string ⟨#[67, 65, 68]⟩] 9)).alloc (.cells #[.int .i64 (-1), .int .i64 (-1), .int .i64 0] 3)) = W4 at *
              go_loopw [14] (fun i wr => ∃ k : Nat, k ≤ 3 ∧ i = .int .i64 k ∧ Below W4.heap.size W4 wr) (fun i _ => 3 - (intOf i).toNat)
              case atStart => exact ⟨0, by omega, rfl, Below.refl _ _⟩
              case round =>
                obtain ⟨k, hk, rfl, t0⟩ := hrel
                have b1 := bW4.trans (t0.mono bW4.size)
                by_cases hlt : k < 3
                · have x1 : k < ka4.length := hlt
                  have x2 : k < kb4.length := hlt
                  have x3 : k < kc4.length := hlt
                  obtain ⟨p1, q1, hv, c1⟩ := (CG.out.below t0).str k x1
                  injection hv with hv
                  injection hv with hv1 hv2
                  subst hv1 hv2
                  rw [Nat.zero_add] at c1
                  obtain ⟨p1, q1, hv, c2⟩ := (CH.out.below t0).str k x2
                  injection hv with hv
                  injection hv with hv1 hv2
                  subst hv1 hv2
                  rw [Nat.zero_add] at c2
                  obtain ⟨p1, q1, hv, c3⟩ := (CI.out.below t0).int k x3
                  injection hv with hv
                  injection hv with hv1 hv2
                  subst hv1 hv2
                  rw [Nat.zero_add] at c3
                  have j5 : (0 : Int) ≤ (k : Int) := by omega
                  have j6 : (k : Int) < 3 := by omega
                  have hf := known4 k x1 x2 x3
                  have q := fun W (hW : Below wr.heap.size wr W) => pCompare_any (ka4[k]'x1) (kb4[k]'x2) W (HLE.out.below (b1.trans (hW.mono b1.size)))
                  unfold ComparePost at q
                  rw [hf.1, hf.2] at q
                  generalize ka4[k]'x1 = X at *
                  generalize kb4[k]'x2 = Y at *
                  generalize kc4[k]'x3 = Dv at *
                  have hne : (Dv != Dv) = false := by simp
                  clear hf
                  obtain ⟨T_, g, hg0, hgb, hT, hgl0, hgl1⟩ : ∃ (T_ : Type) (g : T_ → World), (∃ x, wr.drew = g x) ∧ (∀ x, Below wr.heap.size wr (g x)) ∧ (∀ x, Calls Tryz.prog 14 #[.string X, .string Y] (g x) fun e w' => e = .returned (.tuple #[.int .i64 Dv, .int .i64 0]) ∧ ∃ y, w' = g y) ∧ (∀ x, (g x).cell? ⟨X3.heap.size, k, none⟩ = some (.string X)) ∧ (∀ x, (g x).cell? ⟨X3.heap.size + 1, k, none⟩ = some (.string Y)) :=
                    ⟨Since wr, Subtype.val, Since.here wr, fun x => x.property, fun x => x.calls (q _ x.property), fun x => x.cell c1, fun x => x.cell c2⟩
                  have hTne : Nonempty T_ := let ⟨x, _⟩ := hg0; ⟨x⟩
                  have HT1 := Lib.hid hT
                  clear hT q
                  go_wp2_with fail
                  refine wp_region_class g hg0 (by kernel_rfl) (by kernel_rfl) ?_
                  repeat (go_big_quiet_step (fail))
                  go_big_quiet_step (exact HT1.out _)
                  repeat (go_big_quiet_step (fail))
                  refine wpQuiet_nil ?_
                  rintro _ ⟨xq, rfl⟩
                  have hbq := hgb xq
                  have t1 := t0.trans (hbq.mono t0.size)
                  have c4 := (hbq.cell (World.block_lt_of_cell? _ _ c3)).trans c3
                  generalize g xq = W5 at *
                  clear hgb hg0 hgl0 hgl1 HT1 hbq
                  go_wp2_with fail
                  go_roundw
                  case rel => exact ⟨k + 1, by omega, by go_num, t1⟩
                  case measure => simp [intOf]; omega
                · skip
                  have b5 := b1
                  clear b1 CG CH CI
                  generalize wr = X4 at *
                  clear t0
                  have q := pOther_any ⟨#[106, 111, 104, 110]⟩ X4 (HLE.out.below b5)
                  unfold StrErrPost at q
                  rw [known_john] at q
                  generalize (otherP ⟨#[106, 111, 104, 110]⟩).1 = J1 at q
                  have Q := Lib.hid q
                  clear q
                  go_wp2_with fail
                  refine Q.out.mono ?_
                  rintro e v1 ⟨rfl, hq⟩
                  have b6 := b5.trans (hq.mono b5.size)
                  clear Q
                  clear hq
                  have CJ0 : Cells (v1.alloc (.cells #[.string ⟨#[97, 110, 110, 97]⟩, .string ⟨#[66, 69, 78]⟩, .string ⟨#[67, 65, 68]⟩] 9)) (some ⟨v1.heap.size, 0, none⟩) (kp1.map Value.string) := by
                    have h := cells_lit v1 #[.string ⟨#[97, 110, 110, 97]⟩, .string ⟨#[66, 69, 78]⟩, .string ⟨#[67, 65, 68]⟩] 9 3 rfl (by unfold maxLen; omega)
                    skip
                    exact Cells.below h (Below.refl _ _)
                  have CJ := Lib.hid CJ0
                  clear CJ0
                  have hb_v1 : Below v1.heap.size v1 (v1.alloc (.cells #[.string ⟨#[97, 110, 110, 97]⟩, .string ⟨#[66, 69, 78]⟩, .string ⟨#[67, 65, 68]⟩] 9)) := ((Below.refl _ _).alloc (by first | exact Nat.le_refl _ | (simp; done) | (simp; omega)) _)
                  have b7a := b6.trans (hb_v1.mono b6.size)
                  clear hb_v1
                  have q := pPlace_any (some ⟨v1.heap.size, 0, none⟩) 3 3 kp1 ⟨#[99, 104, 97, 100]⟩ (v1.alloc (.cells #[.string ⟨#[97, 110, 110, 97]⟩, .string ⟨#[66, 69, 78]⟩, .string ⟨#[67, 65, 68]⟩] 9)) (HLE.out.below b7a) rfl CJ.out
                  unfold PlaceAns at q
                  rw [known_place1.1, known_place1.2] at q
                  have Q := Lib.hid q
                  clear q
                  go_wp2_with fail
                  refine Q.out.mono ?_
                  rintro e v2 ⟨rfl, hq⟩
                  have b7 := b7a.trans (hq.mono b7a.size)
                  clear Q
                  clear hq
                  clear CJ
                  have CJ0 : Cells (v2.alloc (.cells #[.string ⟨#[99, 104, 97, 100]⟩, .string ⟨#[97, 110, 110, 97]⟩] 9)) (some ⟨v2.heap.size, 0, none⟩) (kp2.map Value.string) := by
                    have h := cells_lit v2 #[.string ⟨#[99, 104, 97, 100]⟩, .string ⟨#[97, 110, 110, 97]⟩] 9 2 rfl (by unfold maxLen; omega)
                    skip
                    exact Cells.below h (Below.refl _ _)
                  have CJ := Lib.hid CJ0
                  clear CJ0
                  have hb_v2 : Below v2.heap.size v2 (v2.alloc (.cells #[.string ⟨#[99, 104, 97, 100]⟩, .string ⟨#[97, 110, 110, 97]⟩] 9)) := ((Below.refl _ _).alloc (by first | exact Nat.le_refl _ | (simp; done) | (simp; omega)) _)
                  have b8a := b7.trans (hb_v2.mono b7.size)
                  clear hb_v2
                  have q := pPlace_any (some ⟨v2.heap.size, 0, none⟩) 2 2 kp2 ⟨#[99, 104, 97, 100]⟩ (v2.alloc (.cells #[.string ⟨#[99, 104, 97, 100]⟩, .string ⟨#[97, 110, 110, 97]⟩] 9)) (HLE.out.below b8a) rfl CJ.out
                  unfold PlaceAns at q
                  rw [known_place2] at q
                  generalize placeB kp2 ⟨#[99, 104, 97, 100]⟩ = J2 at q
                  have Q := Lib.hid q
                  clear q
                  go_wp2_with fail
                  refine Q.out.mono ?_
                  rintro e v3 ⟨rfl, hq⟩
                  have b8 := b8a.trans (hq.mono b8a.size)
                  clear Q
                  clear hq
                  clear CJ
                  have CJ0 : Cells (v3.alloc (.cells #[.string ⟨#[97, 110, 110, 97]⟩, .string ⟨#[66, 69, 78]⟩, .string ⟨#[99, 104, 97, 100]⟩, .string ⟨#[67, 65, 68]⟩] 9)) (some ⟨v3.heap.size, 0, none⟩) (kw1.map Value.string) := by
                    have h := cells_lit v3 #[.string ⟨#[97, 110, 110, 97]⟩, .string ⟨#[66, 69, 78]⟩, .string ⟨#[99, 104, 97, 100]⟩, .string ⟨#[67, 65, 68]⟩] 9 4 rfl (by unfold maxLen; omega)
                    skip
                    exact Cells.below h (Below.refl _ _)
                  have CJ := Lib.hid CJ0
                  clear CJ0
                  have hb_v3 : Below v3.heap.size v3 (v3.alloc (.cells #[.string ⟨#[97, 110, 110, 97]⟩, .string ⟨#[66, 69, 78]⟩, .string ⟨#[99, 104, 97, 100]⟩, .string ⟨#[67, 65, 68]⟩] 9)) := ((Below.refl _ _).alloc (by first | exact Nat.le_refl _ | (simp; done) | (simp; omega)) _)
                  have b9a := b8.trans (hb_v3.mono b8.size)
                  clear hb_v3
                  have q := pWrong_any (some ⟨v3.heap.size, 0, none⟩) 4 4 kw1 (v3.alloc (.cells #[.string ⟨#[97, 110, 110, 97]⟩, .string ⟨#[66, 69, 78]⟩, .string ⟨#[99, 104, 97, 100]⟩, .string ⟨#[67, 65, 68]⟩] 9)) (HLE.out.below b9a) rfl CJ.out
                  unfold WrongAns at q
                  rw [known_wrong1.1, known_wrong1.2] at q
                  have Q := Lib.hid q
                  clear q
                  go_wp2_with fail
                  refine Q.out.mono ?_
                  rintro e v4 ⟨o4, rfl, ho4, _, hq⟩
                  have b9 := b9a.trans (hq.mono b9a.size)
                  clear Q
                  obtain ⟨A4, c4, rfl⟩ := own_form ho4
                  clear ho4
                  clear hq
                  clear CJ
                  have CJ0 : Cells (v4.alloc (.cells #[.string ⟨#[67, 65, 68]⟩, .string ⟨#[97, 110, 110, 97]⟩, .string ⟨#[66, 69, 78]⟩] 9)) (some ⟨v4.heap.size, 0, none⟩) (kw2.map Value.string) := by
                    have h := cells_lit v4 #[.string ⟨#[67, 65, 68]⟩, .string ⟨#[97, 110, 110, 97]⟩, .string ⟨#[66, 69, 78]⟩] 9 3 rfl (by unfold maxLen; omega)
                    skip
                    exact Cells.below h (Below.refl _ _)
                  have CJ := Lib.hid CJ0
                  clear CJ0
                  have hb_v4 : Below v4.heap.size v4 (v4.alloc (.cells #[.string ⟨#[67, 65, 68]⟩, .string ⟨#[97, 110, 110, 97]⟩, .string ⟨#[66, 69, 78]⟩] 9)) := ((Below.refl _ _).alloc (by first | exact Nat.le_refl _ | (simp; done) | (simp; omega)) _)
                  have b10a := b9.trans (hb_v4.mono b9.size)
                  clear hb_v4
                  have q := pWrong_any (some ⟨v4.heap.size, 0, none⟩) 3 3 kw2 (v4.alloc (.cells #[.string ⟨#[67, 65, 68]⟩, .string ⟨#[97, 110, 110, 97]⟩, .string ⟨#[66, 69, 78]⟩] 9)) (HLE.out.below b10a) rfl CJ.out
                  unfold WrongAns at q
                  rw [known_wrong2.1, known_wrong2.2] at q
                  have Q := Lib.hid q
                  clear q
                  go_wp2_with fail
                  refine Q.out.mono ?_
                  rintro e v5 ⟨o5, rfl, ho5, _, hq⟩
                  have b10 := b10a.trans (hq.mono b10a.size)
                  clear Q
                  obtain ⟨A5, c5, rfl⟩ := own_form ho5
                  have CW := Lib.hid (cells_own ho5)
                  clear ho5
                  clear hq
                  clear CJ
                  go_wp2_with fail
                  refine (spelling_any v5).mono ?_
                  rintro e v6 ⟨rfl, hq⟩
                  have b11 := b10.trans (hq.mono b10.size)
                  have CW6 := Lib.hid (CW.out.below hq)
                  clear CW hq
                  have hbl := (Below.refl v6.heap.size v6).alloc (Nat.le_refl _) (.cells #[.int .i64 0] 3)
                  have q := EqInts_any A5 (some ⟨v6.heap.size, 0, none⟩) 1 1 c5 1 ([0] : List Int) ([0] : List Int) _ rfl rfl (by decide) (CW6.out.below hbl) (cells_lit v6 #[.int .i64 0] 3 1 rfl (by unfold maxLen; omega))
                  unfold EqPost at q
                  rw [decide_eq_true rfl] at q
                  have Q := Lib.hid q
                  have b12a := b11.trans (hbl.mono b11.size)
                  have hbl0 := hbl
                  clear q hbl CW6
                  go_wp2_with fail
                  refine Q.out.mono ?_
                  rintro e v7 ⟨rfl, kd, rfl⟩
                  have b12 := b12a.trans (Drew.below ⟨kd, rfl⟩ w.heap.size)
                  clear Q b12a
                  skip
                  generalize World.drewN _ kd = v7 at *
                  have DA0 : Cells (((v7.alloc (.cells #[.string ⟨#[115, 109, 105, 116, 104]⟩, .string ⟨#[115, 109, 121, 116, 104, 101]⟩, .string ⟨#[114, 97, 108, 112, 104]⟩] 9)).alloc (.cells #[.string ⟨#[115, 109, 121, 116, 104]⟩, .string ⟨#[115, 109, 105, 116, 104]⟩, .string ⟨#[82, 65, 76, 70]⟩] 9)).alloc (.cells #[.int .i64 1, .int .i64 2, .int .i64 1] 3)) (some ⟨v7.heap.size, 0, none⟩) (ka5.map Value.string) := by
                    have h := cells_lit v7 #[.string ⟨#[115, 109, 105, 116, 104]⟩, .string ⟨#[115, 109, 121, 116, 104, 101]⟩, .string ⟨#[114, 97, 108, 112, 104]⟩] 9 3 rfl (by unfold maxLen; omega)
                    skip
                    exact Cells.below h (((Below.refl _ _).alloc (by first | exact Nat.le_refl _ | (simp; done) | (simp; omega)) _).alloc (by first | exact Nat.le_refl _ | (simp; done) | (simp; omega)) _)
                  have DA := Lib.hid DA0
                  clear DA0
                  have DB0 : Cells (((v7.alloc (.cells #[.string ⟨#[115, 109, 105, 116, 104]⟩, .string ⟨#[115, 109, 121, 116, 104, 101]⟩, .string ⟨#[114, 97, 108, 112, 104]⟩] 9)).alloc (.cells #[.string ⟨#[115, 109, 121, 116, 104]⟩, .string ⟨#[115, 109, 105, 116, 104]⟩, .string ⟨#[82, 65, 76, 70]⟩] 9)).alloc (.cells #[.int .i64 1, .int .i64 2, .int .i64 1] 3)) (some ⟨v7.heap.size + 1, 0, none⟩) (kb5.map Value.string) := by
                    have h := cells_lit (v7.alloc (.cells #[.string ⟨#[115, 109, 105, 116, 104]⟩, .string ⟨#[115, 109, 121, 116, 104, 101]⟩, .string ⟨#[114, 97, 108, 112, 104]⟩] 9)) #[.string ⟨#[115, 109, 121, 116, 104]⟩, .string ⟨#[115, 109, 105, 116, 104]⟩, .string ⟨#[82, 65, 76, 70]⟩] 9 3 rfl (by unfold maxLen; omega)
                    simp only [World.size_alloc] at h
                    exact Cells.below h ((Below.refl _ _).alloc (by first | exact Nat.le_refl _ | (simp; done) | (simp; omega)) _)
                  have DB := Lib.hid DB0
                  clear DB0
                  have DC0 : Cells (((v7.alloc (.cells #[.string ⟨#[115, 109, 105, 116, 104]⟩, .string ⟨#[115, 109, 121, 116, 104, 101]⟩, .string ⟨#[114, 97, 108, 112, 104]⟩] 9)).alloc (.cells #[.string ⟨#[115, 109, 121, 116, 104]⟩, .string ⟨#[115, 109, 105, 116, 104]⟩, .string ⟨#[82, 65, 76, 70]⟩] 9)).alloc (.cells #[.int .i64 1, .int .i64 2, .int .i64 1] 3)) (some ⟨v7.heap.size + 2, 0, none⟩) (kc5.map (Value.int .i64)) := by
                    have h := cells_lit ((v7.alloc (.cells #[.string ⟨#[115, 109, 105, 116, 104]⟩, .string ⟨#[115, 109, 121, 116, 104, 101]⟩, .string ⟨#[114, 97, 108, 112, 104]⟩] 9)).alloc (.cells #[.string ⟨#[115, 109, 121, 116, 104]⟩, .string ⟨#[115, 109, 105, 116, 104]⟩, .string ⟨#[82, 65, 76, 70]⟩] 9)) #[.int .i64 1, .int .i64 2, .int .i64 1] 3 3 rfl (by unfold maxLen; omega)
                    simp only [World.size_alloc] at h
                    exact Cells.below h (Below.refl _ _)
                  have DC := Lib.hid DC0
                  clear DC0
                  have hbW6 : Below v7.heap.size v7 (((v7.alloc (.cells #[.string ⟨#[115, 109, 105, 116, 104]⟩, .string ⟨#[115, 109, 121, 116, 104, 101]⟩, .string ⟨#[114, 97, 108, 112, 104]⟩] 9)).alloc (.cells #[.string ⟨#[115, 109, 121, 116, 104]⟩, .string ⟨#[115, 109, 105, 116, 104]⟩, .string ⟨#[82, 65, 76, 70]⟩] 9)).alloc (.cells #[.int .i64 1, .int .i64 2, .int .i64 1] 3)) := ((((Below.refl _ _).alloc (by first | exact Nat.le_refl _ | (simp; done) | (simp; omega)) _).alloc (by first | exact Nat.le_refl _ | (simp; done) | (simp; omega)) _).alloc (by first | exact Nat.le_refl _ | (simp; done) | (simp; omega)) _)
                  have bW6 := b12.trans (hbW6.mono b12.size)
                  clear hbW6
                  go_wp2_with fail
                  generalize (((v7.alloc (.cells #[.string ⟨#[115, 109, 105, 116, 104]⟩, .string ⟨#[115, 109, 121, 116, 104, 101]⟩, .string ⟨#[114, 97, 108, 112, 104]⟩] 9)).alloc (.cells #[.string ⟨#[115, 109, 121, 116, 104]⟩, .string ⟨#[115, 109, 105, 116, 104]⟩, .string ⟨#[82, 65, 76, 70]⟩] 9)).alloc (.cells #[.int .i64 1, .int .i64 2, .int .i64 1] 3)) = W6 at *
                  go_loopw [27] (fun i wr => ∃ k : Nat, k ≤ 3 ∧ i = .int .i64 k ∧ Below W6.heap.size W6 wr) (fun i _ => 3 - (intOf i).toNat)
                  case atStart => exact ⟨0, by omega, rfl, Below.refl _ _⟩
                  case round =>
                    obtain ⟨k, hk, rfl, t0⟩ := hrel
                    have b1 := bW6.trans (t0.mono bW6.size)
                    by_cases hlt : k < 3
                    · have x1 : k < ka5.length := hlt
                      have x2 : k < kb5.length := hlt
                      have x3 : k < kc5.length := hlt
                      obtain ⟨p1, q1, hv, c1⟩ := (DA.out.below t0).str k x1
                      injection hv with hv
                      injection hv with hv1 hv2
                      subst hv1 hv2
                      rw [Nat.zero_add] at c1
                      obtain ⟨p1, q1, hv, c2⟩ := (DB.out.below t0).str k x2
                      injection hv with hv
                      injection hv with hv1 hv2
                      subst hv1 hv2
                      rw [Nat.zero_add] at c2
                      obtain ⟨p1, q1, hv, c3⟩ := (DC.out.below t0).int k x3
                      injection hv with hv
                      injection hv with hv1 hv2
                      subst hv1 hv2
                      rw [Nat.zero_add] at c3
                      have j5 : (0 : Int) ≤ (k : Int) := by omega
                      have j6 : (k : Int) < 3 := by omega
                      have hf := known5 k x1 x2 x3
                      have qu := fun (O : Option Addr) (p : Nat) W (hW : Below wr.heap.size wr W) (hc : Cells W O (ruleCells rulesList)) => pUses_any O 3 p rulesList (ka5[k]'x1) (kb5[k]'x2) W (HLE.out.below (b1.trans (hW.mono b1.size))) rfl rules_short hc
                      unfold TwoAns at qu
                      rw [hf] at qu
                      dsimp only at qu
                      have QU := Lib.hid qu
                      clear qu hf
                      generalize ka5[k]'x1 = X at *
                      generalize kb5[k]'x2 = Y at *
                      generalize kc5[k]'x3 = Dv at *
                      have hne : (Dv != Dv) = false := by simp
                      go_upto_region 39 with fail
                      go_cut [28, 29] from 206 to 234 (fun va vb wx => va = .int .i64 Dv ∧ vb = .int .i64 0 ∧ Below wr.heap.size wr wx)
                      case first =>


                        go_region_law (first
                          | (go_simp; go_wp2_with (first
                              | (refine (rules_any _).mono ?_; rintro e v1 ⟨o1, rfl, ho1, hbr⟩; obtain ⟨O1, p1, rfl⟩ := own_form ho1; have CR := Lib.hid (cells_own ho1); have hbr2 : Below wr.heap.size wr v1 := ⟨hbr.os, hbr.tape, hbr.output, hbr.size, hbr.block⟩; have r1 := (hbr2.cell (World.block_lt_of_cell? _ _ c1)).trans c1; have r2 := (hbr2.cell (World.block_lt_of_cell? _ _ c2)).trans c2)
                              | (refine (QU.out O1 p1 _ hbr2 CR.out).mono ?_; rintro e v2 ⟨rfl, hbu⟩)
                              | fail "no"))
                          | fail "no")
                        all_goals
                          go_wp2_with fail
                          go_meet
                          exact ⟨rfl, rfl, hbr2.trans (hbu.mono hbr2.size)⟩

                      case rest =>
                        obtain ⟨rfl, rfl, hbc⟩ := hcut
                        have t1 := t0.trans (hbc.mono t0.size)
                        have c4 := (hbc.cell (World.block_lt_of_cell? _ _ c3)).trans c3
                        clear c1 c2 c3 hbc QU
                        generalize wc = W9 at *
                        go_wp2_with fail
                        go_roundw
                        case rel => exact ⟨k + 1, by omega, by go_num, t1⟩
                        case measure => simp [intOf]; omega
                    · skip
                      have b13 := b1
                      clear b1 DA DB DC
                      generalize wr = X5 at *
                      clear t0
                      have DD0 : Cells (((X5.alloc (.cells #[.string ⟨#[115, 109, 105, 116, 104]⟩, .string ⟨#[99, 104, 97, 100]⟩, .string ⟨#[115, 109, 105, 116, 104]⟩] 9)).alloc (.cells #[.string ⟨#[115, 109, 121, 116, 104]⟩, .string ⟨#[67, 65, 68]⟩, .string ⟨#[114, 97, 108, 102]⟩] 9)).alloc (.cells #[.int .i64 3, .int .i64 1, .int .i64 2] 3)) (some ⟨X5.heap.size, 0, none⟩) (ka6.map Value.string) := by
                        have h := cells_lit X5 #[.string ⟨#[115, 109, 105, 116, 104]⟩, .string ⟨#[99, 104, 97, 100]⟩, .string ⟨#[115, 109, 105, 116, 104]⟩] 9 3 rfl (by unfold maxLen; omega)
                        skip
                        exact Cells.below h (((Below.refl _ _).alloc (by first | exact Nat.le_refl _ | (simp; done) | (simp; omega)) _).alloc (by first | exact Nat.le_refl _ | (simp; done) | (simp; omega)) _)
                      have DD := Lib.hid DD0
                      clear DD0
                      have DE0 : Cells (((X5.alloc (.cells #[.string ⟨#[115, 109, 105, 116, 104]⟩, .string ⟨#[99, 104, 97, 100]⟩, .string ⟨#[115, 109, 105, 116, 104]⟩] 9)).alloc (.cells #[.string ⟨#[115, 109, 121, 116, 104]⟩, .string ⟨#[67, 65, 68]⟩, .string ⟨#[114, 97, 108, 102]⟩] 9)).alloc (.cells #[.int .i64 3, .int .i64 1, .int .i64 2] 3)) (some ⟨X5.heap.size + 1, 0, none⟩) (kb6.map Value.string) := by
                        have h := cells_lit (X5.alloc (.cells #[.string ⟨#[115, 109, 105, 116, 104]⟩, .string ⟨#[99, 104, 97, 100]⟩, .string ⟨#[115, 109, 105, 116, 104]⟩] 9)) #[.string ⟨#[115, 109, 121, 116, 104]⟩, .string ⟨#[67, 65, 68]⟩, .string ⟨#[114, 97, 108, 102]⟩] 9 3 rfl (by unfold maxLen; omega)
                        simp only [World.size_alloc] at h
                        exact Cells.below h ((Below.refl _ _).alloc (by first | exact Nat.le_refl _ | (simp; done) | (simp; omega)) _)
                      have DE := Lib.hid DE0
                      clear DE0
                      have DF0 : Cells (((X5.alloc (.cells #[.string ⟨#[115, 109, 105, 116, 104]⟩, .string ⟨#[99, 104, 97, 100]⟩, .string ⟨#[115, 109, 105, 116, 104]⟩] 9)).alloc (.cells #[.string ⟨#[115, 109, 121, 116, 104]⟩, .string ⟨#[67, 65, 68]⟩, .string ⟨#[114, 97, 108, 102]⟩] 9)).alloc (.cells #[.int .i64 3, .int .i64 1, .int .i64 2] 3)) (some ⟨X5.heap.size + 2, 0, none⟩) (kc6.map (Value.int .i64)) := by
                        have h := cells_lit ((X5.alloc (.cells #[.string ⟨#[115, 109, 105, 116, 104]⟩, .string ⟨#[99, 104, 97, 100]⟩, .string ⟨#[115, 109, 105, 116, 104]⟩] 9)).alloc (.cells #[.string ⟨#[115, 109, 121, 116, 104]⟩, .string ⟨#[67, 65, 68]⟩, .string ⟨#[114, 97, 108, 102]⟩] 9)) #[.int .i64 3, .int .i64 1, .int .i64 2] 3 3 rfl (by unfold maxLen; omega)
                        simp only [World.size_alloc] at h
                        exact Cells.below h (Below.refl _ _)
                      have DF := Lib.hid DF0
                      clear DF0
                      have hbW7 : Below X5.heap.size X5 (((X5.alloc (.cells #[.string ⟨#[115, 109, 105, 116, 104]⟩, .string ⟨#[99, 104, 97, 100]⟩, .string ⟨#[115, 109, 105, 116, 104]⟩] 9)).alloc (.cells #[.string ⟨#[115, 109, 121, 116, 104]⟩, .string ⟨#[67, 65, 68]⟩, .string ⟨#[114, 97, 108, 102]⟩] 9)).alloc (.cells #[.int .i64 3, .int .i64 1, .int .i64 2] 3)) := ((((Below.refl _ _).alloc (by first | exact Nat.le_refl _ | (simp; done) | (simp; omega)) _).alloc (by first | exact Nat.le_refl _ | (simp; done) | (simp; omega)) _).alloc (by first | exact Nat.le_refl _ | (simp; done) | (simp; omega)) _)
                      have bW7 := b13.trans (hbW7.mono b13.size)
                      clear hbW7
                      go_wp2_with fail
                      generalize (((X5.alloc (.cells #[.string ⟨#[115, 109, 105, 116, 104]⟩, .string ⟨#[99, 104, 97, 100]⟩, .string ⟨#[115, 109, 105, 116, 104]⟩] 9)).alloc (.cells #[.string ⟨#[115, 109, 121, 116, 104]⟩, .string ⟨#[67, 65, 68]⟩, .string ⟨#[114, 97, 108, 102]⟩] 9)).alloc (.cells #[.int .i64 3, .int .i64 1, .int .i64 2] 3)) = W7 at *
                      go_loopw [30] (fun i wr => ∃ k : Nat, k ≤ 3 ∧ i = .int .i64 k ∧ Below W7.heap.size W7 wr) (fun i _ => 3 - (intOf i).toNat)
                      case atStart => exact ⟨0, by omega, rfl, Below.refl _ _⟩
                      case round =>
                        obtain ⟨k, hk, rfl, t0⟩ := hrel
                        have b1 := bW7.trans (t0.mono bW7.size)
                        by_cases hlt : k < 3
                        · have x1 : k < ka6.length := hlt
                          have x2 : k < kb6.length := hlt
                          have x3 : k < kc6.length := hlt
                          obtain ⟨p1, q1, hv, c1⟩ := (DD.out.below t0).str k x1
                          injection hv with hv
                          injection hv with hv1 hv2
                          subst hv1 hv2
                          rw [Nat.zero_add] at c1
                          obtain ⟨p1, q1, hv, c2⟩ := (DE.out.below t0).str k x2
                          injection hv with hv
                          injection hv with hv1 hv2
                          subst hv1 hv2
                          rw [Nat.zero_add] at c2
                          obtain ⟨p1, q1, hv, c3⟩ := (DF.out.below t0).int k x3
                          injection hv with hv
                          injection hv with hv1 hv2
                          subst hv1 hv2
                          rw [Nat.zero_add] at c3
                          have j5 : (0 : Int) ≤ (k : Int) := by omega
                          have j6 : (k : Int) < 3 := by omega
                          have hf := known6 k x1 x2 x3
                          have qu := fun (O : Option Addr) (p : Nat) W (hW : Below wr.heap.size wr W) (hc : Cells W O (ruleCells rulesList)) => pVerdict_any O 3 p rulesList (ka6[k]'x1) (kb6[k]'x2) W (HLE.out.below (b1.trans (hW.mono b1.size))) rfl rules_short hc
                          unfold TwoAns at qu
                          rw [hf] at qu
                          dsimp only at qu
                          have QU := Lib.hid qu
                          clear qu hf
                          generalize ka6[k]'x1 = X at *
                          generalize kb6[k]'x2 = Y at *
                          generalize kc6[k]'x3 = Dv at *
                          have hne : (Dv != Dv) = false := by simp
                          go_upto_region 46 with fail
                          go_cut [31, 32] from 238 to 266 (fun va vb wx => va = .int .i64 Dv ∧ vb = .int .i64 0 ∧ Below wr.heap.size wr wx)
                          case first =>


                            go_region_law (first
                              | (go_simp; go_wp2_with (first
                                  | (refine (rules_any _).mono ?_; rintro e v1 ⟨o1, rfl, ho1, hbr⟩; obtain ⟨O1, p1, rfl⟩ := own_form ho1; have CR := Lib.hid (cells_own ho1); have hbr2 : Below wr.heap.size wr v1 := ⟨hbr.os, hbr.tape, hbr.output, hbr.size, hbr.block⟩; have r1 := (hbr2.cell (World.block_lt_of_cell? _ _ c1)).trans c1; have r2 := (hbr2.cell (World.block_lt_of_cell? _ _ c2)).trans c2)
                                  | (refine (QU.out O1 p1 _ hbr2 CR.out).mono ?_; rintro e v2 ⟨rfl, hbu⟩)
                                  | fail "no"))
                              | fail "no")
                            all_goals
                              go_wp2_with fail
                              go_meet
                              exact ⟨rfl, rfl, hbr2.trans (hbu.mono hbr2.size)⟩

                          case rest =>
                            obtain ⟨rfl, rfl, hbc⟩ := hcut
                            have t1 := t0.trans (hbc.mono t0.size)
                            have c4 := (hbc.cell (World.block_lt_of_cell? _ _ c3)).trans c3
                            clear c1 c2 c3 hbc QU
                            generalize wc = W9 at *
                            go_wp2_with fail
                            go_roundw
                            case rel => exact ⟨k + 1, by omega, by go_num, t1⟩
                            case measure => simp [intOf]; omega
                        · skip
                          have b14 := b1
                          clear b1 DD DE DF
                          generalize wr = X6 at *
                          clear t0
                          have q := rules_any X6
                          unfold RowPost at q
                          skip
                          have Q := Lib.hid q
                          clear q
                          go_wp2_with fail
                          refine Q.out.mono ?_
                          rintro e y1 ⟨o_y1, rfl, ho_, hq⟩
                          have b15 := b14.trans (hq.mono b14.size)
                          clear Q
                          obtain ⟨O_y1, p_y1, rfl⟩ := own_form ho_
                          have CR1 := Lib.hid (cells_own ho_)
                          clear ho_
                          clear hq
                          have q := pUses_any O_y1 3 p_y1 rulesList ⟨#[115, 109, 105, 116, 104]⟩ ⟨#[114, 97, 108, 102]⟩ y1 (HLE.out.below b15) rfl rules_short CR1.out
                          unfold TwoAns at q
                          rw [known_ralf] at q
                          generalize (usesA rulesList ⟨#[115, 109, 105, 116, 104]⟩ ⟨#[114, 97, 108, 102]⟩).1 = J4 at q
                          have Q := Lib.hid q
                          clear q
                          go_wp2_with fail
                          refine Q.out.mono ?_
                          rintro e y2 ⟨rfl, hq⟩
                          have b16 := b15.trans (hq.mono b15.size)
                          clear Q
                          clear hq
                          clear CR1
                          have q := rules_any y2
                          unfold RowPost at q
                          skip
                          have Q := Lib.hid q
                          clear q
                          go_wp2_with fail
                          refine Q.out.mono ?_
                          rintro e y3 ⟨o_y3, rfl, ho_, hq⟩
                          have b17 := b16.trans (hq.mono b16.size)
                          clear Q
                          obtain ⟨O_y3, p_y3, rfl⟩ := own_form ho_
                          have CR2 := Lib.hid (cells_own ho_)
                          clear ho_
                          clear hq
                          have CJ0 : Cells (y3.alloc (.cells #[.string ⟨#[114, 97, 108, 102]⟩, .string ⟨#[115, 109, 121, 116, 104]⟩, .string ⟨#[115, 109, 121, 116, 104, 101]⟩, .string ⟨#[115, 109, 105, 116, 104]⟩] 9)) (some ⟨y3.heap.size, 0, none⟩) (kr1.map Value.string) := by
                            have h := cells_lit y3 #[.string ⟨#[114, 97, 108, 102]⟩, .string ⟨#[115, 109, 121, 116, 104]⟩, .string ⟨#[115, 109, 121, 116, 104, 101]⟩, .string ⟨#[115, 109, 105, 116, 104]⟩] 9 4 rfl (by unfold maxLen; omega)
                            skip
                            exact Cells.below h (Below.refl _ _)
                          have CJ := Lib.hid CJ0
                          clear CJ0
                          have hb_y3 : Below y3.heap.size y3 (y3.alloc (.cells #[.string ⟨#[114, 97, 108, 102]⟩, .string ⟨#[115, 109, 121, 116, 104]⟩, .string ⟨#[115, 109, 121, 116, 104, 101]⟩, .string ⟨#[115, 109, 105, 116, 104]⟩] 9)) := ((Below.refl _ _).alloc (by first | exact Nat.le_refl _ | (simp; done) | (simp; omega)) _)
                          have b18 := b17.trans (hb_y3.mono b17.size)
                          clear hb_y3
                          have hbl := (Below.refl y3.heap.size y3).alloc (Nat.le_refl _) (.cells #[.string ⟨#[114, 97, 108, 102]⟩, .string ⟨#[115, 109, 121, 116, 104]⟩, .string ⟨#[115, 109, 121, 116, 104, 101]⟩, .string ⟨#[115, 109, 105, 116, 104]⟩] 9)
                          have q := pNear_any O_y3 3 p_y3 rulesList ⟨#[115, 109, 105, 116, 104]⟩ (some ⟨y3.heap.size, 0, none⟩) 4 4 kr1 (y3.alloc (.cells #[.string ⟨#[114, 97, 108, 102]⟩, .string ⟨#[115, 109, 121, 116, 104]⟩, .string ⟨#[115, 109, 121, 116, 104, 101]⟩, .string ⟨#[115, 109, 105, 116, 104]⟩] 9)) (HLE.out.below b18) rfl rules_short (CR2.out.below hbl) rfl CJ.out
                          unfold NearAns at q
                          rw [known_near.1, known_near.2] at q
                          clear hbl
                          have Q := Lib.hid q
                          clear q
                          go_wp2_with fail
                          refine Q.out.mono ?_
                          rintro e y4 ⟨A8, c8, rfl, hc8, hq⟩
                          have b19 := b18.trans (hq.mono b18.size)
                          clear Q
                          have CN := Lib.hid hc8
                          clear hc8
                          clear hq
                          clear CJ CR2
                          have hbl := (Below.refl y4.heap.size y4).alloc (Nat.le_refl _) (.cells #[.int .i64 3, .int .i64 1, .int .i64 2] 3)
                          have q := EqInts_any A8 (some ⟨y4.heap.size, 0, none⟩) 3 3 c8 3 ([3, 1, 2] : List Int) ([3, 1, 2] : List Int) _ rfl rfl (by decide) (CN.out.below hbl) (cells_lit y4 #[.int .i64 3, .int .i64 1, .int .i64 2] 3 3 rfl (by unfold maxLen; omega))
                          unfold EqPost at q
                          rw [decide_eq_true rfl] at q
                          have Q := Lib.hid q
                          have b20a := b19.trans (hbl.mono b19.size)
                          have hbl0 := hbl
                          clear q hbl CN
                          go_wp2_with fail
                          refine Q.out.mono ?_
                          rintro e y5 ⟨rfl, kd, rfl⟩
                          have b20 := b20a.trans (Drew.below ⟨kd, rfl⟩ w.heap.size)
                          clear Q b20a
                          skip
                          generalize World.drewN _ kd = y5 at *
                          have DG0 : Cells ((y5.alloc (.cells #[.string ⟨#[99, 100, 46]⟩, .string ⟨#[104, 100, 46]⟩, .string ⟨#[99, 104, 97, 100, 46]⟩] 9)).alloc (.cells #[.bool true, .bool false, .bool false] 4)) (some ⟨y5.heap.size, 0, none⟩) (ks7.map Value.string) := by
                            have h := cells_lit y5 #[.string ⟨#[99, 100, 46]⟩, .string ⟨#[104, 100, 46]⟩, .string ⟨#[99, 104, 97, 100, 46]⟩] 9 3 rfl (by unfold maxLen; omega)
                            skip
                            exact Cells.below h ((Below.refl _ _).alloc (by first | exact Nat.le_refl _ | (simp; done) | (simp; omega)) _)
                          have DG := Lib.hid DG0
                          clear DG0
                          have DH0 : Cells ((y5.alloc (.cells #[.string ⟨#[99, 100, 46]⟩, .string ⟨#[104, 100, 46]⟩, .string ⟨#[99, 104, 97, 100, 46]⟩] 9)).alloc (.cells #[.bool true, .bool false, .bool false] 4)) (some ⟨y5.heap.size + 1, 0, none⟩) (ky7.map Value.bool) := by
                            have h := cells_lit (y5.alloc (.cells #[.string ⟨#[99, 100, 46]⟩, .string ⟨#[104, 100, 46]⟩, .string ⟨#[99, 104, 97, 100, 46]⟩] 9)) #[.bool true, .bool false, .bool false] 4 3 rfl (by unfold maxLen; omega)
                            simp only [World.size_alloc] at h
                            exact Cells.below h (Below.refl _ _)
                          have DH := Lib.hid DH0
                          clear DH0
                          have hbW8 : Below y5.heap.size y5 ((y5.alloc (.cells #[.string ⟨#[99, 100, 46]⟩, .string ⟨#[104, 100, 46]⟩, .string ⟨#[99, 104, 97, 100, 46]⟩] 9)).alloc (.cells #[.bool true, .bool false, .bool false] 4)) := (((Below.refl _ _).alloc (by first | exact Nat.le_refl _ | (simp; done) | (simp; omega)) _).alloc (by first | exact Nat.le_refl _ | (simp; done) | (simp; omega)) _)
                          have bW8 := b20.trans (hbW8.mono b20.size)
                          clear hbW8
                          go_wp2_with fail
                          generalize ((y5.alloc (.cells #[.string ⟨#[99, 100, 46]⟩, .string ⟨#[104, 100, 46]⟩, .string ⟨#[99, 104, 97, 100, 46]⟩] 9)).alloc (.cells #[.bool true, .bool false, .bool false] 4)) = W8 at *
                          go_loopw [35] (fun i wr => ∃ k : Nat, k ≤ 3 ∧ i = .int .i64 k ∧ Below W8.heap.size W8 wr) (fun i _ => 3 - (intOf i).toNat)
                          case atStart => exact ⟨0, by omega, rfl, Below.refl _ _⟩
                          case round =>
                            obtain ⟨k, hk, rfl, t0⟩ := hrel
                            have b1 := bW8.trans (t0.mono bW8.size)
                            by_cases hlt : k < 3
                            · have x1 : k < ks7.length := hlt
                              have x2 : k < ky7.length := hlt
                              obtain ⟨p1, q1, hv, c1⟩ := (DG.out.below t0).str k x1
                              injection hv with hv
                              injection hv with hv1 hv2
                              subst hv1 hv2
                              rw [Nat.zero_add] at c1
                              obtain ⟨p1, q1, hv, c2⟩ := (DH.out.below t0).any k (by rw [List.length_map]; exact x2)
                              injection hv with hv
                              injection hv with hv1 hv2
                              subst hv1 hv2
                              rw [List.getElem_map, Nat.zero_add] at c2
                              have j5 : (0 : Int) ≤ (k : Int) := by omega
                              have j6 : (k : Int) < 3 := by omega
                              have hf := known7 k x1 x2
                              have q := pShort_any (ks7[k]'x1) ⟨#[99, 104, 97, 100]⟩ wr (HLE.out.below b1) (known_sizes _ (List.getElem_mem x1))
                              unfold ShortPost at q
                              rw [hf.1, hf.2] at q
                              generalize ks7[k]'x1 = X at *
                              generalize ky7[k]'x2 = Y at *
                              have hs2 : (Y != Y) = false := by simp
                              have Q := Lib.hid q
                              clear hf q
                              go_wp2_with fail
                              refine Q.out.mono ?_
                              rintro e w9 ⟨rfl, hb9⟩
                              have t1 := t0.trans (hb9.mono t0.size)
                              have c3 := (hb9.cell (World.block_lt_of_cell? _ _ c2)).trans c2
                              generalize w9 = W9 at *
                              go_wp2_with fail
                              go_roundw
                              case rel => exact ⟨k + 1, by omega, by go_num, t1⟩
                              case measure => simp [intOf]; omega
                            · skip
                              have b21 := b1
                              clear b1 DG DH
                              generalize wr = X7 at *
                              clear t0
                              have q := pShort_any ⟨#[99, 100]⟩ ⟨#[99, 104, 97, 100]⟩ X7 (HLE.out.below b21) (by decide)
                              unfold ShortPost at q
                              generalize hJ3 : (decide (shortPairErr (⟨#[99, 100]⟩ : ByteArray).data.toList (⟨#[99, 104, 97, 100]⟩ : ByteArray).data.toList = 0) && shortB (⟨#[99, 100]⟩ : ByteArray).data.toList (⟨#[99, 104, 97, 100]⟩ : ByteArray).data.toList) = J3 at q
                              rw [known_cd] at q
                              clear hJ3
                              have Q := Lib.hid q
                              clear q
                              go_wp2_with fail
                              refine Q.out.mono ?_
                              rintro e z1 ⟨rfl, hq⟩
                              have b22 := b21.trans (hq.mono b21.size)
                              clear Q
                              clear hq
                              have q := smiths_any z1
                              unfold RowPost at q
                              skip
                              have Q := Lib.hid q
                              clear q
                              go_wp2_with fail
                              refine Q.out.mono ?_
                              rintro e z2 ⟨o_z2, rfl, ho_, hq⟩
                              have b23 := b22.trans (hq.mono b22.size)
                              clear Q
                              obtain ⟨O_z2, p_z2, rfl⟩ := own_form ho_
                              have CS1 := Lib.hid (cells_own ho_)
                              clear ho_
                              clear hq
                              have q := pStands_any ⟨#[115, 109, 46]⟩ O_z2 3 p_z2 smithsList z2 (HLE.out.below b23) (by decide) rfl CS1.out
                              unfold IntsPost at q
                              rw [known_stands.1, known_stands.2.1] at q
                              have Q := Lib.hid q
                              clear q
                              go_wp2_with fail
                              refine Q.out.mono ?_
                              rintro e z3 ⟨o9, rfl, ho9, hq⟩
                              have b24 := b23.trans (hq.mono b23.size)
                              clear Q
                              obtain ⟨A9, c9, rfl⟩ := own_form ho9
                              have CT9 := Lib.hid (cells_own ho9)
                              clear ho9
                              clear hq
                              clear CS1
                              have q := smiths_any z3
                              unfold RowPost at q
                              skip
                              have Q := Lib.hid q
                              clear q
                              go_wp2_with fail
                              refine Q.out.mono ?_
                              rintro e z4 ⟨o_z4, rfl, ho_, hq⟩
                              have b25 := b24.trans (hq.mono b24.size)
                              clear Q
                              obtain ⟨O_z4, p_z4, rfl⟩ := own_form ho_
                              have CS1 := Lib.hid (cells_own ho_)
                              clear ho_
                              have CT9n := Lib.hid (CT9.out.below hq)
                              clear CT9
                              have CT9 := CT9n
                              clear CT9n
                              clear hq
                              have q := pStands_any ⟨#[115, 121, 46]⟩ O_z4 3 p_z4 smithsList z4 (HLE.out.below b25) (by decide) rfl CS1.out
                              unfold IntsPost at q
                              rw [known_stands.2.2.1, known_stands.2.2.2] at q
                              have Q := Lib.hid q
                              clear q
                              go_wp2_with fail
                              refine Q.out.mono ?_
                              rintro e z5 ⟨o10, rfl, ho10, hq⟩
                              have b26 := b25.trans (hq.mono b25.size)
                              clear Q
                              obtain ⟨A10, c10, rfl⟩ := own_form ho10
                              have CT10 := Lib.hid (cells_own ho10)
                              clear ho10
                              have CT9n := Lib.hid (CT9.out.below hq)
                              clear CT9
                              have CT9 := CT9n
                              clear CT9n
                              clear hq
                              clear CS1
                              have q := smiths_any z5
                              unfold RowPost at q
                              skip
                              have Q := Lib.hid q
                              clear q
                              go_wp2_with fail
                              refine Q.out.mono ?_
                              rintro e z6 ⟨o_z6, rfl, ho_, hq⟩
                              have b27 := b26.trans (hq.mono b26.size)
                              clear Q
                              obtain ⟨O_z6, p_z6, rfl⟩ := own_form ho_
                              have CS1 := Lib.hid (cells_own ho_)
                              clear ho_
                              have CT9n := Lib.hid (CT9.out.below hq)
                              clear CT9
                              have CT9 := CT9n
                              clear CT9n
                              have CT10n := Lib.hid (CT10.out.below hq)
                              clear CT10
                              have CT10 := CT10n
                              clear CT10n
                              clear hq
                              have q := pShortest_any O_z6 3 p_z6 smithsList 1 z6 (HLE.out.below b27) rfl CS1.out
                              unfold StrErrPost at q
                              rw [known_short.1] at q
                              dsimp only at q
                              have Q := Lib.hid q
                              clear q
                              go_wp2_with fail
                              refine Q.out.mono ?_
                              rintro e z7 ⟨rfl, hq⟩
                              have b28 := b27.trans (hq.mono b27.size)
                              clear Q
                              have CT9n := Lib.hid (CT9.out.below hq)
                              clear CT9
                              have CT9 := CT9n
                              clear CT9n
                              have CT10n := Lib.hid (CT10.out.below hq)
                              clear CT10
                              have CT10 := CT10n
                              clear CT10n
                              clear hq
                              clear CS1
                              have q := smiths_any z7
                              unfold RowPost at q
                              skip
                              have Q := Lib.hid q
                              clear q
                              go_wp2_with fail
                              refine Q.out.mono ?_
                              rintro e z8 ⟨o_z8, rfl, ho_, hq⟩
                              have b29 := b28.trans (hq.mono b28.size)
                              clear Q
                              obtain ⟨O_z8, p_z8, rfl⟩ := own_form ho_
                              have CS1 := Lib.hid (cells_own ho_)
                              clear ho_
                              have CT9n := Lib.hid (CT9.out.below hq)
                              clear CT9
                              have CT9 := CT9n
                              clear CT9n
                              have CT10n := Lib.hid (CT10.out.below hq)
                              clear CT10
                              have CT10 := CT10n
                              clear CT10n
                              clear hq
                              have q := pShortest_any O_z8 3 p_z8 smithsList 2 z8 (HLE.out.below b29) rfl CS1.out
                              unfold StrErrPost at q
                              rw [known_short.2.1] at q
                              dsimp only at q
                              have Q := Lib.hid q
                              clear q
                              go_wp2_with fail
                              refine Q.out.mono ?_
                              rintro e z9 ⟨rfl, hq⟩
                              have b30 := b29.trans (hq.mono b29.size)
                              clear Q
                              have CT9n := Lib.hid (CT9.out.below hq)
                              clear CT9
                              have CT9 := CT9n
                              clear CT9n
                              have CT10n := Lib.hid (CT10.out.below hq)
                              clear CT10
                              have CT10 := CT10n
                              clear CT10n
                              clear hq
                              clear CS1
                              have hbl := (Below.refl z9.heap.size z9).alloc (Nat.le_refl _) (.cells #[.int .i64 0, .int .i64 1, .int .i64 2] 3)
                              have q := EqInts_any A9 (some ⟨z9.heap.size, 0, none⟩) 3 3 c9 3 ([0, 1, 2] : List Int) ([0, 1, 2] : List Int) _ rfl rfl (by decide) (CT9.out.below hbl) (cells_lit z9 #[.int .i64 0, .int .i64 1, .int .i64 2] 3 3 rfl (by unfold maxLen; omega))
                              unfold EqPost at q
                              rw [decide_eq_true rfl] at q
                              have Q := Lib.hid q
                              have b31a := b30.trans (hbl.mono b30.size)
                              have hbl0 := hbl
                              clear q hbl CT9
                              go_wp2_with fail
                              refine Q.out.mono ?_
                              rintro e za ⟨rfl, kd, rfl⟩
                              have b31 := b31a.trans (Drew.below ⟨kd, rfl⟩ w.heap.size)
                              clear Q b31a
                              have CT10n := Lib.hid (CT10.out.below hbl0)
                              clear CT10
                              have CT10m := Lib.hid (CT10n.out.below (Drew.below ⟨kd, rfl⟩ _))
                              clear CT10n
                              have CT10 := CT10m
                              clear CT10m
                              generalize World.drewN _ kd = za at *
                              have hbl := (Below.refl za.heap.size za).alloc (Nat.le_refl _) (.cells #[.int .i64 1] 3)
                              have q := EqInts_any A10 (some ⟨za.heap.size, 0, none⟩) 1 1 c10 1 ([1] : List Int) ([1] : List Int) _ rfl rfl (by decide) (CT10.out.below hbl) (cells_lit za #[.int .i64 1] 3 1 rfl (by unfold maxLen; omega))
                              unfold EqPost at q
                              rw [decide_eq_true rfl] at q
                              have Q := Lib.hid q
                              have b32a := b31.trans (hbl.mono b31.size)
                              have hbl0 := hbl
                              clear q hbl CT10
                              go_wp2_with fail
                              refine Q.out.mono ?_
                              rintro e zb ⟨rfl, kd, rfl⟩
                              have b32 := b32a.trans (Drew.below ⟨kd, rfl⟩ w.heap.size)
                              clear Q b32a
                              skip
                              generalize World.drewN _ kd = zb at *
                              have q := smiths_any zb
                              unfold RowPost at q
                              skip
                              have Q := Lib.hid q
                              clear q
                              go_wp2_with fail
                              refine Q.out.mono ?_
                              rintro e zc ⟨o_zc, rfl, ho_, hq⟩
                              have b33 := b32.trans (hq.mono b32.size)
                              clear Q
                              obtain ⟨O_zc, p_zc, rfl⟩ := own_form ho_
                              have CS1 := Lib.hid (cells_own ho_)
                              clear ho_
                              clear hq
                              have q := pShortest_any O_zc 3 p_zc smithsList 3 zc (HLE.out.below b33) rfl CS1.out
                              unfold StrErrPost at q
                              rw [known_short.2.2.1] at q
                              generalize (shortestP smithsList 3).1 = J5 at q
                              have Q := Lib.hid q
                              clear q
                              go_wp2_with fail
                              refine Q.out.mono ?_
                              rintro e zd ⟨rfl, hq⟩
                              have b34 := b33.trans (hq.mono b33.size)
                              clear Q
                              clear hq
                              clear CS1
                              have CJ0 : Cells (zd.alloc (.cells #[.string ⟨#[99, 104, 97, 100]⟩, .string ⟨#[67, 65, 68]⟩] 9)) (some ⟨zd.heap.size, 0, none⟩) (kc2.map Value.string) := by
                                have h := cells_lit zd #[.string ⟨#[99, 104, 97, 100]⟩, .string ⟨#[67, 65, 68]⟩] 9 2 rfl (by unfold maxLen; omega)
                                skip
                                exact Cells.below h (Below.refl _ _)
                              have CJ := Lib.hid CJ0
                              clear CJ0
                              have hb_zd : Below zd.heap.size zd (zd.alloc (.cells #[.string ⟨#[99, 104, 97, 100]⟩, .string ⟨#[67, 65, 68]⟩] 9)) := ((Below.refl _ _).alloc (by first | exact Nat.le_refl _ | (simp; done) | (simp; omega)) _)
                              have b35a := b34.trans (hb_zd.mono b34.size)
                              clear hb_zd
                              have q := pShortest_any (some ⟨zd.heap.size, 0, none⟩) 2 2 kc2 0 (zd.alloc (.cells #[.string ⟨#[99, 104, 97, 100]⟩, .string ⟨#[67, 65, 68]⟩] 9)) (HLE.out.below b35a) rfl CJ.out
                              unfold StrErrPost at q
                              rw [known_short.2.2.2] at q
                              dsimp only at q
                              have Q := Lib.hid q
                              clear q
                              go_wp2_with fail
                              refine Q.out.mono ?_
                              rintro e ze ⟨rfl, hq⟩
                              have b35 := b35a.trans (hq.mono b35a.size)
                              clear Q
                              clear hq
                              clear CJ
                              have q := smiths_any ze
                              unfold RowPost at q
                              skip
                              have Q := Lib.hid q
                              clear q
                              go_wp2_with fail
                              refine Q.out.mono ?_
                              rintro e zf ⟨o_zf, rfl, ho_, hq⟩
                              have b36 := b35.trans (hq.mono b35.size)
                              clear Q
                              obtain ⟨O_zf, p_zf, rfl⟩ := own_form ho_
                              have CS1 := Lib.hid (cells_own ho_)
                              clear ho_
                              clear hq
                              have q := pFit_any O_zf 3 p_zf smithsList 0 5 zf (HLE.out.below b36) rfl CS1.out
                              unfold StrErrPost at q
                              rw [known_fit.1] at q
                              dsimp only at q
                              have Q := Lib.hid q
                              clear q
                              go_wp2_with fail
                              refine Q.out.mono ?_
                              rintro e zg ⟨rfl, hq⟩
                              have b37 := b36.trans (hq.mono b36.size)
                              clear Q
                              clear hq
                              clear CS1
                              have q := smiths_any zg
                              unfold RowPost at q
                              skip
                              have Q := Lib.hid q
                              clear q
                              go_wp2_with fail
                              refine Q.out.mono ?_
                              rintro e zh ⟨o_zh, rfl, ho_, hq⟩
                              have b38 := b37.trans (hq.mono b37.size)
                              clear Q
                              obtain ⟨O_zh, p_zh, rfl⟩ := own_form ho_
                              have CS1 := Lib.hid (cells_own ho_)
                              clear ho_
                              clear hq
                              have q := pFit_any O_zh 3 p_zh smithsList 0 3 zh (HLE.out.below b38) rfl CS1.out
                              unfold StrErrPost at q
                              rw [known_fit.2.1] at q
                              dsimp only at q
                              have Q := Lib.hid q
                              clear q
                              go_wp2_with fail
                              refine Q.out.mono ?_
                              rintro e zi ⟨rfl, hq⟩
                              have b39 := b38.trans (hq.mono b38.size)
                              clear Q
                              clear hq
                              clear CS1
                              have q := smiths_any zi
                              unfold RowPost at q
                              skip
                              have Q := Lib.hid q
                              clear q
                              go_wp2_with fail
                              refine Q.out.mono ?_
                              rintro e zj ⟨o_zj, rfl, ho_, hq⟩
                              have b40 := b39.trans (hq.mono b39.size)
                              clear Q
                              obtain ⟨O_zj, p_zj, rfl⟩ := own_form ho_
                              have CS1 := Lib.hid (cells_own ho_)
                              clear ho_
                              clear hq
                              have q := pFit_any O_zj 3 p_zj smithsList 0 2 zj (HLE.out.below b40) rfl CS1.out
                              unfold StrErrPost at q
                              rw [known_fit.2.2] at q
                              generalize (fitP smithsList 0 2).1 = J6 at q
                              have Q := Lib.hid q
                              clear q
                              go_wp2_with fail
                              refine Q.out.mono ?_
                              rintro e zk ⟨rfl, hq⟩
                              have b41 := b40.trans (hq.mono b40.size)
                              clear Q
                              clear hq
                              clear CS1
                              go_wp2_with fail
                              go_ret
                              exact ⟨rfl, b41⟩
end Go.Proofs.YtljlkhaolfihjaaGreatDoor
