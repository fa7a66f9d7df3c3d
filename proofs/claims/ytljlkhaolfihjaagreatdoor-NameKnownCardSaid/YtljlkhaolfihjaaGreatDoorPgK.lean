/- A chain of uses. -/
import Derived.Test.YtljlkhaolfihjaaGreatDoorPgJ
namespace Go.Proofs.YtljlkhaolfihjaaGreatDoor
open Go.RowKit Go.Shelf

/-- That each step of a chain finds a string. -/
def stepsOk (rs : List (ByteArray × ByteArray)) (goal : ByteArray) : Nat → ByteArray → Bool
  | 0, _ => true
  | n + 1, x => !(awayL rs goal n (madeL rs x)).isEmpty && decide ((nextG rs goal x n).size ≤ 12) && decide (n ≤ 1) && stepsOk rs goal n (nextG rs goal x n)

theorem steps_len (rs : List (ByteArray × ByteArray)) (goal : ByteArray) : ∀ (n : Nat) (x : ByteArray), (stepsG rs goal n x).length = n
  | 0, _ => rfl
  | n + 1, x => by show (_ :: stepsG rs goal n _).length = _; rw [List.length_cons, steps_len]

set_option maxRecDepth 100000 in
set_option maxHeartbeats 3200000 in
theorem Chain_ok (A : Option Addr) (nn c u : Nat) (rs : List (ByteArray × ByteArray)) (a b : ByteArray) (w : World) (hn : nn = rs.length) (hf : RulesOk rs) (hv : AllOk [a, b]) (hx : Cells w A (ruleCells rs))
    (hu : usesG rs (keyS b) (keyS a) = some u) (hu2 : u ≤ 2) (hk : (keyS a).size ≤ 12) (hok : stepsOk rs (keyS b) u (keyS a) = true) :
    Calls Tryz.prog 39 #[.slice A nn c, .string a, .string b] w (ChainsPost (chainG rs (keyS a) (keyS b)) w) := by
  obtain ⟨si, hi, hz0, hz1, hz2⟩ := info_parts infoStr
  have ec : chainG rs (keyS a) (keyS b) = (keyS a :: stepsG rs (keyS b) u (keyS a), 0) := by unfold chainG; rw [hu]
  rw [ec]
  have QB := Lib.hid (begin_ok A nn c rs a b w hn hf hv hx)
  have QU := Lib.hid (fun B m D W (h1 : Cells W A (ruleCells rs)) h2 h3 => (pathUses_any A nn c B m rs (keyS b) (keyS a) D W hk hf.short hn (by rw [hn]; have := hf.1; omega) h1 h2 h3).mono (R' := fun e w' => e = .returned (.tuple #[.int .i64 (u : Int), .bool true]) ∧ Below W.heap.size W w') (by
    rintro e w' ⟨rfl, h⟩
    exact ⟨by rw [hu]; rfl, h⟩))
  have QN := Lib.hid (fun B m D W x n (h0 : x.size ≤ 12) (h1 : Cells W A (ruleCells rs)) h2 h3 h4 h5 => pathNext_any A nn c B m n rs (keyS b) x D W h0 hf.short hn (by rw [hn]; have := hf.1; omega) h1 h2 h3 h4 h5)
  have HX := Lib.hid hx
  have HU := Lib.hid hu
  have HOK := Lib.hid hok
  clear hn hf hv hx ec hu hok
  go_enter Tryz.func39, Tryz.ntmps39
  go_wp2_with fail
  refine QB.out.mono ?_
  rintro e w1 ⟨B, m, D, rfl, ho1, hM, hBl, hb1⟩
  have hB1 := World.ownsMap.lt ho1
  have hP := heap_alloc_new w1 (.cells #[.slice A nn c, .map (some B)] 108)
  have ho2 := World.ownsMap.alloc ho1 (.cells #[.slice A nn c, .map (some B)] 108)
  have hb2 := hb1.alloc (o := .cells #[.slice A nn c, .map (some B)] 108) hb1.size
  have HM := Lib.hid hM
  have HP := Lib.hid hP
  have HO := Lib.hid ho2
  have HB := Lib.hid hb2
  have HX2 := Lib.hid (HX.out.below hb2)
  clear hM hP ho1 ho2 hb1 QB HX
  go_wp2_with fail
  have hw2 : (w1.alloc (.cells #[.slice A nn c, .map (some B)] 108)).heap.size = w1.heap.size + 1 := by simp
  generalize w1.alloc (.cells #[.slice A nn c, .map (some B)] 108) = w2 at *
  refine (QU.out B m D w2 HX2.out HO.out HM.out).mono ?_
  rintro e w3 ⟨rfl, hb3⟩
  have hP3 := (hb3.block _ (by omega)).trans HP.out
  have HO3 := Lib.hid (OwnMet.below HO.out hb3)
  have HX3 := Lib.hid (HX2.out.below hb3)
  have hb3' := HB.out.trans (hb3.mono HB.out.size)
  have HB3 := Lib.hid hb3'
  have hPs := (Array.getElem?_eq_some_iff.1 hP3).1
  have HP3 := Lib.hid hP3
  have hB3 := World.ownsMap.lt HO3.out
  clear hb2 hb3 hb3' hP3 HP HO HB HX2 QU hw2
  go_wp2_with fail
  have hrow : (w3.alloc (.cells #[.string (keyS a)] 9)).ownsRow w3.heap.size 9 1 (.slice (some ⟨w3.heap.size, 0, none⟩) 1 1) 1 [.string (keyS a)] := World.ownsRow_lit w3 _ 1 (Nat.le_refl _) (by unfold maxLen; omega) rfl
  have hbl0 : Below w3.heap.size w3 (w3.alloc (.cells #[.string (keyS a)] 9)) := (Below.refl _ _).alloc (Nat.le_refl _) _
  generalize w3.alloc (.cells #[.string (keyS a)] 9) = w4 at *
  go_loopw [8, 11, 13] (fun s8 s11 s13 wr => ∃ (x : ByteArray) (r : Nat) (L : List ByteArray), s8 = .string x ∧ s11 = .int .i64 r ∧ wr.ownsRow w3.heap.size 9 1 s13 L.length (L.map Value.string) ∧ L ++ stepsG rs (keyS b) r x = keyS a :: stepsG rs (keyS b) u (keyS a) ∧ stepsOk rs (keyS b) r x = true ∧ x.size ≤ 12 ∧ Below w3.heap.size w3 wr) (fun _ s11 _ _ => (intOf s11).toNat)
  case atStart => exact ⟨keyS a, u, [keyS a], rfl, rfl, hrow, rfl, HOK.out, hk, hbl0⟩
  case round =>
    obtain ⟨x, r, L, rfl, rfl, hown, hL, hst, hx12, hbw⟩ := hrel
    have hlen : L.length + r = u + 1 := by
      have := congrArg List.length hL
      rw [List.length_append, List.length_cons, steps_len, steps_len] at this
      omega
    have HL := Lib.hid hL
    clear hL hrow hbl0
    cases r with
    | zero =>
      go_wp2_with fail
      go_ret2
      refine ⟨_, rfl, ?_, HB3.out.trans (hbw.mono HB3.out.size)⟩
      have e : L = keyS a :: stepsG rs (keyS b) u (keyS a) := by have := HL.out; simpa [stepsG] using this
      show World.ownsRow _ _ _ _ _ (keyS a :: stepsG rs (keyS b) u (keyS a)).length (List.map Value.string (keyS a :: stepsG rs (keyS b) u (keyS a)))
      rw [← e]
      exact hown.mono HB3.out.size
    | succ r =>
      have hst' : awayL rs (keyS b) r (madeL rs x) ≠ [] ∧ (nextG rs (keyS b) x r).size ≤ 12 ∧ r ≤ 1 ∧ stepsOk rs (keyS b) r (nextG rs (keyS b) x r) = true := by
        simp only [stepsOk, Bool.and_eq_true, decide_eq_true_eq, Bool.not_eq_true', List.isEmpty_eq_false_iff] at hst
        exact ⟨hst.1.1.1, hst.1.1.2, hst.1.2, hst.2⟩
      obtain ⟨t1, t2, t3, t4⟩ := hst'
      have hPr := (hbw.block _ hPs).trans HP3.out
      have qn := QN.out B m D wr x r hx12 (HX3.out.below hbw) (OwnMet.below HO3.out hbw) HM.out t1 t3
      have QN2 := Lib.hid qn
      have hpc := block2_cells hPr
      obtain ⟨p0, p1, _, _⟩ := hpc
      have T4 := Lib.hid t4
      have hgt : (0 : Int) < (r : Int) + 1 := by omega
      have hsub : ((r + 1 : Nat) : Int) - 1 = (r : Int) := by omega
      obtain ⟨O, cap, rfl⟩ := own_form hown
      clear hst t1 qn hPr t4
      go_wp2_with fail
      refine QN2.out.mono ?_
      rintro e w5 ⟨rfl, hb5⟩
      have hown1 := own_below hown hb5
      have hb6 := hbw.trans (hb5.mono hbw.size)
      have hs1 := hb6.size
      clear hown hbw QN2 p0 p1 hb5
      go_wp2_with (at_builtin; refine wpList_append_own _ rfl _ _ 22 rfl w3.heap.size 9 si (.string ByteArray.empty) 1 16 Tryz.underlying22 hi hz0 hz1 hz2 rfl (by decide) _ _ _ rfl (hown1.alloc _) ⟨w5.heap.size, 0, none⟩ 1 1 [.string (nextG rs (keyS b) x r)] rfl rfl (cell_one_new _ _ _) (by simp [Value.oneCell']) (by unfold maxLen; omega) (by omega) (by simp; omega) ?_; intro v' wn hownN hgN _)
      have hbN := (hb6.alloc hs1 (.cells #[.string (nextG rs (keyS b) x r)] 9)).grown hgN (by simp; omega) (fun j hj => (hown1.lt j hj).1)
      go_wp2
      go_roundw
      case rel =>
        refine ⟨nextG rs (keyS b) x r, r, L ++ [nextG rs (keyS b) x r], rfl, rfl, ?_, ?_, T4.out, t2, hbN⟩
        · rw [List.length_append, List.map_append]; exact hownN
        · rw [List.append_assoc]; exact HL.out
      case measure => simp [intOf]
end Go.Proofs.YtljlkhaolfihjaaGreatDoor
