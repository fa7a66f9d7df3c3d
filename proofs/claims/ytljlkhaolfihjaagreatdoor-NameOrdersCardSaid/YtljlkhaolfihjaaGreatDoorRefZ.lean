/- The reference of names: names at a wrong place. -/
import Derived.Test.YtljlkhaolfihjaaGreatDoorKitP
import Derived.Test.YtljlkhaolfihjaaGreatDoorSpecS3
namespace Go.Proofs.YtljlkhaolfihjaaGreatDoor
open Go.RowKit Go.Shelf

def RWrongAns (ss : List ByteArray) (w : World) (e : Ending) (w' : World) : Prop :=
  ∃ (A : Option Addr) (c : Nat), e = .returned (.tuple #[.slice A (wrongL ss).length c, .int .i64 (listErr ss)]) ∧ Cells w' A ((wrongL ss).map (Value.int .i64)) ∧ Below w.heap.size w w'
theorem valid_of {ss : List ByteArray} (h : AllOk ss) : Valid ss := fun s hs => check_size (h s hs)

set_option maxRecDepth 100000 in
set_option maxHeartbeats 3200000 in
theorem rWrong_any (A : Option Addr) (n c : Nat) (ss : List ByteArray) (w : World) (hn : n = ss.length) (hx : Cells w A (ss.map Value.string)) :
    Calls Tryz.prog 21 #[.slice A n c] w (RWrongAns ss w) := by
  have QE := Lib.hid (checkList_any A n c ss w hn hx)
  unfold ListErrPost at QE
  unfold RWrongAns
  by_cases hle : listErr ss = 0
  · obtain ⟨l6, hok⟩ := list_facts hle
    have HWL : Hid (wrongL ss = wrongX ss) := Lib.hid (by unfold wrongL; rw [if_pos hle])
    rw [hle] at QE ⊢
    subst hn
    have HX := Lib.hid hx
    have HV := Lib.hid hok
    clear hx hok hle
    go_enter Tryz.func21, Tryz.ntmps21
    go_wp2_with fail
    refine QE.out.mono ?_
    rintro e w1 ⟨rfl, hb1⟩
    have C1 := Lib.hid (HX.out.below hb1)
    clear QE HX
    go_wp2_with fail
    go_loopw [5, 6, 7] (fun kv _ _ wr => ∃ k : Nat, k ≤ ss.length + 1 ∧ kv = .int .i64 k ∧ Hid (∀ x, x ∈ lessI ss.length k → fineI ss x = false) ∧ Below w1.heap.size w1 wr) (fun kv _ _ _ => ss.length + 1 - (intOf kv).toNat)
    case atStart => exact ⟨0, Nat.zero_le _, rfl, Lib.hid (fun x hx => by simp [lessI, allI] at hx), Below.refl _ _⟩
    case round =>
      obtain ⟨k, hk, rfl, hless, t0⟩ := hrel
      by_cases hkl : k ≤ ss.length
      · have j1 : (k : Int) ≤ (ss.length : Int) := by omega
        have qs := picks_any k 0 ss.length wr (by omega) (by omega) (by omega)
        have QS := Lib.hid (show Calls Tryz.prog 62 #[.int .i64 0, .int .i64 (ss.length : Nat), .int .i64 (k : Nat)] wr (SubsPost (subsL k 0 ss.length) wr) from qs)
        unfold SubsPost at QS
        clear qs
        have hsl : (subsL k 0 ss.length).length ≤ 4096 := Nat.le_trans (subsL_len k 0 ss.length) (show (2 : Nat) ^ (ss.length - 0) ≤ 2 ^ 12 from Nat.pow_le_pow_right (by decide) (by omega))
        have HR : Hid (∀ i (h : i < (subsL k 0 ss.length).length), ((subsL k 0 ss.length)[i]).length ≤ 6) := Lib.hid fun i h => by rw [subsL_row k 0 ss.length _ (List.getElem_mem h)]; omega
        have HWF : Hid (∀ i (h : i < (subsL k 0 ss.length).length), (∀ x, x ∈ (subsL k 0 ss.length).take i → fineI ss x = false) → fineI ss (subsL k 0 ss.length)[i] = true → wrongL ss = (subsL k 0 ss.length)[i]) := Lib.hid fun i h h2 h3 => by
          rw [HWL.out]; exact wrong_first hkl h hless.out h2 h3
        have HNX : Hid ((∀ x, x ∈ subsL k 0 ss.length → fineI ss x = false) → ∀ x, x ∈ lessI ss.length (k + 1) → fineI ss x = false) := Lib.hid fun h x hx => by
          rw [lessI_succ] at hx
          rcases List.mem_append.1 hx with hx | hx
          · exact hless.out x hx
          · exact h x hx
        generalize subsL k 0 ss.length = S at *
        clear hless
        go_wp2_with fail
        refine QS.out.mono ?_
        rintro e w6 ⟨ol, vs, rfl, hol, hrl, hb6⟩
        obtain ⟨AL, cl, rfl⟩ := own_form hol
        have CL := Lib.hid (IntLists.of hol hrl)
        have t1 := t0.trans (hb6.mono t0.size)
        have ht1 := t1.size
        clear QS hol hrl hb6 t0
        go_wp2_with fail
        go_loopw [7] (fun iv wi => ∃ i : Nat, i ≤ S.length ∧ iv = .int .i64 i ∧ Hid (∀ x, x ∈ S.take i → fineI ss x = false) ∧ Below w6.heap.size w6 wi) (fun iv _ => S.length - (intOf iv).toNat)
        case atStart => exact ⟨0, Nat.zero_le _, rfl, Lib.hid (fun x hx => by simp at hx), Below.refl _ _⟩
        case round =>
          obtain ⟨i, hi, rfl, hno, t2⟩ := hrel
          by_cases hil : i < S.length
          · obtain ⟨b1, o1, Ai, ci, rfl, c1, c2⟩ := (CL.out.below t2) i hil
            have hri := HR.out i hil
            have HHIT := Lib.hid (HWF.out i hil hno.out)
            have HMISS := Lib.hid (take_false (p := fineI ss) hil hno.out)
            have t3 := t1.trans (t2.mono ht1)
            have q := Without_any A Ai ss.length c (S[i]).length ci ss S[i] wr rfl rfl (by omega) (by omega) (C1.out.below t3) c2
            unfold WithoutPost at q
            have QWO := Lib.hid q
            have hlw := withoutFrom_len S[i] ss 0
            have QLO := Lib.hid (fun (B : Option Addr) (c : Nat) W (hW : Cells W B ((withoutFrom S[i] 0 ss).map Value.string)) => ordered_any B (withoutFrom S[i] 0 ss).length c (withoutFrom S[i] 0 ss) W rfl (by omega) (valid_of fun s hs => HV.out s (withoutFrom_sub _ _ _ s hs)) hW)
            unfold OrderedPost at QLO
            have hfi : orderedB (withoutFrom S[i] 0 ss) = fineI ss S[i] := ordered_eq _
            have C2 := Lib.hid c2
            generalize S[i] = X at *
            generalize withoutFrom X 0 ss = RS at *
            rw [hfi] at QLO
            have i0 : (0 : Int) ≤ (i : Int) := by omega
            have i1 : (i : Int) < (S.length : Int) := by omega
            clear q c2 hno hfi
            cases hfx : fineI ss X with
            | true =>
              have hwx := HHIT.out hfx
              rw [hfx] at QLO
              have HWX := Lib.hid hwx
              clear HHIT HMISS hfx hwx
              go_wp2_with fail
              refine QWO.out.mono ?_
              rintro e w7 ⟨o7, rfl, ho7, hb7⟩
              obtain ⟨A7, c7, rfl⟩ := own_form ho7
              have C7 := Lib.hid (cells_own ho7)
              clear ho7 QWO
              go_wp2_with fail
              refine (QLO.out A7 c7 _ C7.out).mono ?_
              rintro e w8 ⟨rfl, hb8⟩
              have t4 := hb7.trans (hb8.mono hb7.size)
              have c8 := (t4.cell (World.block_lt_of_cell? _ _ c1)).trans c1
              have C8 := Lib.hid (C2.out.below t4)
              have t5 := hb1.trans ((t3.trans (t4.mono t3.size)).mono hb1.size)
              clear hb7 hb8 QLO C7 t4
              go_wp2_with fail
              go_ret2
              exact ⟨Ai, ci, by rw [HWX.out]; rfl, by rw [HWX.out]; exact C8.out, t5⟩
            | false =>
              have hms := HMISS.out hfx
              have HMS := Lib.hid hms
              rw [hfx] at QLO
              clear HHIT HMISS hfx hms
              go_wp2_with fail
              refine QWO.out.mono ?_
              rintro e w7 ⟨o7, rfl, ho7, hb7⟩
              obtain ⟨A7, c7, rfl⟩ := own_form ho7
              have C7 := Lib.hid (cells_own ho7)
              clear ho7 QWO
              go_wp2_with fail
              refine (QLO.out A7 c7 _ C7.out).mono ?_
              rintro e w8 ⟨rfl, hb8⟩
              have t4 := t2.trans ((hb7.trans (hb8.mono hb7.size)).mono t2.size)
              clear hb7 hb8 QLO C7
              go_wp2_with fail
              go_roundw
              case rel => exact ⟨i + 1, by omega, by go_num, HMS, t4⟩
              case measure => simp [intOf]; omega
          · have hall : Hid (∀ x, x ∈ lessI ss.length (k + 1) → fineI ss x = false) := Lib.hid (HNX.out fun x hx => hno.out x (by rw [List.take_of_length_le (by omega)]; exact hx))
            clear hno HNX
            go_wp2_with fail
            go_roundw
            case rel => exact ⟨k + 1, by omega, by go_num, hall, t1.trans (t2.mono ht1)⟩
            case measure => simp [intOf]; omega
      · have hkk : k = ss.length + 1 := by omega
        exact (wrong_some (by rw [← hkk]; exact hless.out)).elim
  · have hne : (listErr ss != 0) = true := by simpa using hle
    have hwl : wrongL ss = [] := by unfold wrongL; rw [if_neg hle]
    rw [hwl]
    generalize listErr ss = E at *
    clear hn hx hle hwl
    go_enter Tryz.func21, Tryz.ntmps21
    go_wp2_with fail
    refine QE.out.mono ?_
    rintro e w1 ⟨rfl, hb1⟩
    go_wp2_with fail
    go_ret2
    exact ⟨none, 0, rfl, (fun i hi => absurd hi (by simp)), hb1⟩
end Go.Proofs.YtljlkhaolfihjaaGreatDoor
