/- The iterator of abbreviations. -/
import Derived.Test.YtljlkhaolfihjaaGreatDoorPgM
import Derived.StillTailTactics
namespace Go.Proofs.YtljlkhaolfihjaaGreatDoor
open Go.RowKit Go.Shelf

attribute [local go_sem] Oper.semAt_some

def Asc (x : ByteArray) : Prop := ∀ b, b ∈ x.data.toList → b.toNat < 128
abbrev KL := { x : ByteArray // (1 ≤ x.size ∧ x.size ≤ 12) ∧ Asc x }
def packL (L : List (List UInt8)) : List ByteArray := L.map fun x => ⟨x.toArray⟩
def upToG (d : Nat) (a rest : List UInt8) (j : Nat) : List (List UInt8) := ((firstsG rest).take j).flatMap fun at_ => growG d (a ++ [rest.getD at_ 0]) (rest.drop (at_ + 1))
theorem upToG_succ (d : Nat) (a rest : List UInt8) (j : Nat) (h : j < (firstsG rest).length) : upToG d a rest (j + 1) = upToG d a rest j ++ growG d (a ++ [rest.getD (firstsG rest)[j] 0]) (rest.drop ((firstsG rest)[j] + 1)) := by
  unfold upToG
  rw [List.take_succ_eq_append_getElem h, List.flatMap_append]; simp
theorem upToG_all (d : Nat) (a rest : List UInt8) : upToG d a rest (firstsG rest).length = growG (d + 1) a rest := by
  unfold upToG
  rw [List.take_length]; rfl
theorem upToG_pre (d : Nat) (a rest : List UInt8) (j : Nat) : upToG d a rest j <+: growG (d + 1) a rest := by
  rw [← upToG_all]
  unfold upToG
  rw [List.take_length]
  conv => rhs; rw [← List.take_append_drop j (firstsG rest), List.flatMap_append]
  exact List.prefix_append _ _
theorem packL_append (A B : List (List UInt8)) : packL (A ++ B) = packL A ++ packL B := List.map_append
theorem packL_pre {A B : List (List UInt8)} (h : A <+: B) : packL A <+: packL B := h.map _

theorem cells_typed {W W' : World} {A : Option Addr} {xs : List Value} {t : TypeId} (h : Cells W A xs) (ht : ∀ a, A = some a → ∃ c fz, W.heap[a.block]? = some (.cells c t fz)) (hk : ∀ (k : Nat) c fz, W.heap[k]? = some (.cells c t fz) → W'.heap[k]? = some (.cells c t fz)) : Cells W' A xs := by
  intro i hi
  obtain ⟨b, off, e, hc⟩ := h i hi
  obtain ⟨c, fz, hb⟩ := ht _ e
  have hb2 := hk _ _ _ hb
  refine ⟨b, off, e, ?_⟩
  rw [Lib.cell_of_heap hb2, ← hc, Lib.cell_of_heap hb]

/-- What the closures of cuts find in memory. -/
structure CutW (Bn By Bg l nn : Nat) (W : World) : Prop where
  n : W.heap[Bn]? = some (.cells #[.int .i64 nn] 3 (0, 0))
  y : W.heap[By]? = some (.cells #[.func (.yield l) #[] #[]] 116 (0, 0))
  g : W.heap[Bg]? = some (.cells #[.func (.func 104) #[] #[.pointer (some ⟨Bn, 0, none⟩), .pointer (some ⟨By, 0, none⟩), .pointer (some ⟨Bg, 0, none⟩)]] 159 (0, 0))
abbrev cutTs : List TypeId := [116, 159, 3]
theorem CutW.kept {Bn By Bg l nn n₀ : Nat} {Bs : List Nat} {W W' : World} (h : CutW Bn By Bg l nn W) (k : KpX n₀ Bs cutTs W W') : CutW Bn By Bg l nn W' :=
  ⟨k.typed _ _ _ _ (by simp) h.n, k.typed _ _ _ _ (by simp) h.y, k.typed _ _ _ _ (by simp) h.g⟩

def GrowPost (n₀ : Nat) (Bs : List Nat) (J Jx : List ByteArray → World → Prop) (pre : List ByteArray) (L : List (List UInt8)) (W : World) (e : Ending) (W' : World) : Prop :=
  (e = .returned (.bool true) ∧ J (pre ++ packL L) W' ∧ KpX n₀ Bs cutTs W W') ∨ (e = .returned (.bool false) ∧ ∃ q, q <+: packL L ∧ Jx (pre ++ q) W')
def GrowY (n₀ N l : Nat) (Bs : List Nat) (J Jx : List ByteArray → World → Prop) : Prop :=
  ∀ m pre (x : ByteArray) W, ((1 ≤ x.size ∧ x.size ≤ 12) ∧ Asc x) → J pre W → pre.length < N → YieldAt Fence.wide m Tryz.prog l #[.string x] W fun e W' =>
      (e = .returned (.bool true) ∧ J (pre ++ [x]) W' ∧ KpX n₀ Bs cutTs W W') ∨ (e = .returned (.bool false) ∧ Jx (pre ++ [x]) W')

set_option maxRecDepth 100000 in
set_option maxHeartbeats 1600000 in
theorem grow_base (l nn Bn By Bg n₀ N : Nat) (Bs : List Nat) (letters rest : ByteArray) (J Jx : List ByteArray → World → Prop) (hY : GrowY n₀ N l Bs J Jx) (hnn : letters.size = nn) (hx : (1 ≤ letters.size ∧ letters.size ≤ 12) ∧ Asc letters)
    (pre : List ByteArray) (W : World) (hW : CutW Bn By Bg l nn W) (hJ : J pre W) (hN : pre.length < N) :
    Calls Tryz.prog 104 #[.string letters, .string rest, .pointer (some ⟨Bn, 0, none⟩), .pointer (some ⟨By, 0, none⟩), .pointer (some ⟨Bg, 0, none⟩)] W (GrowPost n₀ Bs J Jx pre [letters.data.toList] W) := by
  obtain ⟨c1, _⟩ := cells_at hW.n
  obtain ⟨c2, _⟩ := cells_at hW.y
  obtain ⟨fn, tmps, assign, body, hy, hR⟩ := hY 9 pre letters W hx hJ hN
  have HR := Lib.hid hR
  have hne : ((letters.size : Int) == (nn : Int)) = true := by rw [hnn]; simp
  clear hR hY hJ
  refine (callsIn_wide (n := 10)).1 (callsIn_of_wp Tryz.func104 rfl trivial ?_ rfl)
  simp only [Tryz.ntmps104, List.size_toArray, List.length_cons, List.length_nil, Nat.reduceAdd, Nat.reduceSub, Array.replicate_succ, Array.replicate_zero, List.push_toArray, List.append_toArray, List.nil_append, List.cons_append]
  gi_wp2
  refine RoundIn.mono HR.out ?_
  rintro e W3 (⟨rfl, hJ3, hk3⟩ | ⟨rfl, hx3⟩)
  · gi_wp2
    go_ret
    exact .inl ⟨rfl, hJ3, hk3⟩
  · gi_wp2
    go_ret
    exact .inr ⟨rfl, [letters], List.prefix_rfl, hx3⟩

theorem ext_one (s : ByteArray) (i : Nat) (h : i < s.size) : (s.extract i (i + 1)).data.toList = [s.data.toList.getD i 0] := by
  have h2 : i < s.data.toList.length := by simpa using h
  rw [ByteArray.data_extract, Array.toList_extract, List.extract_eq_take_drop]
  rw [show i + 1 - i = 1 by omega, List.drop_eq_getElem_cons h2, List.getD_eq_getElem?_getD, List.getElem?_eq_getElem h2]
  rfl
theorem firstsG_len (l : List UInt8) : (firstsG l).length ≤ l.length := by
  unfold firstsG sortNat
  rw [Array.length_toList, insF_size2, List.size_toArray]
  exact firstsAt_len l l.length
theorem below_grown {A C : World} (h : Below A.heap.size A C) : A.grownBy C none := ⟨h.os, h.tape, h.output, h.size, fun k hk _ => h.block k hk⟩

set_option maxRecDepth 100000 in
set_option maxHeartbeats 3200000 in
theorem grow_any (l nn Bn By Bg n₀ N : Nat) (Bs : List Nat) (J Jx : List ByteArray → World → Prop) (hY : GrowY n₀ N l Bs J Jx) (hJw : ∀ pre A C, J pre A → Below A.heap.size A C → J pre C) (hnn : nn ≤ 12) :
    ∀ (d : Nat) (letters rest : ByteArray) (pre : List ByteArray) (W : World), letters.size + d = nn → 1 ≤ letters.size → rest.size ≤ 12 → Asc letters → Asc rest → CutW Bn By Bg l nn W → J pre W → pre.length + (growG d letters.data.toList rest.data.toList).length ≤ N → n₀ ≤ W.heap.size → (∀ b, b ∈ Bs → b < W.heap.size) →
    Calls Tryz.prog 104 #[.string letters, .string rest, .pointer (some ⟨Bn, 0, none⟩), .pointer (some ⟨By, 0, none⟩), .pointer (some ⟨Bg, 0, none⟩)] W (GrowPost n₀ Bs J Jx pre (growG d letters.data.toList rest.data.toList) W) := by
  intro d
  induction d with
  | zero =>
    intro letters rest pre W h1 h2 h3 h4 _ hW hJ hN _ _
    exact grow_base l nn Bn By Bg n₀ N Bs letters rest J Jx hY (by omega) ⟨⟨h2, by omega⟩, h4⟩ pre W hW hJ (by have h9 : (growG 0 letters.data.toList rest.data.toList).length = 1 := rfl; omega)
  | succ d ih =>
    intro letters rest pre W h1 h2 h3 h4 h5 hW hJ hN hn0 hBs
    have HIH := Lib.hid ih
    have HW := Lib.hid hW
    have HJ := Lib.hid hJ
    have HN := Lib.hid hN
    have H4 := Lib.hid h4
    have H5 := Lib.hid h5
    have HJW := Lib.hid hJw
    have HBS := Lib.hid hBs
    have HR := Lib.hid (size_list rest)
    have HL := Lib.hid (size_list letters)
    obtain ⟨c1, _⟩ := cells_at hW.n
    have hne : ((letters.size : Int) == (nn : Int)) = false := by rw [beq_eq_false_iff_ne]; omega
    have Q1 := Lib.hid (firsts_any rest W h3)
    clear ih hW hJ hN h4 h5 hJw hBs hY
    go_enter Tryz.func104, Tryz.ntmps104
    go_wp2_with fail
    refine Q1.out.mono ?_
    rintro e w1 ⟨A, n, c, rfl, hn, hcs, hb1, hty⟩
    have HJ1 := Lib.hid (HJW.out _ _ _ HJ.out hb1)
    have k01 : KpX n₀ Bs cutTs W w1 := KpX.of_below hb1 hn0 HBS.out
    have hn12 : n ≤ 12 := by have := firstsG_len rest.data.toList; rw [← hn, HR.out] at this; omega
    have HN2 := Lib.hid hn
    have HCS := Lib.hid hcs
    have HTY := Lib.hid hty
    have HK01 := Lib.hid k01
    clear Q1 hn hcs hb1 hty k01 HJ
    go_wp2_with fail
    go_loopw [20] (fun i wr => ∃ j : Nat, j ≤ n ∧ i = .int .i64 j ∧ J (pre ++ packL (upToG d letters.data.toList rest.data.toList j)) wr ∧ KpX n₀ Bs cutTs w1 wr ∧ W.heap.size ≤ wr.heap.size) (fun i _ => n - (intOf i).toNat)
    case atStart => exact ⟨0, Nat.zero_le _, rfl, by simpa [upToG, packL] using HJ1.out, KpX.refl _ _ _ _, HK01.out.below.size⟩
    case round =>
      obtain ⟨j, hj, rfl, hJj, hkp, hsz⟩ := hrel
      by_cases hlt : j < n
      · have hjs : j < (firstsG rest.data.toList).length := by rw [← HN2.out]; exact hlt
        have hcj := cells_typed HCS.out HTY.out (fun k c fz h => hkp.typed k c _ fz (by simp) h)
        obtain ⟨b, off, hA, hc⟩ := hcj j (by simpa using hjs)
        subst hA
        have hat := firstsG_lt (List.getElem_mem hjs)
        rw [HR.out] at hat
        rw [List.getD_eq_getElem?_getD, List.getElem?_map, List.getElem?_eq_getElem hjs] at hc
        replace hc : wr.cell? ⟨b, off + j, none⟩ = some (.int .i64 ((firstsG rest.data.toList)[j] : Int)) := hc
        have hst := upToG_succ d letters.data.toList rest.data.toList j hjs
        have hpr := upToG_pre d letters.data.toList rest.data.toList (j + 1)
        generalize (firstsG rest.data.toList)[j] = at_ at *
        have hW2 := (HW.out.kept HK01.out).kept hkp
        obtain ⟨g1, _⟩ := cells_at hW2.g
        have HW2 := Lib.hid hW2
        have HST := Lib.hid hst
        have HPR := Lib.hid hpr
        have j4 : (j : Int) < (n : Int) := by omega
        have j5 : (0 : Int) ≤ (j : Int) := by omega
        have a0 : (0 : Int) ≤ (at_ : Int) := by omega
        have a1 : (at_ : Int) ≤ (at_ : Int) + 1 := by omega
        have a2 : (at_ : Int) + 1 ≤ (rest.size : Int) := by omega
        have a3 : (0 : Int) ≤ (at_ : Int) + 1 := by omega
        have HJJ := Lib.hid hJj
        have hwr : IntKind.i64.wrap ((at_ : Int) + 1) = (at_ : Int) + 1 := IntWalk.i64_in _ (by omega)
        have hbig : ¬ (9223372036854775807 < letters.size + (min (at_ + 1) rest.size - at_)) := by omega
        clear hst hpr hW2 hcj hJj
        go_wp2_with fail
        go_still_tail 12, (by kernel_rfl)
        have hq : Calls Tryz.prog 104 #[.string (letters ++ rest.extract at_ (at_ + 1)), .string (rest.extract (at_ + 1) rest.size), .pointer (some ⟨Bn, 0, none⟩), .pointer (some ⟨By, 0, none⟩), .pointer (some ⟨Bg, 0, none⟩)] wr.drew
            (GrowPost n₀ Bs J Jx (pre ++ packL (upToG d letters.data.toList rest.data.toList j)) (growG d (letters.data.toList ++ [rest.data.toList.getD at_ 0]) (rest.data.toList.drop (at_ + 1))) wr.drew) := by
          have e1 : (letters ++ rest.extract at_ (at_ + 1)).data.toList = letters.data.toList ++ [rest.data.toList.getD at_ 0] := by
            rw [ByteArray.data_append, Array.toList_append, ext_one rest at_ (by omega)]
          have e2 : (rest.extract (at_ + 1) rest.size).data.toList = rest.data.toList.drop (at_ + 1) := ext_drop rest (at_ + 1)
          have hb0 : Below wr.heap.size wr wr.drew := drewB _ _
          have q := HIH.out (letters ++ rest.extract at_ (at_ + 1)) (rest.extract (at_ + 1) rest.size) (pre ++ packL (upToG d letters.data.toList rest.data.toList j)) wr.drew
            (by rw [ByteArray.size_append, ByteArray.size_extract]; omega) (by rw [ByteArray.size_append]; omega) (by rw [ByteArray.size_extract]; omega)
            (by
              unfold Asc
              rw [e1]
              intro x hx
              rcases List.mem_append.1 hx with h | h
              · exact H4.out x h
              · rw [List.mem_singleton] at h
                subst h
                rw [List.getD_eq_getElem?_getD, List.getElem?_eq_getElem (by rw [HR.out]; omega)]
                exact H5.out _ (List.getElem_mem _))
            (by
              unfold Asc
              rw [e2]
              intro x hx
              exact H5.out x (List.mem_of_mem_drop hx))
            ⟨HW2.out.n, HW2.out.y, HW2.out.g⟩ (HJW.out _ _ _ HJJ.out hb0)
            (by
              rw [e1, e2]
              have h1 := HPR.out.length_le
              rw [HST.out, List.length_append] at h1
              have h2 := HN.out
              rw [List.length_append]
              have h3 : (packL (upToG d letters.data.toList rest.data.toList j)).length = (upToG d letters.data.toList rest.data.toList j).length := by unfold packL; simp
              omega)
            (by show n₀ ≤ wr.heap.size; omega) (fun b hb => by show b < wr.heap.size; have := HBS.out b hb; omega)
          rw [e1, e2] at q
          exact q
        have HQ := Lib.hid hq
        clear hq
        change wpList _ _ _ _ _ wr.drew
        go_wp2_with fail
        refine HQ.out.mono ?_
        have kd : KpX n₀ Bs cutTs wr wr.drew := ⟨⟨rfl, rfl, rfl, Nat.le_refl _, fun _ _ => rfl⟩, fun _ _ => rfl, fun _ _ _ _ _ h => h⟩
        rintro e w3 (⟨rfl, hJ3, hk3⟩ | ⟨rfl, q, hq, hx⟩)
        · have hJ4 : J (pre ++ packL (upToG d letters.data.toList rest.data.toList (j + 1))) w3 := by
            rw [HST.out, packL_append, ← List.append_assoc]; exact hJ3
          have hk4 := (hkp.trans kd).trans hk3
          have hsz3 := hk3.below.size
          have hsz4 : W.heap.size ≤ w3.heap.size := Nat.le_trans hsz hsz3
          clear HQ hJ3 hk3 hkp kd hsz3
          go_wp2
          go_roundw
          case rel => exact ⟨j + 1, by omega, by go_num, hJ4, hk4, hsz4⟩
          case measure => simp [intOf]; omega
        · have hp2 : packL (upToG d letters.data.toList rest.data.toList j) ++ q <+: packL (growG (d + 1) letters.data.toList rest.data.toList) := by
            refine List.IsPrefix.trans ?_ (packL_pre HPR.out)
            rw [HST.out, packL_append]
            exact (List.prefix_append_right_inj _).2 hq
          rw [List.append_assoc] at hx
          clear HQ hkp kd
          go_wp2
          go_ret
          exact .inr ⟨rfl, _, hp2, hx⟩
      · have hjn : j = (firstsG rest.data.toList).length := by rw [← HN2.out]; omega
        have hJ4 : J (pre ++ packL (growG (d + 1) letters.data.toList rest.data.toList)) wr := by
          rw [← upToG_all, ← hjn]; exact hJj
        have hk4 := HK01.out.trans hkp
        have hjx : ¬ ((j : Int) < (n : Int)) := by omega
        clear hJj hkp hjn
        go_wp2
        go_ret
        exact .inl ⟨rfl, hJ4, hk4⟩
end Go.Proofs.YtljlkhaolfihjaaGreatDoor
