/- What is set in a column. -/
import Derived.Test.YtapagncaadjiaaaGreatDoorPgR
namespace Go.Proofs.YtapagncaadjiaaaGreatDoor
open Go.RowKit Go.Shelf

def downTo (wd m : Nat) : List Nat := (List.range (wd - 1 - m)).map fun j => wd - 1 - j
theorem downTo_start (wd : Nat) : downTo wd (wd - 1) = [] := by unfold downTo; simp
theorem downTo_step (wd m : Nat) (h : 1 ≤ m) (h2 : m + 1 ≤ wd) : downTo wd (m - 1) = downTo wd m ++ [m] := by
  unfold downTo
  rw [show wd - 1 - (m - 1) = (wd - 1 - m) + 1 by omega, List.range_succ, List.map_append]
  simp
  omega

set_option maxRecDepth 100000 in
set_option maxHeartbeats 3200000 in
theorem Fit_ok (A : Option Addr) (n c i wd : Nat) (ss : List ByteArray) (w : World) (hn : n = ss.length) (hb : n ≤ 6) (hv : AllOk ss) (hx : Cells w A (ss.map Value.string)) (hi : i < n) (hw1 : 1 ≤ wd) (hw2 : wd < (keyS (ss.getD i ByteArray.empty)).size) :
    Calls Tryz.prog 56 #[.slice A n c, .int .i64 i, .int .i64 wd] w (FoundPost (fitG ss i wd) w) := by
  obtain ⟨si, hif, hz0, hz1, hz2⟩ := info_parts infoSeq
  have QB := Lib.hid (beginLine_ok A n c i ss w hn hb hv hx hi)
  have his : i < ss.length := by omega
  have hK : ∃ K, keyS (ss.getD i ByteArray.empty) = K := ⟨_, rfl⟩
  obtain ⟨K, hK⟩ := hK
  have hkf : (1 ≤ K.size ∧ K.size ≤ 12) ∧ Asc K := by
    rw [← hK, List.getD_eq_getElem?_getD, List.getElem?_eq_getElem his]
    exact key_facts (hv _ (List.getElem_mem his))
  have hol := othersB_le ss i hv
  have hon : (othersB ss i).length ≤ 1000 := by
    have := othersB_len ss i
    omega
  have hkd : Sp.key (at' ss i) = K.data.toList := by
    rw [at_get ss i his, ← hK, List.getD_eq_getElem?_getD, List.getElem?_eq_getElem his]; rfl
  rw [hK] at hw2
  have hsp : fitG ss i wd = firstG ((othersB ss i).map fun o => o.data.toList) ((downTo wd 0).map (cutsG K.data.toList)) := by
    unfold fitG
    rw [others_eq ss i his, hkd, size_list K, if_neg (by omega)]
    unfold downTo
    rw [List.map_map]
    rfl
  have w1 : ¬ ((wd : Int) < 1) := by omega
  have w3 : decide ((wd : Int) < 1) = false := decide_eq_false (by omega)
  have w4 : decide (K.size ≤ wd) = false := decide_eq_false (by omega)
  have w2 : ¬ ((K.size : Int) ≤ (wd : Int)) := by omega
  obtain ⟨⟨k1, k12⟩, kA⟩ := hkf
  unfold LinePost at QB
  rw [hK] at QB
  have HSP := Lib.hid hsp
  have HOL := Lib.hid hol
  have HON := Lib.hid hon
  have HKA := Lib.hid kA
  clear hn hv hx hsp hol hon kA hK
  go_enter Tryz.func56, Tryz.ntmps56
  go_wp2_with fail
  refine QB.out.mono ?_
  rintro e w1 ⟨B, n2, c2, rfl, hn2, hcs, hb1⟩
  have hP := heap_alloc_new w1 (.cells #[.string K, .slice B n2 c2] 141)
  have hbP : Below w1.heap.size w1 (w1.alloc (.cells #[.string K, .slice B n2 c2] 141)) := (Below.refl _ _).alloc (Nat.le_refl _) _
  have hPs : (w1.alloc (.cells #[.string K, .slice B n2 c2] 141)).heap.size = w1.heap.size + 1 := by simp
  have HN2 := Lib.hid hn2
  clear QB hn2
  go_wp2_with fail
  generalize w1.alloc (.cells #[.string K, .slice B n2 c2] 141) = W0 at *
  have hcs0 := hcs.below hbP
  have hb0 := hb1.trans (hbP.mono hb1.size)
  generalize w1.heap.size = Pb at *
  have HCS := Lib.hid hcs0
  have HB0 := Lib.hid hb0
  clear hcs hcs0 hb0 hb1 hbP
  go_loopw [10, 11] (fun s8 s9 wr => ∃ (m : Nat) (bs : List Nat), m + 1 ≤ wd ∧ s9 = .int .i64 m ∧ SeqRow W0.heap.size K (downTo wd m) bs s8 wr ∧ Below W0.heap.size W0 wr) (fun _ s9 _ => (intOf s9).toNat)
  case atStart => exact ⟨wd - 1, [], by omega, by go_num, by rw [downTo_start]; exact SeqRow.none _ _ _, Below.refl _ _⟩
  case round =>
    obtain ⟨m, bs, hm1, rfl, hrow, hb⟩ := hrel
    obtain ⟨p0, p1, p2, p3⟩ := block2_cells ((hb.block Pb (by omega)).trans hP)
    obtain ⟨O, cp, rfl⟩ := own_form hrow.row
    have hsw := hb.size
    by_cases hlt : 1 ≤ m
    · have hlti : (1 : Int) ≤ (m : Int) := by omega
      have hl5 : (downTo wd m).length ≤ 12 := by unfold downTo; simp; omega
      have hbc : Below wr.heap.size wr ((wr.alloc (.cells #[.string K] 86)).alloc (.cells #[.int .i64 m] 3)) := ((Below.refl _ wr).alloc (Nat.le_refl _) _).alloc (by simp) _
      have hrow2 := (hrow.row.alloc (.cells #[.string K] 86)).alloc (.cells #[.int .i64 m] 3)
      have HROW := Lib.hid hrow
      clear hrow
      go_wp2_with fail
      refine (cuts_any K m wr).mono ?_
      rintro e w' ⟨rfl, rfl⟩
      have hone : ∀ (j : Nat) (u : Value), [seqV wr.heap.size][j]? = some u → ((((wr.alloc (.cells #[.string K] 86)).alloc (.cells #[.int .i64 m] 3)).alloc (.cells #[seqV wr.heap.size] 146)).cell? ((⟨wr.heap.size + 2, 0, none⟩ : Addr).add j) = some u) := by
        have := cell_one_new ((wr.alloc (.cells #[.string K] 86)).alloc (.cells #[.int .i64 m] 3)) (seqV wr.heap.size) 146
        rwa [World.size_alloc, World.size_alloc] at this
      unfold seqV at hone
      go_wp2_with (at_builtin; refine wpList_append_own _ rfl _ _ 144 rfl W0.heap.size 146 si .nilFunc 1 8 Tryz.underlying144 hif hz0 hz1 hz2 rfl (by decide) _ _ _ rfl (hrow2.alloc _) ⟨wr.heap.size + 2, 0, none⟩ 1 1 [seqV wr.heap.size] rfl rfl hone (by simp [Value.oneCell', seqV]) (by unfold maxLen; omega) (by omega) (by simp; omega) ?_; intro v' wn hownN hgN _)
      have hbN := (((hb.trans (hbc.mono (by omega))).alloc (by simp; omega) (.cells #[seqV wr.heap.size] 146)).grown hgN (by simp; omega) (fun j hj => (hrow2.lt j hj).1))
      exact ⟨⟨m - 1, bs ++ [wr.heap.size], by omega, by go_num, by rw [downTo_step wd m hlt hm1]; exact HROW.out.step hgN (by simpa using hownN), hbN⟩, by simp [intOf]; omega⟩
    · have hmk : m = 0 := by omega
      subst hmk
      have hlti : ¬ ((1 : Int) ≤ ((0 : Nat) : Int)) := by omega
      have hl5 : (downTo wd 0).length ≤ 12 := by unfold downTo; simp; omega
      have q := lineFirst_any O B (downTo wd 0).length cp n2 c2 K K (downTo wd 0) (othersB ss i) wr rfl hl5 (fun x hx => by
        unfold downTo at hx
        obtain ⟨y, hy, rfl⟩ := List.mem_map.1 hx
        have := List.mem_range.1 hy
        omega) k1 k12 HKA.out (hrow.seqs rfl) HN2.out (by rw [HN2.out]; exact HON.out) HOL.out (HCS.out.below (hb.mono (Nat.le_refl _)))
      have Q := Lib.hid q
      have hbe := HB0.out.trans (hb.mono (by have := HB0.out.size; omega))
      clear q hrow
      go_wp2_with fail
      refine Q.out.mono ?_
      rintro e w' ⟨s, hs, rfl, hb2⟩
      have hbf := hbe.trans (hb2.mono hbe.size)
      go_wp2_with fail
      go_ret2
      exact ⟨s, by rw [HSP.out, hs], by rw [HSP.out]; rfl, hbf⟩
end Go.Proofs.YtapagncaadjiaaaGreatDoor
