/- The shortest abbreviation, and what is set in a column. -/
import Derived.Test.YtapagncaadjiaaaGreatDoorPgQ
import Derived.Test.YtapagncaadjiaaaGreatDoorPgQf
namespace Go.Proofs.YtapagncaadjiaaaGreatDoor
open Go.RowKit Go.Shelf

def seqV (p : Nat) : Value := .func (.func 137) #[] #[.pointer (some ⟨p + 1, 0, none⟩), .pointer (some ⟨p, 0, none⟩)]
structure SeqRow (base : Nat) (k : ByteArray) (ns bs : List Nat) (v : Value) (W : World) : Prop where
  len : bs.length = ns.length
  row : W.ownsRow base 146 1 v ns.length (bs.map seqV)
  at_ : ∀ (j : Nat) (h : j < ns.length), W.heap[bs.getD j 0]? = some (.cells #[.string k] 86 (0, 0)) ∧ W.heap[bs.getD j 0 + 1]? = some (.cells #[.int .i64 (ns[j] : Nat)] 3 (0, 0))
theorem SeqRow.seqs {base : Nat} {k : ByteArray} {ns bs : List Nat} {W : World} {A : Option Addr} {n c : Nat} (hn : n = ns.length) (h : SeqRow base k ns bs (.slice A n c) W) : SeqsAt W A k ns := by
  subst hn
  intro i hi
  have hc := cells_own h.row
  obtain ⟨b, off, e, hb⟩ := hc i (by simp [h.len]; exact hi)
  obtain ⟨a1, a2⟩ := h.at_ i hi
  have hil : i < bs.length := by rw [h.len]; exact hi
  refine ⟨b, off, bs.getD i 0 + 1, bs.getD i 0, e, ?_, a2, (cells_at a1).1⟩
  rw [hb, List.getD_eq_getElem?_getD, List.getElem?_map, List.getElem?_eq_getElem hil, List.getD_eq_getElem?_getD, List.getElem?_eq_getElem hil]
  rfl
theorem SeqRow.none (base : Nat) (k : ByteArray) (W : World) : SeqRow base k [] [] (.slice none 0 0) W := ⟨rfl, World.ownsRow_nil _ _ _ _, fun j h => by simp at h⟩
theorem SeqRow.step {base : Nat} {k : ByteArray} {ns bs : List Nat} {v v' : Value} {W wn : World} {m : Nat} (h : SeqRow base k ns bs v W)
    (hg : (((W.alloc (.cells #[.string k] 86)).alloc (.cells #[.int .i64 m] 3)).alloc (.cells #[seqV W.heap.size] 146)).grownBy wn v.ownBlock) (ho : wn.ownsRow base 146 1 v' (ns.length + 1) (bs.map seqV ++ [seqV W.heap.size])) :
    SeqRow base k (ns ++ [m]) (bs ++ [W.heap.size]) v' wn := by
  have hrow := ((h.row.alloc (.cells #[.string k] 86)).alloc (.cells #[.int .i64 m] 3)).alloc (.cells #[seqV W.heap.size] 146)
  have keep : ∀ (b : Nat) c t, t ≠ 146 → (((W.alloc (.cells #[.string k] 86)).alloc (.cells #[.int .i64 m] 3)).alloc (.cells #[seqV W.heap.size] 146)).heap[b]? = some (.cells c t (0, 0)) → wn.heap[b]? = some (.cells c t (0, 0)) := by
    intro b c t ht hb
    refine (hg.block b (Array.getElem?_eq_some_iff.1 hb).1 (fun e => ?_)).trans hb
    obtain ⟨c', hc'⟩ := own_block hrow b e.symm
    rw [hb] at hc'
    injection hc' with hc'
    injection hc' with _ h3 _
    exact ht h3
  have hb3 : Below W.heap.size W (((W.alloc (.cells #[.string k] 86)).alloc (.cells #[.int .i64 m] 3)).alloc (.cells #[seqV W.heap.size] 146)) := (((Below.refl _ W).alloc (Nat.le_refl _) _).alloc (by simp) _).alloc (by simp; omega) _
  refine ⟨by simp [h.len], by rw [List.length_append, List.map_append]; exact ho, fun j hj => ?_⟩
  by_cases hlt : j < ns.length
  · obtain ⟨a1, a2⟩ := h.at_ j hlt
    have e1 : (bs ++ [W.heap.size]).getD j 0 = bs.getD j 0 := by
      rw [List.getD_eq_getElem?_getD, List.getD_eq_getElem?_getD, List.getElem?_append_left (by rw [h.len]; exact hlt)]
    have e2 : (ns ++ [m])[j] = ns[j] := List.getElem_append_left hlt
    rw [e1, e2]
    exact ⟨keep _ _ _ (by decide) ((hb3.block _ (Array.getElem?_eq_some_iff.1 a1).1).trans a1), keep _ _ _ (by decide) ((hb3.block _ (Array.getElem?_eq_some_iff.1 a2).1).trans a2)⟩
  · have hj2 : j = ns.length := by simp at hj; omega
    subst hj2
    have e1 : (bs ++ [W.heap.size]).getD ns.length 0 = W.heap.size := by
      rw [List.getD_eq_getElem?_getD, List.getElem?_append_right (by rw [h.len]; exact Nat.le_refl _), h.len]; simp
    have e2 : (ns ++ [m])[ns.length] = m := by simp
    rw [e1, e2]
    refine ⟨keep _ _ _ (by decide) ((Below.heap_alloc _ _ _ (by simp; omega)).trans ((Below.heap_alloc _ _ _ (by simp)).trans (heap_alloc_new W _))), keep _ _ _ (by decide) ?_⟩
    refine (Below.heap_alloc _ _ _ (by simp)).trans ?_
    have := heap_alloc_new (W.alloc (.cells #[.string k] 86)) (.cells #[.int .i64 m] 3)
    rwa [World.size_alloc] at this
theorem infoSeq : (Tryz.prog.info? 146).map (fun i => (i.zero, i.size, i.bytes)) = some (some .nilFunc, 1, 8) := by kernel_rfl

set_option maxRecDepth 100000 in
set_option maxHeartbeats 3200000 in
theorem Shortest_ok (A : Option Addr) (n c i : Nat) (ss : List ByteArray) (w : World) (hn : n = ss.length) (hb : n ≤ 6) (hv : AllOk ss) (hx : Cells w A (ss.map Value.string)) (hi : i < n) :
    Calls Tryz.prog 54 #[.slice A n c, .int .i64 i] w (FoundPost (shortestG ss i) w) := by
  obtain ⟨si, hif, hz0, hz1, hz2⟩ := info_parts infoSeq
  have QB := Lib.hid (beginLine_ok A n c i ss w hn hb hv hx hi)
  have his : i < ss.length := by omega
  have hK : ∃ K, keyS (ss.getD i ByteArray.empty) = K := ⟨_, rfl⟩
  obtain ⟨K, hK⟩ := hK
  have hkf : (1 ≤ K.size ∧ K.size ≤ 12) ∧ Asc K := by
    rw [← hK, List.getD_eq_getElem?_getD, List.getElem?_eq_getElem his]
    exact key_facts (hv _ (List.getElem_mem his))
  have hol := othersB_le ss i hv
  have hon : (othersB ss i).length ≤ 1000 := by
    have := othersB_len ss i
    omega
  have hkd : Sp.key (at' ss i) = K.data.toList := by
    rw [at_get ss i his, ← hK, List.getD_eq_getElem?_getD, List.getElem?_eq_getElem his]; rfl
  have hsp : shortestG ss i = firstG ((othersB ss i).map fun o => o.data.toList) ((lettersTo K.size).map (cutsG K.data.toList)) := by
    unfold shortestG
    rw [others_eq ss i his, hkd, size_list K]
    unfold lettersTo
    rw [List.map_map]
    rfl
  obtain ⟨⟨k1, k12⟩, kA⟩ := hkf
  unfold LinePost at QB
  rw [hK] at QB
  have HSP := Lib.hid hsp
  have HOL := Lib.hid hol
  have HON := Lib.hid hon
  have HKA := Lib.hid kA
  clear hn hv hx hsp hol hon kA hK
  go_enter Tryz.func54, Tryz.ntmps54
  go_wp2_with fail
  refine QB.out.mono ?_
  rintro e w1 ⟨B, n2, c2, rfl, hn2, hcs, hb1⟩
  have hP := heap_alloc_new w1 (.cells #[.string K, .slice B n2 c2] 141)
  have hbP : Below w1.heap.size w1 (w1.alloc (.cells #[.string K, .slice B n2 c2] 141)) := (Below.refl _ _).alloc (Nat.le_refl _) _
  have hPs : (w1.alloc (.cells #[.string K, .slice B n2 c2] 141)).heap.size = w1.heap.size + 1 := by simp
  have HN2 := Lib.hid hn2
  clear QB hn2
  go_wp2_with fail
  generalize w1.alloc (.cells #[.string K, .slice B n2 c2] 141) = W0 at *
  have hcs0 := hcs.below hbP
  have hb0 := hb1.trans (hbP.mono hb1.size)
  generalize w1.heap.size = Pb at *
  have HCS := Lib.hid hcs0
  have HB0 := Lib.hid hb0
  clear hcs hcs0 hb0 hb1 hbP
  go_loopw [8, 9] (fun s8 s9 wr => ∃ (m : Nat) (bs : List Nat), 1 ≤ m ∧ m ≤ K.size ∧ s9 = .int .i64 m ∧ SeqRow W0.heap.size K (lettersTo m) bs s8 wr ∧ Below W0.heap.size W0 wr) (fun _ s9 _ => K.size - (intOf s9).toNat)
  case atStart => exact ⟨1, [], Nat.le_refl _, k1, rfl, SeqRow.none _ _ _, Below.refl _ _⟩
  case round =>
    obtain ⟨m, bs, hm1, hmK, rfl, hrow, hb⟩ := hrel
    obtain ⟨p0, p1, p2, p3⟩ := block2_cells ((hb.block Pb (by omega)).trans hP)
    obtain ⟨O, cp, rfl⟩ := own_form hrow.row
    have hsw := hb.size
    by_cases hlt : m < K.size
    · have hlti : (m : Int) < (K.size : Int) := by omega
      have hl5 : (lettersTo m).length ≤ 12 := by unfold lettersTo; simp; omega
      have hbc : Below wr.heap.size wr ((wr.alloc (.cells #[.string K] 86)).alloc (.cells #[.int .i64 m] 3)) := ((Below.refl _ wr).alloc (Nat.le_refl _) _).alloc (by simp) _
      have hrow2 := (hrow.row.alloc (.cells #[.string K] 86)).alloc (.cells #[.int .i64 m] 3)
      have HROW := Lib.hid hrow
      clear hrow
      go_wp2_with fail
      refine (cuts_any K m wr).mono ?_
      rintro e w' ⟨rfl, rfl⟩
      have hone : ∀ (j : Nat) (u : Value), [seqV wr.heap.size][j]? = some u → ((((wr.alloc (.cells #[.string K] 86)).alloc (.cells #[.int .i64 m] 3)).alloc (.cells #[seqV wr.heap.size] 146)).cell? ((⟨wr.heap.size + 2, 0, none⟩ : Addr).add j) = some u) := by
        have := cell_one_new ((wr.alloc (.cells #[.string K] 86)).alloc (.cells #[.int .i64 m] 3)) (seqV wr.heap.size) 146
        rwa [World.size_alloc, World.size_alloc] at this
      unfold seqV at hone
      go_wp2_with (at_builtin; refine wpList_append_own _ rfl _ _ 144 rfl W0.heap.size 146 si .nilFunc 1 8 Tryz.underlying144 hif hz0 hz1 hz2 rfl (by decide) _ _ _ rfl (hrow2.alloc _) ⟨wr.heap.size + 2, 0, none⟩ 1 1 [seqV wr.heap.size] rfl rfl hone (by simp [Value.oneCell', seqV]) (by unfold maxLen; omega) (by omega) (by simp; omega) ?_; intro v' wn hownN hgN _)
      have hbN := (((hb.trans (hbc.mono (by omega))).alloc (by simp; omega) (.cells #[seqV wr.heap.size] 146)).grown hgN (by simp; omega) (fun j hj => (hrow2.lt j hj).1))
      exact ⟨⟨m + 1, bs ++ [wr.heap.size], by omega, by omega, rfl, by rw [lettersTo_succ m hm1]; exact HROW.out.step hgN (by simpa using hownN), hbN⟩, by simp [intOf]; omega⟩
    · have hmk : m = K.size := by omega
      subst hmk
      have hlti : ¬ ((K.size : Int) < (K.size : Int)) := by omega
      have hl5 : (lettersTo K.size).length ≤ 12 := by unfold lettersTo; simp; omega
      have q := lineFirst_any O B (lettersTo K.size).length cp n2 c2 K K (lettersTo K.size) (othersB ss i) wr rfl hl5 (fun x hx => by
        unfold lettersTo at hx
        obtain ⟨y, hy, rfl⟩ := List.mem_map.1 hx
        have := List.mem_range.1 hy
        omega) k1 k12 HKA.out (hrow.seqs rfl) HN2.out (by rw [HN2.out]; exact HON.out) HOL.out (HCS.out.below (hb.mono (Nat.le_refl _)))
      have Q := Lib.hid q
      have hbe := HB0.out.trans (hb.mono (by have := HB0.out.size; omega))
      clear q hrow
      go_wp2_with fail
      refine Q.out.mono ?_
      rintro e w' ⟨s, hs, rfl, hb2⟩
      have hbf := hbe.trans (hb2.mono hbe.size)
      go_wp2_with fail
      go_ret2
      exact ⟨s, by rw [HSP.out, hs], by rw [HSP.out]; rfl, hbf⟩
end Go.Proofs.YtapagncaadjiaaaGreatDoor
