/- Rules that are as they must be; where a chain begins. -/
import Derived.Test.YtljlkhaolfihjaaGreatDoorPgI
import Derived.Test.YtljlkhaolfihjaaGreatDoorPgC
namespace Go.Proofs.YtljlkhaolfihjaaGreatDoor
open Go.RowKit Go.Shelf

def LowB (l : List UInt8) : Prop := ∀ b, b ∈ l → 97 ≤ b.toNat ∧ b.toNat ≤ 122

set_option maxRecDepth 100000 in
set_option maxHeartbeats 1600000 in
theorem isLatin_ok (s : ByteArray) (w : World) (_hs : s.size ≤ 1000) (hl : LowB s.data.toList) : Calls Tryz.prog 98 #[.string s] w fun e w' => e = .returned (.bool true) ∧ Below w.heap.size w w' := by
  have HL := Lib.hid hl
  clear hl
  go_enter Tryz.func98, Tryz.ntmps98
  go_wp2_with fail
  go_loopw [] (fun wr => ∃ k : Nat, k ≤ s.size ∧ wr.heap[w.heap.size]? = some (.stringIter s k) ∧ Below w.heap.size w wr) (fun wr => s.size - wr.iterPos w.heap.size)
  case atStart =>
    refine ⟨0, Nat.zero_le _, ?_, (Below.refl _ w).alloc (Nat.le_refl _) _⟩
    exact heap_alloc_new w _
  case round =>
    obtain ⟨k, hk, hit, hb⟩ := hrel
    by_cases hlt : k < s.size
    · have hmem : s[k] ∈ s.data.toList := Array.getElem_mem_toList _
      have hc1 := HL.out _ hmem
      have hkd := fun W => kind_call (s[k].toNat : Int) 1 (by unfold kindP; rw [if_pos (by omega)]) W
      have hnx : ∀ ty, (Instr.next (.pointer (some ⟨w.heap.size, 0, none⟩)) true ty).run Tryz.prog wr = _ := fun ty => Lib.run_next_ascii_at wr w.heap.size s k ty hit hlt (by omega)
      have hit2 := Lib.iterAt_heap wr w.heap.size s k (k + 1) hit
      have hb2 := Lib.below_iterAt hb (k := w.heap.size) (by omega) s (k + 1)
      have HKD := Lib.hid hkd
      clear hmem hc1 hkd
      generalize hC : s[k] = C at *
      clear hC
      go_wp2_with fail
      refine (HKD.out _).mono ?_
      rintro e w' ⟨rfl, rfl⟩
      go_wp2
      refine ⟨⟨k + 1, by omega, hit2, hb2⟩, ?_⟩
      simp only [World.iterPos, hit2, hit]
      omega
    · have hnx : ∀ ty, (Instr.next (.pointer (some ⟨w.heap.size, 0, none⟩)) true ty).run Tryz.prog wr = _ := fun ty => Lib.run_next_end_at wr w.heap.size s k ty hit hlt
      go_wp2_with fail
      go_ret
      exact ⟨rfl, hb⟩

/-- Rules that are as they must be. -/
def RulesOk (rs : List (ByteArray × ByteArray)) : Prop := rs.length ≤ 4 ∧ ∀ r, r ∈ rs → (1 ≤ r.1.size ∧ r.1.size ≤ 2) ∧ r.2.size ≤ 2 ∧ r.1 ≠ r.2 ∧ LowB (r.1.data.toList ++ r.2.data.toList)
theorem RulesOk.short {rs : List (ByteArray × ByteArray)} (h : RulesOk rs) : Short100 rs := fun r hr => ⟨by have := (h.2 r hr).1; omega, by have := (h.2 r hr).2.1; omega⟩

set_option maxRecDepth 100000 in
set_option maxHeartbeats 1600000 in
theorem checkRules_ok (A : Option Addr) (n c : Nat) (rs : List (ByteArray × ByteArray)) (w : World) (hn : n = rs.length) (hf : RulesOk rs) (hx : Cells w A (ruleCells rs)) :
    Calls Tryz.prog 66 #[.slice A n c] w fun e w' => e = .returned .nilIface ∧ Below w.heap.size w w' := by
  have h4 : n ≤ 4 := by rw [hn]; exact hf.1
  have HN := Lib.hid hn
  have HX := Lib.hid hx
  have HV := Lib.hid hf.2
  clear hn hx hf
  go_enter Tryz.func66, Tryz.ntmps66
  go_wp2_with fail
  go_loopw [12] (fun i wr => ∃ k : Nat, k ≤ n ∧ i = .int .i64 k ∧ Below w.heap.size w wr) (fun i _ => n - (intOf i).toNat)
  case atStart => exact ⟨0, Nat.zero_le _, rfl, Below.refl _ _⟩
  case round =>
    obtain ⟨k, hk, rfl, hb⟩ := hrel
    by_cases hlt : k < n
    · have hks : k < rs.length := by rw [← HN.out]; exact hlt
      obtain ⟨b1, o1, rfl, c1, c2⟩ := HX.out.rule k hks
      obtain ⟨⟨z1, z2⟩, z3, z4, z5⟩ := HV.out rs[k] (List.getElem_mem _)
      generalize hX : rs[k] = X at *
      obtain ⟨X, Y⟩ := X
      clear hX
      simp only at c1 c2 z1 z2 z3 z4 z5
      have d1 := (hb.cell (p := ⟨b1, o1 + k * 2, none⟩) (World.block_lt_of_cell? w _ c1)).trans c1
      have d2 := (hb.cell (p := ⟨b1, o1 + k * 2 + 1, none⟩) (World.block_lt_of_cell? w _ c2)).trans c2
      have j4 : (k : Int) < (n : Int) := by omega
      have j5 : (0 : Int) ≤ (k : Int) := by omega
      have j6 : ¬ ((X.size : Int) < 1) := by omega
      have j7 : ¬ ((2 : Int) < (X.size : Int)) := by omega
      have j8 : ¬ ((2 : Int) < (Y.size : Int)) := by omega
      have e3 : (X.toList == Y.toList) = false := by
        rw [beq_eq_false_iff_ne, ne_eq, list_eq]
        exact fun e => z4 (bytes_inj (list_eq.2 e))
      have q := fun W => isLatin_ok (X ++ Y) W (by rw [ByteArray.size_append]; omega) (by rw [ByteArray.data_append, Array.toList_append]; exact z5)
      have Q := Lib.hid q
      clear q z4 z5 c1 c2
      go_wp2_with fail
      refine (Q.out _).mono ?_
      rintro e w' ⟨rfl, hb2⟩
      have hb3 := (hb.alloc (o := .cells #[.string X, .string Y] 64) hb.size).trans (hb2.mono (by have := hb.size; simp; omega))
      clear Q d1 d2 e3 hb2
      go_wp2
      exact ⟨⟨k + 1, by omega, by go_num, hb3⟩, by simp [intOf]; omega⟩
    · have hkn : ¬ ((k : Int) < (n : Int)) := by omega
      go_wp2_with fail
      go_ret
      exact ⟨rfl, hb⟩

theorem cells_lit (w : World) (cs : Array Value) (e : TypeId) (n : Nat) (hn : n = cs.size) (hm : n ≤ maxLen) : Cells (w.alloc (.cells cs e)) (some ⟨w.heap.size, 0, none⟩) cs.toList :=
  cells_own (base := w.heap.size) (size := 1) (n := n) (e := e) (World.ownsRow_lit w cs n (Nat.le_refl _) hm (by omega))

theorem drewB (n : Nat) (w : World) : Below n w w.drew := ⟨rfl, rfl, rfl, Nat.le_refl _, fun _ _ => rfl⟩
theorem drewB2 (n : Nat) (w : World) : Below n w w.drew.drew := ⟨rfl, rfl, rfl, Nat.le_refl _, fun _ _ => rfl⟩
theorem keyS_le {a b : ByteArray} (h : AllOk [a, b]) : (keyS b).size ≤ 12 := by
  have hc := h b (by simp)
  have h1 := check_size hc
  have h2 := latP_flat_le b.data.toList
  have h3 := latP_flat hc
  show (Sp.key b.data.toList).toArray.size ≤ 12
  rw [List.size_toArray, ← h3]
  have : b.data.toList.length = b.size := by simp
  omega

def BeginPost (A : Option Addr) (n c : Nat) (rs : List (ByteArray × ByteArray)) (a b : ByteArray) (w : World) (e : Ending) (w' : World) : Prop :=
  ∃ (B m : Nat) (D : DU), e = .returned (.tuple #[.string (keyS a), .agg #[.slice A n c, .map (some B)], .nilIface]) ∧ OwnMet w' B m D ∧ MapIs (metP rs (keyS b)) D ∧ w.heap.size ≤ B ∧ Below w.heap.size w w'

set_option maxRecDepth 100000 in
set_option maxHeartbeats 1600000 in
theorem begin_ok (A : Option Addr) (n c : Nat) (rs : List (ByteArray × ByteArray)) (a b : ByteArray) (w : World) (hn : n = rs.length) (hf : RulesOk rs) (hv : AllOk [a, b]) (hx : Cells w A (ruleCells rs)) :
    Calls Tryz.prog 64 #[.slice A n c, .string a, .string b] w (BeginPost A n c rs a b w) := by
  have Q1 := Lib.hid (fun W h => checkRules_ok A n c rs W hn hf h)
  have HN := Lib.hid hn
  have HX := Lib.hid hx
  have HF := Lib.hid hf
  have HV := Lib.hid hv
  clear hn hx hf hv
  go_enter Tryz.func64, Tryz.ntmps64
  go_wp2_with fail
  have hbW : Below w.heap.size w (w.alloc (.cells #[.slice none 0 0, .map none] 108)) := (Below.refl _ w).alloc (Nat.le_refl _) _
  have hr := heap_alloc_new w (.cells #[.slice none 0 0, .map none] 108)
  have hWs : (w.alloc (.cells #[.slice none 0 0, .map none] 108)).heap.size = w.heap.size + 1 := by simp
  generalize w.alloc (.cells #[.slice none 0 0, .map none] 108) = W at *
  refine (Q1.out _ (HX.out.below hbW)).mono ?_
  rintro e w1 ⟨rfl, hb1⟩
  have hb1' := hbW.trans (hb1.mono hbW.size)
  have hr1 := (hb1.block _ (by omega)).trans hr
  have hs1 := hb1.size
  clear hbW hr hb1
  go_wp2_with fail
  have ca := cells_lit w1 #[.string a, .string b] 9 2 rfl (by unfold maxLen; omega)
  have hba := hb1'.alloc (o := .cells #[.string a, .string b] 9) hb1'.size
  have hr2 := (Below.heap_alloc w1 (.cells #[.string a, .string b] 9) w.heap.size (by omega)).trans hr1
  have hs2 : (w1.alloc (.cells #[.string a, .string b] 9)).heap.size = w1.heap.size + 1 := by simp
  have q2 := readAll_ok (some ⟨w1.heap.size, 0, none⟩) 2 2 [a, b] _ rfl (by omega) HV.out ca
  have Q2 := Lib.hid q2
  clear q2 ca hb1' hr1
  generalize w1.alloc (.cells #[.string a, .string b] 9) = W2 at *
  refine Q2.out.mono ?_
  rintro e w3 ⟨o, rfl, ho, hb3⟩
  obtain ⟨g, cap, rfl⟩ := own_head ho
  have hb3' := hba.trans (hb3.mono hba.size)
  have hr3 := (hb3.block _ (by omega)).trans hr2
  have cs := cells_own ho
  obtain ⟨b0, o0, e0, s0⟩ := cs 0 (by simp [spellCells])
  obtain ⟨b1, o1, e1, s1⟩ := cs 2 (by simp [spellCells])
  cases e0
  cases e1
  have hs3 : w.heap.size < w3.heap.size := (Array.getElem?_eq_some_iff.1 hr3).1
  have s0' : w3.cell? ⟨g, 0, none⟩ = some (.string (keyS a)) := s0
  have s1' : w3.cell? ⟨g, 2, none⟩ = some (.string (keyS b)) := s1
  have hgl : g < w3.heap.size := World.block_lt_of_cell? w3 _ s0'
  have qp := fun W (hW : Below w3.heap.size w3 W) => pathTo_any A n c rs (keyS b) W (keyS_le HV.out) HF.out.short HN.out (by rw [HN.out]; have := HF.out.1; omega) ((HX.out.below hb3').below hW)
  have QP := Lib.hid qp
  clear Q2 hb3 hr2 cs ho hba Q1 s0 s1 qp
  go_wp2_with fail
  go_region_with (go_at_call 67; refine (QP.out _ (by first | exact Below.refl _ _ | exact drewB _ _ | exact drewB2 _ _)).mono ?_; rintro e w4 ⟨B, m, D, rfl, ho4, hM4, hBl, hb4⟩; replace hb4 : Below w3.heap.size w3 w4 := (by first | exact hb4 | exact (drewB _ _).trans hb4 | exact (drewB2 _ _).trans hb4); replace hBl : w3.heap.size ≤ B := hBl; have t0 := (hb4.cell (p := ⟨g, 0, none⟩) hgl).trans s0'; have t1 := (hb4.cell (p := ⟨g, 2, none⟩) hgl).trans s1'; have hr4 := (hb4.block _ (by omega)).trans hr3; have z4 := block2_cells hr4; obtain ⟨z40, z41, z42, z43⟩ := z4)
  all_goals
    have y := block2_cells (block2 hr4 (.slice A n c) (.map (some B)))
    obtain ⟨y0, y1, _, _⟩ := y
    have hg1 := grownBy_setCell' w4 w.heap.size (.slice A n c)
    have hg2 : (w4.setCell ⟨w.heap.size, 0, none⟩ (.slice A n c)).grownBy ((w4.setCell ⟨w.heap.size, 0, none⟩ (.slice A n c)).setCell ⟨w.heap.size, 1, none⟩ (.map (some B))) (some w.heap.size) :=
      ⟨rfl, rfl, rfl, by simp [World.setCell], fun k _ hk => Below.heap_setCell _ _ _ _ (fun e => hk (by simp [e]))⟩
    have hoo := (ho4.kept hg1 (fun e => by injection e with e; omega)).kept hg2 (fun e => by injection e with e; omega)
    have hbb := ((hb3'.trans (hb4.mono (by omega))).setCell (p := ⟨w.heap.size, 0, none⟩) (Nat.le_refl _) (.slice A n c)).setCell (p := ⟨w.heap.size, 1, none⟩) (Nat.le_refl _) (.map (some B))
    have Y0 := Lib.hid y0
    have Y1 := Lib.hid y1
    clear y0 y1
    go_wp2
    have y0 := Y0.out
    have y1 := Y1.out
    exact bodyPost_ret (v := .tuple #[.string (keyS a), .agg #[.slice A n c, .map (some B)], .nilIface]) (by simp [results, Tryz.results64, go_sem, y0, y1]) rfl ⟨B, m, D, rfl, hoo, hM4, by omega, hbb⟩
end Go.Proofs.YtljlkhaolfihjaaGreatDoor
