/- The program's reading of valid names. -/
import Derived.Test.YtldianbhpfdhcaaGreatDoorPgA
import Derived.Test.YtldianbhpfdhcaaGreatDoorPgW
import Derived.Test.YtldianbhpfdhcaaGreatDoorKitE
namespace Go.Proofs.YtldianbhpfdhcaaGreatDoor
open Go.RowKit

/-- The alphabet of the letters that were read. -/
def alAt (l : List UInt8) (k : Nat) : Int := if k = 0 then 0 else alphaN l
def ReadOk (s : ByteArray) (w : World) (e : Ending) (w' : World) : Prop :=
  e = .returned (.tuple #[.agg #[.string (keyS s), .int .i64 (alphaN s.data.toList)], .nilIface]) ∧ Below w.heap.size w w'

theorem bytes_str (l : List UInt8) : Lib.strCells (⟨l.toArray⟩ : ByteArray) = Lib.byteCells l := rfl
/-- A letter of a valid name. -/
theorem valid_ascii {l : List UInt8} (h : Sp.check l = 0) : ∀ c, c ∈ l → c.toNat < 128 := by
  intro c hc
  have h1 := valid_alpha h c hc
  have h2 : alphaP c.toNat = 1 ∨ alphaP c.toNat = 2 := by rw [h1]; exact alphaN_ne l
  unfold alphaP kindP at h2
  by_cases hh : c.toNat < 128
  · exact hh
  · have a : ¬ (97 ≤ (c.toNat : Int) ∧ (c.toNat : Int) ≤ 122) := by omega
    have b : (c.toNat : Int) < 65 ∨ 90 < (c.toNat : Int) := by omega
    rw [if_neg a, if_pos b] at h2
    simp at h2

theorem alpha_call (r v : Int) (h : alphaP r = v) (W : World) : Calls Tryz.prog 113 #[.int .i32 r] W fun e w' => e = .returned (.int .i64 v) ∧ W = w' := by
  rw [← h]; exact alphabetOf_any r W

/-- A block of two cells that both were written. -/
theorem block2 {W : World} {B : Nat} {t : TypeId} {x y : Value} (h : W.heap[B]? = some (.cells #[x, y] t (0, 0))) (v0 v1 : Value) :
    ((W.setCell ⟨B, 0, none⟩ v0).setCell ⟨B, 1, none⟩ v1).heap[B]? = some (.cells #[v0, v1] t (0, 0)) := by
  simp [World.setCell, Array.getElem?_modify, h]
theorem block2_cells {W : World} {B : Nat} {t : TypeId} {x y : Value} (h : W.heap[B]? = some (.cells #[x, y] t (0, 0))) :
    W.cell? ⟨B, 0, none⟩ = some x ∧ W.cell? ⟨B, 1, none⟩ = some y ∧ W.frozen? ⟨B, 0, none⟩ = false ∧ W.frozen? ⟨B, 1, none⟩ = false :=
  ⟨by rw [Lib.cell_of_heap h]; rfl, by rw [Lib.cell_of_heap h]; rfl, Lib.frozen_of_heap h 0, Lib.frozen_of_heap h 1⟩

set_option maxRecDepth 100000 in
set_option maxHeartbeats 1600000 in
theorem read_ok (s : ByteArray) (w : World) (h : Sp.check s.data.toList = 0) : Calls Tryz.prog 69 #[.string s] w (ReadOk s w) := by
  have hsz := check_size h
  have hva := valid_alpha h
  have has := valid_ascii h
  have hkey := latP_flat h
  have hsl := size_list s
  have hane := alphaN_ne s.data.toList
  have hlong := latP_flat_le s.data.toList
  obtain ⟨s1, s6⟩ := hsz
  have HVA := Lib.hid hva
  have HAS := Lib.hid has
  have HKEY := Lib.hid hkey
  have HSL := Lib.hid hsl
  have HANE := Lib.hid hane
  have hz0 : ((s.size : Int) == 0) = false := by rw [beq_eq_false_iff_ne]; omega
  have hz6 : decide ((s.size : Int) > 6) = false := decide_eq_false (by omega)
  clear hva hkey hsl h has hane hlong
  go_enter Tryz.func69, Tryz.ntmps69
  go_wp2_with fail
  go_loopw [5] (fun al wr => ∃ k : Nat, k ≤ s.size ∧ al = .int .i64 (alAt s.data.toList k) ∧ IsBld (w.heap.size + 1) (w.heap.size + 1) ((s.data.toList.take k).flatMap latP) wr ∧ wr.heap[w.heap.size + 1 + 1]? = some (.stringIter s k) ∧
    wr.heap[w.heap.size]? = some (.cells #[.string ⟨#[]⟩, .int .i64 0] 88 (0, 0)) ∧ Below w.heap.size w wr) (fun _ wr => s.size - wr.iterPos (w.heap.size + 1 + 1))
  case atStart =>
    refine ⟨0, Nat.zero_le _, rfl, ?_, ?_, ?_, (((Below.refl _ w).alloc (Nat.le_refl _) _).alloc (by simp) _).alloc (by simp; omega) _⟩
    · have := (Lib.IsBuilderF.of (Lib.fresh_isBuilder 156 5 (w.alloc (.cells #[.string ⟨#[]⟩, .int .i64 0] 88)))).alloc (.stringIter s 0)
      simp only [World.size_alloc] at this
      exact this
    · have := World.iter_heap ((w.alloc (.cells #[.string ⟨#[]⟩, .int .i64 0] 88)).alloc (.cells #[.pointer none, .slice none 0 0] 156)) s 0
      simpa using this
    · have h1 := heap_alloc_new w (.cells #[.string ⟨#[]⟩, .int .i64 0] 88)
      exact (Below.heap_alloc _ _ _ (by simp; omega)).trans ((Below.heap_alloc _ _ _ (by simp)).trans h1)
  case round =>
    obtain ⟨k, hk, rfl, hI, hit, hres, hb⟩ := hrel
    have hsz : w.heap.size + 1 + 1 < wr.heap.size := bld_lt hit
    have hle := latP_flat_le (s.data.toList.take k)
    have hle2 := List.length_take_le k s.data.toList
    have hle3 : ((s.data.toList.take k).flatMap latP).length ≤ 12 := by omega
    clear hle hle2
    by_cases hlt : k < s.size
    · have hmem : s[k] ∈ s.data.toList := Array.getElem_mem_toList _
      have hc1 := HVA.out _ hmem
      have hc2 := HAS.out _ hmem
      have hal := alpha_call (s[k].toNat : Int) _ hc1
      have hnx : ∀ ty, (Instr.next (.pointer (some ⟨w.heap.size + 1 + 1, 0, none⟩)) true ty).run Tryz.prog wr = _ := fun ty => Lib.run_next_ascii_at wr (w.heap.size + 1 + 1) s k ty hit hlt hc2
      have hI2 := hI.iterAt hit (k + 1)
      have hit2 := Lib.iterAt_heap wr (w.heap.size + 1 + 1) s k (k + 1) hit
      have hb2 := Lib.below_iterAt hb (k := w.heap.size + 1 + 1) (by omega) s (k + 1)
      have hsz2 : w.heap.size + 1 ≤ (wr.iterAt (w.heap.size + 1 + 1) s (k + 1)).heap.size := by rw [Lib.iterAt_size]; omega
      have hres2 : (wr.iterAt (w.heap.size + 1 + 1) s (k + 1)).heap[w.heap.size]? = some (.cells #[.string ⟨#[]⟩, .int .i64 0] 88 (0, 0)) := (Lib.iterAt_other wr _ _ s (k + 1) (by omega)).trans hres
      have hts := take_snoc s k hlt
      have hll := latP_le s[k]
      have hlat := fun W => latinP_any s[k] W hc2
      have hbl : (Lib.byteCells ((s.data.toList.take k).flatMap latP)).length + (⟨(latP s[k]).toArray⟩ : ByteArray).size ≤ 1000000 := by
        rw [Lib.byteCells_length]
        show _ + (latP s[k]).toArray.size ≤ _
        rw [List.size_toArray]
        omega
      have HBL := Lib.hid hbl
      have HLAT := Lib.hid hlat
      have HTS := Lib.hid hts
      have HAL := Lib.hid hal
      clear hmem hc1 hal hlat hts hbl
      generalize hC : s[k] = C at *
      have HC := Lib.hid hC
      clear hC
      obtain ⟨v, a, hv, ha, hva⟩ : ∃ v a : Int, alAt s.data.toList k = v ∧ alphaN s.data.toList = a ∧ ((a = 1 ∧ v = 0) ∨ (a = 1 ∧ v = 1) ∨ (a = 2 ∧ v = 0) ∨ (a = 2 ∧ v = 2)) := by
        refine ⟨_, _, rfl, rfl, ?_⟩
        unfold alAt
        rcases HANE.out with h | h
        all_goals
          by_cases h0 : k = 0
          · simp [h, h0]
          · simp [h, h0]
      have HA := Lib.hid ha
      have HAL2 : Hid (∀ W : World, Calls Tryz.prog 113 #[.int .i32 (C.toNat : Int)] W fun e w' => e = .returned (.int .i64 a) ∧ W = w') := by
        have := HAL.out; rw [ha] at this; exact this
      have hal1 : alAt s.data.toList (k + 1) = a := by unfold alAt; rw [if_neg (by omega), ha]
      have HAL1 := Lib.hid hal1
      rw [hv]
      clear hv ha HAL hal1
      rcases hva with ⟨rfl, rfl⟩ | ⟨rfl, rfl⟩ | ⟨rfl, rfl⟩ | ⟨rfl, rfl⟩
      all_goals
        go_wp2_with fail
        refine (HAL2.out _).mono ?_
        rintro e w' ⟨rfl, rfl⟩
        go_wp2_with fail
        refine (HLAT.out _).mono ?_
        rintro e w' ⟨rfl, rfl⟩
        go_wp2_with fail
        refine (bld_string (w.heap.size + 1) (w.heap.size + 1) _ _ _ hI2 HBL.out hsz2).mono ?_
        rintro e W1 ⟨rfl, h1, b1, k1⟩
        have hit3 := k1.iter hit2 (by omega)
        have hres3 := (b1.block w.heap.size (by omega)).trans hres2
        have hb3 := hb2.trans (b1.mono (by omega))
        go_wp2
        go_roundw
        case rel =>
          refine ⟨k + 1, by omega, by rw [HAL1.out], ?_, hit3, hres3, hb3⟩
          have h2 : Lib.IsBuilderF 156 5 (w.heap.size + 1) (w.heap.size + 1) _ W1 := Or.inr h1
          have h3 : Lib.byteCells ((s.data.toList.take (k + 1)).flatMap latP) = Lib.byteCells ((s.data.toList.take k).flatMap latP) ++ Lib.strCells (⟨(latP C).toArray⟩ : ByteArray) := by
            rw [HTS.out, List.flatMap_append, Lib.byteCells_append, bytes_str]
            simp
          show Lib.IsBuilderF 156 5 (w.heap.size + 1) (w.heap.size + 1) (Lib.byteCells ((s.data.toList.take (k + 1)).flatMap latP)) W1
          rw [h3]
          exact h2
        case measure =>
          simp only [World.iterPos, hit3, hit]
          omega
    · have hnx : ∀ ty, (Instr.next (.pointer (some ⟨w.heap.size + 1 + 1, 0, none⟩)) true ty).run Tryz.prog wr = _ := fun ty => Lib.run_next_end_at wr (w.heap.size + 1 + 1) s k ty hit hlt
      have hk' : k = s.size := by omega
      have hv : alAt s.data.toList k = alphaN s.data.toList := by unfold alAt; rw [if_neg (by omega)]
      have hts : (s.data.toList.take k).flatMap latP = Sp.key s.data.toList := by rw [List.take_of_length_le (by simp; omega)]; exact HKEY.out
      rw [hts] at hI
      rw [hv]
      clear hv hts hle3
      generalize hA : alphaN s.data.toList = a at *
      have HA := Lib.hid hA
      clear hA hk'
      go_wp2_with fail
      refine (Tryz.Builder_String_any_k (w.heap.size + 1) (w.heap.size + 1) _ _ hI (by omega)).mono ?_
      rintro e W1 ⟨rfl, _, b1, k1⟩
      have hres3 := (b1.block w.heap.size (by omega)).trans hres
      have hb3 := hb.trans (b1.mono (by omega))
      have c0 : W1.cell? ⟨w.heap.size, 0, none⟩ = some (.string ⟨#[]⟩) := by rw [Lib.cell_of_heap hres3]; rfl
      have c1 : W1.cell? ⟨w.heap.size, 1, none⟩ = some (.int .i64 0) := by rw [Lib.cell_of_heap hres3]; rfl
      have f0 : W1.frozen? ⟨w.heap.size, 0, none⟩ = false := Lib.frozen_of_heap hres3 0
      have f1 : W1.frozen? ⟨w.heap.size, 1, none⟩ = false := Lib.frozen_of_heap hres3 1
      have hz2 := block2_cells (block2 hres3 (.string ⟨(Sp.key s.data.toList).toArray⟩) (.int .i64 a))
      obtain ⟨z0, z1, _, _⟩ := hz2
      have Z0 := Lib.hid z0
      have Z1 := Lib.hid z1
      clear z0 z1
      go_wp2
      have z0 := Z0.out
      have z1 := Z1.out
      exact bodyPost_ret (v := .tuple #[.agg #[.string ⟨(Sp.key s.data.toList).toArray⟩, .int .i64 a], .nilIface]) (by simp [results, Tryz.results69, go_sem, z0, z1]) rfl ⟨by rw [HA.out]; rfl, (hb3.setCell (Nat.le_refl _) _).setCell (Nat.le_refl _) _⟩
end Go.Proofs.YtldianbhpfdhcaaGreatDoor
