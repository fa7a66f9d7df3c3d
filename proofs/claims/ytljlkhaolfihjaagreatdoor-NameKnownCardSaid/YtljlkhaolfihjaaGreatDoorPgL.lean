/- Whether letters stand for a key. -/
import Derived.Test.YtljlkhaolfihjaaGreatDoorPgK
import Derived.Lib.Bytealg
namespace Go.Proofs.YtljlkhaolfihjaaGreatDoor
open Go.RowKit Go.Shelf

theorem idx_cases (t : List UInt8) (a : UInt8) : (Lib.indexByte t a = -1 ∧ ∀ s, partB (a :: s) t = false) ∨ ∃ i : Nat, Lib.indexByte t a = (i : Int) ∧ i < t.length ∧ ∀ s, partB (a :: s) t = partB s (t.drop (i + 1)) := by
  induction t with
  | nil => exact .inl ⟨rfl, fun _ => rfl⟩
  | cons b t ih =>
    by_cases e : b = a
    · subst e
      exact .inr ⟨0, by simp [Lib.indexByte], by simp, fun s => by rw [partB, if_pos rfl]; rfl⟩
    · rcases ih with ⟨h1, h2⟩ | ⟨i, h1, h2, h3⟩
      · exact .inl ⟨by simp [Lib.indexByte, e, h1], fun s => by rw [partB, if_neg e]; exact h2 s⟩
      · refine .inr ⟨i + 1, ?_, by simp; omega, fun s => by rw [partB, if_neg e]; exact h3 s⟩
        have : ¬ ((i : Int) = -1) := by omega
        simp [Lib.indexByte, e, h1, this]

theorem ext_drop (s : ByteArray) (i : Nat) : (s.extract i s.size).data.toList = s.data.toList.drop i := by
  rw [ByteArray.data_extract]
  simp
  rw [List.take_of_length_le]
  simp

set_option maxRecDepth 100000 in
set_option maxHeartbeats 1600000 in
theorem shortens_any (k whole : ByteArray) (w : World) (h1 : 1 ≤ k.size) (hk : k.size ≤ 1000) (hw : whole.size ≤ 1000) (ha : ∀ b, b ∈ k.data.toList → b.toNat < 128) :
    Calls Tryz.prog 71 #[.string k, .string whole] w fun e w' => e = .returned (.bool (abbrB k.data.toList whole.data.toList)) ∧ Below w.heap.size w w' := by
  have HS := Lib.hid (size_list k)
  have HK := Lib.hid (size_list whole)
  have HA := Lib.hid ha
  clear ha
  by_cases hl : k.size < whole.size
  · have hl1 : decide ((whole.size : Int) ≤ (k.size : Int)) = false := decide_eq_false (by omega)
    have hl3 : decide (whole.size ≤ k.size) = false := decide_eq_false (by omega)
    have hl2 : ¬ ((k.size : Int) ≥ (whole.size : Int)) := by omega
    have s0 : (0 : Int) < (k.size : Int) := by omega
    have k0 : (0 : Int) < (whole.size : Int) := by omega
    have s1 : 0 < k.size := by omega
    have k1 : 0 < whole.size := by omega
    by_cases hc : k[0] = whole[0]
    · have hc1 : ((k[0].toNat : Int) == (whole[0].toNat : Int)) = true := by rw [hc]; simp
      have hc2 : ((k[0].toNat : Int) != (whole[0].toNat : Int)) = false := by rw [hc]; simp
      have e : abbrB k.data.toList whole.data.toList = partB k.data.toList whole.data.toList := by
        unfold abbrB
        rw [decide_eq_true (by rw [HS.out, HK.out]; exact hl), decide_eq_true (by rw [head_eq k (by omega), head_eq whole (by omega), hc]), Bool.true_and, Bool.true_and]
      have E := Lib.hid e
      clear e hc
      go_enter Tryz.func71, Tryz.ntmps71
      go_wp2_with fail
      go_quiet (fail)
      go_wp2_with fail
      go_loopw [5] (fun s5 wr => ∃ (j : Nat) (rest : ByteArray), s5 = .string rest ∧ j ≤ k.size ∧ rest.size ≤ whole.size ∧ wr.heap[w.heap.size]? = some (.stringIter k j) ∧ partB (k.data.toList.drop j) rest.data.toList = partB k.data.toList whole.data.toList ∧ Below w.heap.size w wr) (fun _ wr => k.size - wr.iterPos w.heap.size)
      case atStart =>
        refine ⟨0, whole, rfl, Nat.zero_le _, Nat.le_refl _, ?_, rfl, ?_⟩
        · exact heap_alloc_new (w.drewN nq) _
        · have hb0 : Below w.heap.size w (w.drewN nq) := ⟨rfl, rfl, rfl, Nat.le_refl _, fun _ _ => rfl⟩
          exact hb0.alloc (Nat.le_refl _) _
      case round =>
        obtain ⟨j, rest, rfl, hj, hr, hit, hp, hb⟩ := hrel
        have HP := Lib.hid hp
        clear hp
        by_cases hlt : j < k.size
        · have hmem : k[j] ∈ k.data.toList := Array.getElem_mem_toList _
          have hc1 := HA.out _ hmem
          have hnx : ∀ ty, (Instr.next (.pointer (some ⟨w.heap.size, 0, none⟩)) true ty).run Tryz.prog wr = _ := fun ty => Lib.run_next_ascii_at wr w.heap.size k j ty hit hlt (by omega)
          have hit2 := Lib.iterAt_heap wr w.heap.size k j (j + 1) hit
          have hb2 := Lib.below_iterAt hb (k := w.heap.size) (by omega) k (j + 1)
          have hd := list_drop k j hlt
          have qi := fun W => Tryz.strings_IndexRune_ascii rest (k[j].toNat : Int) W (by omega) (by omega)
          rw [show (k[j].toNat : Int).toNat.toUInt8 = k[j] by simp] at qi
          have hcs := idx_cases rest.data.toList k[j]
          generalize k[j] = C at *
          have HRS := Lib.hid (size_list rest)
          rcases hcs with ⟨h1, h2⟩ | ⟨i, h1, h2, h3⟩
          · have e2 : partB k.data.toList whole.data.toList = false := by rw [← HP.out, hd]; exact h2 _
            have E2 := Lib.hid e2
            rw [h1] at qi
            have QI := Lib.hid qi
            clear qi e2 h2 h1 hd hmem
            go_wp2_with fail
            refine (QI.out _).mono ?_
            rintro e w' ⟨rfl, rfl⟩
            go_wp2_with fail
            go_ret
            exact ⟨ret_bool (by rw [E.out, E2.out]), hb2⟩
          · have hi : i + 1 ≤ rest.size := by have := HRS.out; omega
            have i1 : (0 : Int) ≤ (i : Int) := by omega
            have i2 : ¬ ((i : Int) < 0) := by omega
            have i3 : (0 : Int) ≤ (i : Int) + 1 := by omega
            have i4 : (i : Int) + 1 ≤ (rest.size : Int) := by omega
            have e2 : partB (k.data.toList.drop (j + 1)) (rest.extract (i + 1) rest.size).data.toList = partB k.data.toList whole.data.toList := by
              rw [← HP.out, hd, h3, ext_drop]
            have E2 := Lib.hid e2
            rw [h1] at qi
            have QI := Lib.hid qi
            clear qi e2 h2 h1 hd hmem h3
            go_wp2_with fail
            refine (QI.out _).mono ?_
            rintro e w' ⟨rfl, rfl⟩
            go_wp2_with fail
            refine ⟨⟨j + 1, _, rfl, by omega, by rw [ByteArray.size_extract]; omega, hit2, E2.out, hb2⟩, ?_⟩
            simp only [World.iterPos, hit2, hit]
            omega
        · have hnx : ∀ ty, (Instr.next (.pointer (some ⟨w.heap.size, 0, none⟩)) true ty).run Tryz.prog wr = _ := fun ty => Lib.run_next_end_at wr w.heap.size k j ty hit hlt
          have e2 : partB k.data.toList whole.data.toList = true := by rw [← HP.out, List.drop_eq_nil_of_le (by rw [HS.out]; omega), partB]
          have E2 := Lib.hid e2
          clear e2
          go_wp2_with fail
          go_ret
          exact ⟨ret_bool (by rw [E.out, E2.out]), hb⟩
    · have hc1 : ((k[0].toNat : Int) == (whole[0].toNat : Int)) = false := by
        rw [beq_eq_false_iff_ne]; intro h; exact hc (UInt8.toNat_inj.1 (by omega))
      have hc2 : ((k[0].toNat : Int) != (whole[0].toNat : Int)) = true := by rw [bne_iff_ne]; intro h; exact hc (UInt8.toNat_inj.1 (by omega))
      have e : abbrB k.data.toList whole.data.toList = false := by
        unfold abbrB
        rw [decide_eq_true (by rw [HS.out, HK.out]; exact hl), decide_eq_false (by rw [head_eq k (by omega), head_eq whole (by omega)]; intro h; exact hc (Option.some.inj h)), Bool.true_and, Bool.false_and]
      have E := Lib.hid e
      clear e hc
      go_enter Tryz.func71, Tryz.ntmps71
      go_wp2_with fail
      go_quiet (fail)
      go_wp2
      go_ret
      exact ⟨ret_bool E.out.symm, (by exact ⟨rfl, rfl, rfl, Nat.le_refl _, fun _ _ => rfl⟩)⟩
  · have hl1 : decide ((whole.size : Int) ≤ (k.size : Int)) = true := decide_eq_true (by omega)
    have hl3 : decide (whole.size ≤ k.size) = true := decide_eq_true (by omega)
    have hl4 : whole.size ≤ k.size := by omega
    have hl2 : ((k.size : Int) ≥ (whole.size : Int)) := by omega
    have e : abbrB k.data.toList whole.data.toList = false := by
      unfold abbrB; rw [decide_eq_false (by rw [HS.out, HK.out]; exact hl), Bool.false_and]
    have E := Lib.hid e
    clear e
    go_enter Tryz.func71, Tryz.ntmps71
    go_wp2_with fail
    go_quiet (fail)
    go_wp2
    go_ret
    exact ⟨ret_bool E.out.symm, (by exact ⟨rfl, rfl, rfl, Nat.le_refl _, fun _ _ => rfl⟩)⟩

set_option maxRecDepth 100000 in
set_option maxHeartbeats 1600000 in
theorem indexShort_any (A : Option Addr) (n c : Nat) (os : List ByteArray) (k : ByteArray) (w : World) (hn : n = os.length) (hnb : n ≤ 1000) (h1 : 1 ≤ k.size) (hk : k.size ≤ 1000) (ha : ∀ b, b ∈ k.data.toList → b.toNat < 128) (ho : ∀ o, o ∈ os → o.size ≤ 1000)
    (hx : Cells w A (os.map Value.string)) :
    Calls Tryz.prog 147 #[.slice A n c, .func (.func 71) #[.string k] #[]] w fun e w' => ∃ r : Int, e = .returned (.int .i64 r) ∧ decide (0 ≤ r) = (os.any fun o => abbrB k.data.toList o.data.toList) ∧ Below w.heap.size w w' := by
  have Q := Lib.hid (fun o W (h : o.size ≤ 1000) => shortens_any k o W h1 hk h ha)
  have HN := Lib.hid hn
  have HX := Lib.hid hx
  have HO := Lib.hid ho
  clear hn hx ho ha
  go_enter Tryz.func147, Tryz.ntmps147
  go_wp2_with fail
  go_loopw [8] (fun i wr => ∃ j : Nat, j ≤ n ∧ i = .int .i64 j ∧ ((os.drop j).any fun o => abbrB k.data.toList o.data.toList) = (os.any fun o => abbrB k.data.toList o.data.toList) ∧ Below w.heap.size w wr) (fun i _ => n - (intOf i).toNat)
  case atStart => exact ⟨0, Nat.zero_le _, rfl, rfl, Below.refl _ _⟩
  case round =>
    obtain ⟨j, hj, rfl, hp, hb⟩ := hrel
    have HP := Lib.hid hp
    clear hp
    by_cases hlt : j < n
    · have hjs : j < os.length := by rw [← HN.out]; exact hlt
      obtain ⟨b1, o1, rfl, c1⟩ := HX.out.str j hjs
      have c2 := (hb.cell (World.block_lt_of_cell? w _ c1)).trans c1
      have hsz := HO.out _ (List.getElem_mem hjs)
      have hd : (os.drop j).any (fun o => abbrB k.data.toList o.data.toList) = (abbrB k.data.toList os[j].data.toList || (os.drop (j + 1)).any fun o => abbrB k.data.toList o.data.toList) := by
        rw [List.drop_eq_getElem_cons hjs]; rfl
      have q := fun W => Q.out os[j] W hsz
      generalize os[j] = X at *
      have j4 : (j : Int) < (n : Int) := by omega
      have j5 : (0 : Int) ≤ (j : Int) := by omega
      cases hv : abbrB k.data.toList X.data.toList with
      | true =>
        rw [hv] at q hd
        have HD := Lib.hid hd
        have Q2 := Lib.hid q
        clear q hd hv c1
        go_wp2_with fail
        refine (Q2.out _).mono ?_
        rintro e w' ⟨rfl, hb2⟩
        have hb3 := hb.trans (hb2.mono hb.size)
        go_wp2_with fail
        go_ret
        exact ⟨_, rfl, by rw [← HP.out, HD.out, Bool.true_or]; exact decide_eq_true j5, hb3⟩
      | false =>
        rw [hv] at q hd
        have HD := Lib.hid hd
        have Q2 := Lib.hid q
        clear q hd hv c1
        go_wp2_with fail
        refine (Q2.out _).mono ?_
        rintro e w' ⟨rfl, hb2⟩
        have hb3 := hb.trans (hb2.mono hb.size)
        go_wp2_with fail
        exact ⟨⟨j + 1, by omega, by go_num, by rw [← HP.out, HD.out, Bool.false_or], hb3⟩, by simp [intOf]; omega⟩
    · have hkn : ¬ ((j : Int) < (n : Int)) := by omega
      have e2 : (os.any fun o => abbrB k.data.toList o.data.toList) = false := by rw [← HP.out, List.drop_eq_nil_of_le (by rw [← HN.out]; omega)]; rfl
      have E2 := Lib.hid e2
      clear e2
      go_wp2_with fail
      go_ret
      exact ⟨-1, rfl, by rw [E2.out]; rfl, hb⟩

set_option maxRecDepth 100000 in
set_option maxHeartbeats 800000 in
theorem containsShort_any (A : Option Addr) (n c : Nat) (os : List ByteArray) (k : ByteArray) (w : World) (hn : n = os.length) (hnb : n ≤ 1000) (h1 : 1 ≤ k.size) (hk : k.size ≤ 1000) (ha : ∀ b, b ∈ k.data.toList → b.toNat < 128) (ho : ∀ o, o ∈ os → o.size ≤ 1000)
    (hx : Cells w A (os.map Value.string)) :
    Calls Tryz.prog 132 #[.slice A n c, .func (.func 71) #[.string k] #[]] w fun e w' => e = .returned (.bool (os.any fun o => abbrB k.data.toList o.data.toList)) ∧ Below w.heap.size w w' := by
  have Q := Lib.hid (indexShort_any A n c os k w hn hnb h1 hk ha ho hx)
  clear hn hx ho ha
  go_enter Tryz.func132, Tryz.ntmps132
  go_wp2_with fail
  refine Q.out.mono ?_
  rintro e w' ⟨r, rfl, hr, hb⟩
  go_wp2_with fail
  go_ret
  exact ⟨by rw [← hr]; rfl, hb⟩

set_option maxRecDepth 100000 in
set_option maxHeartbeats 800000 in
theorem unmistaken_any (A : Option Addr) (n c : Nat) (os : List ByteArray) (key k : ByteArray) (w : World) (hn : n = os.length) (hnb : n ≤ 1000) (h1 : 1 ≤ k.size) (hk : k.size ≤ 1000) (ha : ∀ b, b ∈ k.data.toList → b.toNat < 128) (ho : ∀ o, o ∈ os → o.size ≤ 1000)
    (hx : Cells w A (os.map Value.string)) :
    Calls Tryz.prog 107 #[.agg #[.string key, .slice A n c], .string k] w fun e w' => e = .returned (.bool (fineG (os.map fun o => o.data.toList) k.data.toList)) ∧ Below w.heap.size w w' := by
  have hbx : Below w.heap.size w (w.alloc (.cells #[.string key, .slice A n c] 119)) := (Below.refl _ _).alloc (Nat.le_refl _) _
  have Q := Lib.hid (containsShort_any A n c os k _ hn hnb h1 hk ha ho (hx.below hbx))
  have e : fineG (os.map fun o => o.data.toList) k.data.toList = !(os.any fun o => abbrB k.data.toList o.data.toList) := by
    unfold fineG
    rw [List.all_map, List.not_any_eq_all_not]; rfl
  have E := Lib.hid e
  clear e hn hx ho ha
  go_enter Tryz.func107, Tryz.ntmps107
  go_wp2_with fail
  refine Q.out.mono ?_
  rintro e w' ⟨rfl, hb⟩
  have hb2 := hbx.trans (hb.mono hbx.size)
  go_wp2_with fail
  go_ret
  exact ⟨ret_bool E.out.symm, hb2⟩
end Go.Proofs.YtljlkhaolfihjaaGreatDoor
