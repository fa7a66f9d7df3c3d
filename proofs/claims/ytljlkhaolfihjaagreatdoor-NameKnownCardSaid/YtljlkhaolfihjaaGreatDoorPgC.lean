/- The program's letters: their kinds, and what they stand for. -/
import Derived.Test.YtljlkhaolfihjaaGreatDoorPgSpecB
import Derived.Test.YtljlkhaolfihjaaGreatDoorShelf
import Derived.Test.YtljlkhaolfihjaaGreatDoorRefE
import Derived.Shelf.Strings.BuilderK
import Derived.Lib.RuneBytes
import Derived.Test.YtljlkhaolfihjaaGreatDoorKitE
namespace Go.Proofs.YtljlkhaolfihjaaGreatDoor
open Go.RowKit

theorem hqw_facts (r : Int) (h0 : 65 ≤ r) (h1 : r ≤ 90) : decide (0 ≤ Lib.indexByte (⟨#[72, 81, 87]⟩ : ByteArray).data.toList r.toNat.toUInt8) = decide (r = 72 ∨ r = 81 ∨ r = 87) ∧
    decide (0 ≤ Lib.indexByte (⟨#[67, 74, 88, 89]⟩ : ByteArray).data.toList r.toNat.toUInt8) = decide (r = 67 ∨ r = 74 ∨ r = 88 ∨ r = 89) := by
  have h : ∀ n : Fin 26, decide (0 ≤ Lib.indexByte (⟨#[72, 81, 87]⟩ : ByteArray).data.toList (65 + (n.val : Int)).toNat.toUInt8) = decide ((65 + (n.val : Int)) = 72 ∨ (65 + (n.val : Int)) = 81 ∨ (65 + (n.val : Int)) = 87) ∧
      decide (0 ≤ Lib.indexByte (⟨#[67, 74, 88, 89]⟩ : ByteArray).data.toList (65 + (n.val : Int)).toNat.toUInt8) = decide ((65 + (n.val : Int)) = 67 ∨ (65 + (n.val : Int)) = 74 ∨ (65 + (n.val : Int)) = 88 ∨ (65 + (n.val : Int)) = 89) := by decide +kernel
  obtain ⟨k, rfl⟩ : ∃ k : Nat, r = 65 + (k : Int) := ⟨(r - 65).toNat, by omega⟩
  exact h ⟨k, by omega⟩

theorem hqw_call (r : Int) (v : Bool) (W : World) (h0 : 65 ≤ r) (h1 : r ≤ 90) (hv : decide (r = 72 ∨ r = 81 ∨ r = 87) = v) :
    Calls Tryz.prog 138 #[.string ⟨#[72, 81, 87]⟩, .int .i32 r] W fun e w' => e = .returned (.bool v) ∧ W = w' :=
  (Tryz.strings_ContainsRune_ascii _ r W (by omega) (by omega)).mono fun e w' h => ⟨by rw [h.1, (hqw_facts r h0 h1).1, hv], h.2.symm⟩
theorem cjxy_call (r : Int) (v : Bool) (W : World) (h0 : 65 ≤ r) (h1 : r ≤ 90) (hv : decide (r = 67 ∨ r = 74 ∨ r = 88 ∨ r = 89) = v) :
    Calls Tryz.prog 138 #[.string ⟨#[67, 74, 88, 89]⟩, .int .i32 r] W fun e w' => e = .returned (.bool v) ∧ W = w' :=
  (Tryz.strings_ContainsRune_ascii _ r W (by omega) (by omega)).mono fun e w' h => ⟨by rw [h.1, (hqw_facts r h0 h1).2, hv], h.2.symm⟩

set_option maxHeartbeats 400000 in
theorem kindOf_far (r : Int) (w : World) (h : r < 65 ∨ 90 < r) :
    Calls Tryz.prog 116 #[.int .i32 r] w fun e w' => e = .returned (.int .i64 (kindP r)) ∧ w = w' := by
  by_cases h97 : 97 ≤ r ∧ r ≤ 122
  · obtain ⟨a, b⟩ := h97
    have e : kindP r = 1 := by unfold kindP; rw [if_pos ⟨a, b⟩]
    have E := Lib.hid e
    clear e h
    go_enter Tryz.func116, Tryz.ntmps116
    go_wp2_with fail
    go_ret
    exact ⟨ret_int E.out.symm, rfl⟩
  · have e : kindP r = 0 := by unfold kindP; rw [if_neg h97, if_pos h]
    have E := Lib.hid e
    have h3 : r < 65 ∨ (90 < r ∧ r < 97) ∨ 122 < r := by omega
    clear e h h97
    rcases h3 with h3 | ⟨h3, h4⟩ | h3
    all_goals
      go_enter Tryz.func116, Tryz.ntmps116
      go_wp2_with fail
      go_ret
      exact ⟨ret_int E.out.symm, rfl⟩

set_option maxHeartbeats 400000 in
theorem kindOf_near (r : Int) (w : World) (h0 : 65 ≤ r) (h1 : r ≤ 90) :
    Calls Tryz.prog 116 #[.int .i32 r] w fun e w' => e = .returned (.int .i64 (kindP r)) ∧ w = w' := by
  have n1 : ¬ (97 ≤ r ∧ r ≤ 122) := by omega
  have n2 : ¬ (r < 65 ∨ 90 < r) := by omega
  by_cases c1 : r = 72 ∨ r = 81 ∨ r = 87
  · have e : kindP r = 0 := by unfold kindP; rw [if_neg n1, if_neg n2, if_pos c1]
    have q := fun W => hqw_call r true W h0 h1 (by simpa using c1)
    have E := Lib.hid e
    have Q := Lib.hid q
    clear e c1 q n1 n2
    go_enter Tryz.func116, Tryz.ntmps116
    go_wp2_with fail
    refine (Q.out _).mono ?_
    rintro e w' ⟨rfl, rfl⟩
    go_wp2_with fail
    go_ret
    exact ⟨ret_int E.out.symm, rfl⟩
  · have q := fun W => hqw_call r false W h0 h1 (by simpa using c1)
    have Q := Lib.hid q
    by_cases c2 : r = 67 ∨ r = 74 ∨ r = 88 ∨ r = 89
    · have e : kindP r = 3 := by unfold kindP; rw [if_neg n1, if_neg n2, if_neg c1, if_pos c2]
      have q2 := fun W => cjxy_call r true W h0 h1 (by simpa using c2)
      have E := Lib.hid e
      have Q2 := Lib.hid q2
      clear e c1 c2 q q2 n1 n2
      go_enter Tryz.func116, Tryz.ntmps116
      go_wp2_with fail
      refine (Q.out _).mono ?_
      rintro e w' ⟨rfl, rfl⟩
      go_wp2_with fail
      refine (Q2.out _).mono ?_
      rintro e w' ⟨rfl, rfl⟩
      go_wp2_with fail
      go_ret
      exact ⟨ret_int E.out.symm, rfl⟩
    · have e : kindP r = 2 := by unfold kindP; rw [if_neg n1, if_neg n2, if_neg c1, if_neg c2]
      have q2 := fun W => cjxy_call r false W h0 h1 (by simpa using c2)
      have E := Lib.hid e
      have Q2 := Lib.hid q2
      clear e c1 c2 q q2 n1 n2
      go_enter Tryz.func116, Tryz.ntmps116
      go_wp2_with fail
      refine (Q.out _).mono ?_
      rintro e w' ⟨rfl, rfl⟩
      go_wp2_with fail
      refine (Q2.out _).mono ?_
      rintro e w' ⟨rfl, rfl⟩
      go_wp2_with fail
      go_ret
      exact ⟨ret_int E.out.symm, rfl⟩

theorem kindOf_any (r : Int) (w : World) : Calls Tryz.prog 116 #[.int .i32 r] w fun e w' => e = .returned (.int .i64 (kindP r)) ∧ w = w' := by
  by_cases h : r < 65 ∨ 90 < r
  · exact kindOf_far r w h
  · exact kindOf_near r w (by omega) (by omega)

theorem kindP_cases (r : Int) : kindP r = 0 ∨ kindP r = 1 ∨ kindP r = 2 ∨ kindP r = 3 := by
  unfold kindP; repeat' split
  all_goals simp
theorem kind_call (r v : Int) (h : kindP r = v) (W : World) : Calls Tryz.prog 116 #[.int .i32 r] W fun e w' => e = .returned (.int .i64 v) ∧ W = w' := by
  rw [← h]; exact kindOf_any r W

set_option maxHeartbeats 400000 in
theorem alphabetOf_any (r : Int) (w : World) : Calls Tryz.prog 86 #[.int .i32 r] w fun e w' => e = .returned (.int .i64 (alphaP r)) ∧ w = w' := by
  rcases kindP_cases r with h | h | h | h
  all_goals
    have q := kind_call r _ h
    have e : alphaP r = alphaP r := rfl
    conv at e => rhs; unfold alphaP; rw [h]
    have E := Lib.hid e
    have Q := Lib.hid q
    clear q h e
    go_enter Tryz.func86, Tryz.ntmps86
    go_wp2_with fail
    refine (Q.out _).mono ?_
    rintro e w' ⟨rfl, rfl⟩
    go_wp2_with fail
    go_ret
    exact ⟨ret_int (by rw [E.out]; rfl), rfl⟩

/-- What two letters a letter stands for. -/
def pairP (r : Int) : List UInt8 := if r = 67 then [99, 104] else if r = 74 then [106, 117] else if r = 88 then [115, 104] else [106, 97]
set_option maxHeartbeats 400000 in
theorem pair_any (r : Int) (w : World) : Calls Tryz.prog 118 #[.int .i32 r] w fun e w' => e = .returned (str (pairP r)) ∧ w = w' := by
  by_cases h1 : r = 67
  · subst h1
    go_enter Tryz.func118, Tryz.ntmps118
    go_wp2_with fail
    go_ret
    exact ⟨rfl, rfl⟩
  by_cases h2 : r = 74
  · subst h2
    go_enter Tryz.func118, Tryz.ntmps118
    go_wp2_with fail
    go_ret
    exact ⟨rfl, rfl⟩
  by_cases h3 : r = 88
  · subst h3
    go_enter Tryz.func118, Tryz.ntmps118
    go_wp2_with fail
    go_ret
    exact ⟨rfl, rfl⟩
  · have e : pairP r = [106, 97] := by unfold pairP; rw [if_neg h1, if_neg h2, if_neg h3]
    have b1 : (r == 67) = false := by simpa using h1
    have b2 : (r == 74) = false := by simpa using h2
    have b3 : (r == 88) = false := by simpa using h3
    have E := Lib.hid e
    clear e h1 h2 h3
    go_enter Tryz.func118, Tryz.ntmps118
    go_wp2_with fail
    go_ret
    exact ⟨ret_val (str_val E.out.symm), rfl⟩

theorem enc_ascii (r : Int) (h0 : 0 ≤ r) (h1 : r < 128) : Utf8.encode r = ⟨#[UInt8.ofNat r.toNat]⟩ := by
  have h : ∀ n : Fin 128, (Utf8.encode (n.val : Int)).data = #[UInt8.ofNat n.val] := by decide +kernel
  obtain ⟨k, rfl⟩ : ∃ k : Nat, r = (k : Int) := ⟨r.toNat, by omega⟩
  exact ByteArray.ext (h ⟨k, by omega⟩)

set_option maxRecDepth 100000 in
theorem lat_facts (c : UInt8) : (kindP c.toNat = 1 → latP c = [c]) ∧ (kindP c.toNat = 2 → latP c = [UInt8.ofNat ((c.toNat : Int) + 32).toNat] ∧ c.toNat ≤ 90) ∧ (kindP c.toNat = 3 → latP c = pairP c.toNat) ∧ (kindP c.toNat = 0 → latP c = []) := by
  have h : ∀ n : Fin 256, (kindP (UInt8.ofNat n.val).toNat = 1 → latP (UInt8.ofNat n.val) = [UInt8.ofNat n.val]) ∧ (kindP (UInt8.ofNat n.val).toNat = 2 → latP (UInt8.ofNat n.val) = [UInt8.ofNat (((UInt8.ofNat n.val).toNat : Int) + 32).toNat] ∧ (UInt8.ofNat n.val).toNat ≤ 90) ∧ (kindP (UInt8.ofNat n.val).toNat = 3 → latP (UInt8.ofNat n.val) = pairP (UInt8.ofNat n.val).toNat) ∧ (kindP (UInt8.ofNat n.val).toNat = 0 → latP (UInt8.ofNat n.val) = []) := by decide +kernel
  exact byte_all (p := fun c => (kindP c.toNat = 1 → latP c = [c]) ∧ (kindP c.toNat = 2 → latP c = [UInt8.ofNat ((c.toNat : Int) + 32).toNat] ∧ c.toNat ≤ 90) ∧ (kindP c.toNat = 3 → latP c = pairP c.toNat) ∧ (kindP c.toNat = 0 → latP c = [])) h c

set_option maxHeartbeats 400000 in
theorem latinP_any (c : UInt8) (w : World) (h128 : c.toNat < 128) : Calls Tryz.prog 88 #[.int .i32 (c.toNat : Int)] w fun e w' => e = .returned (str (latP c)) ∧ w = w' := by
  obtain ⟨l1, l2, l3, l0⟩ := lat_facts c
  have e1 := enc_ascii (c.toNat : Int) (by omega) (by omega)
  rcases kindP_cases (c.toNat : Int) with h | h | h | h
  · have q := kind_call _ _ h
    have E := Lib.hid (l0 h)
    have Q := Lib.hid q
    clear q h l1 l2 l3 l0 e1
    go_enter Tryz.func88, Tryz.ntmps88
    go_wp2_with fail
    refine (Q.out _).mono ?_
    rintro e w' ⟨rfl, rfl⟩
    go_wp2_with fail
    go_ret
    exact ⟨ret_val (str_val E.out.symm), rfl⟩
  · have q := kind_call _ _ h
    have E := Lib.hid (l1 h)
    have Q := Lib.hid q
    have E1 := Lib.hid e1
    clear q h l1 l2 l3 l0 e1
    go_enter Tryz.func88, Tryz.ntmps88
    go_wp2_with fail
    refine (Q.out _).mono ?_
    rintro e w' ⟨rfl, rfl⟩
    go_wp2_with fail
    go_ret
    exact ⟨ret_val (by rw [E.out, E1.out]; simp [str]), rfl⟩
  · have q := kind_call _ _ h
    obtain ⟨l2, l90⟩ := l2 h
    have e2 := enc_ascii ((c.toNat : Int) + 32) (by omega) (by omega)
    have E := Lib.hid l2
    have Q := Lib.hid q
    have E2 := Lib.hid e2
    clear q h l1 l2 l3 l0 e1 e2
    go_enter Tryz.func88, Tryz.ntmps88
    go_wp2_with fail
    refine (Q.out _).mono ?_
    rintro e w' ⟨rfl, rfl⟩
    go_wp2_with fail
    go_ret
    exact ⟨ret_val (by rw [E.out, E2.out]; rfl), rfl⟩
  · have q := kind_call _ _ h
    have E := Lib.hid (l3 h)
    have Q := Lib.hid q
    clear q h l1 l2 l3 l0 e1
    go_enter Tryz.func88, Tryz.ntmps88
    go_wp2_with fail
    refine (Q.out _).mono ?_
    rintro e w' ⟨rfl, rfl⟩
    go_wp2_with fail
    refine (pair_any _ _).mono ?_
    rintro e w' ⟨rfl, rfl⟩
    go_wp2_with fail
    go_ret
    exact ⟨ret_val (str_val E.out.symm), rfl⟩
end Go.Proofs.YtljlkhaolfihjaaGreatDoor

/- What a strings.Builder does when it is written to, at this program: its check of a copy, a string, a letter. -/
namespace Go.Proofs.YtljlkhaolfihjaaGreatDoor
open Go.RowKit

theorem infoU8 : (Tryz.prog.info? 5).map (fun i => (i.zero, i.size, i.bytes)) = some (some (.int .u8 0), 1, 1) := by kernel_rfl
theorem infoBld : (Tryz.prog.info? 144).map (fun i => i.size) = some 2 := by kernel_rfl
abbrev IsBld (B b : Nat) (l : List UInt8) (w : World) : Prop := Lib.IsBuilderF 144 5 B b (Lib.byteCells l) w
abbrev BldAt (B b : Nat) (bs : List Value) (w : World) : Prop := Lib.BuilderAtF 144 5 B b (.pointer (some ⟨b, 0, none⟩)) bs w

set_option maxRecDepth 100000 in
theorem bld_check (B b : Nat) (bs : List Value) (w : World) (h : Lib.IsBuilderF 144 5 B b bs w) :
    Calls Tryz.prog 117 #[.pointer (some ⟨b, 0, none⟩)] w fun e w' => e = .returned (.tuple #[]) ∧ BldAt B b bs w' ∧ Below B w w' ∧ Lib.OthersKept 5 (some b) w w' := by
  obtain ⟨j, hj, hjs⟩ := Option.map_eq_some_iff.1 infoBld
  rcases h with h | h
  · have c0 := h.cell0
    have c1 := h.shape
    have c2 := h.frozen0
    have H := Lib.hid h
    clear h
    go_enter Tryz.func117, Tryz.ntmps117
    go_wp2
    rw [Lib.run_to_unsafe w ⟨b, 0, none⟩ Tryz.underlying141 Tryz.underlying165 hj (by rw [hjs]; decide) c1 (Nat.zero_lt_succ 1)]
    simp only [Result.andThen]
    rw [Oper.upon_value]
    go_wp2
    rw [run_callFunc_extern Tryz.func139 (by kernel_rfl) (by kernel_rfl) (by kernel_rfl) (e := Extern.AbiNoEscape.same) (by kernel_rfl)]
    rw [Lib.run_noEscape]
    simp only [Result.andThen]
    rw [Oper.upon_value]
    go_wp2
    rw [Lib.run_from_unsafe w ⟨b, 0, none⟩ Tryz.underlying165 Tryz.underlying141 hj c1 (by kernel_rfl)]
    simp only [Result.andThen]
    rw [Oper.upon_value]
    go_wp2
    go_end0
    exact ⟨rfl, H.out.used _, (Below.refl B w).setCell (p := ⟨b, 0, none⟩) H.out.1 _, (Lib.OthersKept.refl _ _ w).setCell ⟨b, 0, none⟩ rfl _⟩
  · have c0 := h.cell0
    have H := Lib.hid h
    clear h
    go_enter Tryz.func117, Tryz.ntmps117
    go_wp2
    rw [Lib.run_neq_ptr_same w _ Tryz.underlying141 hj]
    go_wp2
    go_end0
    exact ⟨rfl, H.out, Below.refl B _, Lib.OthersKept.refl _ _ _⟩

theorem bld_lt {w : World} {b : Nat} {o : Obj} (h : w.heap[b]? = some o) : b < w.heap.size := (Array.getElem?_eq_some_iff.1 h).1

set_option maxRecDepth 100000 in
set_option maxHeartbeats 800000 in
theorem bld_string (B b : Nat) (bs : List Value) (s : ByteArray) (w : World) (h : Lib.IsBuilderF 144 5 B b bs w) (hlen : bs.length + s.size ≤ 1000000) (hBw : B ≤ w.heap.size) :
    Calls Tryz.prog 87 #[.pointer (some ⟨b, 0, none⟩), .string s] w fun e w' => e = .returned (.tuple #[.int .i64 s.size, .nilIface]) ∧ BldAt B b (bs ++ Lib.strCells s) w' ∧ Below B w w' ∧ Lib.OthersKept 5 (some b) w w' := by
  obtain ⟨i0, hi, hz0, hz1, hz2⟩ := info_parts infoU8
  go_enter Tryz.func87, Tryz.ntmps87
  go_wp2_with fail
  refine (bld_check B b bs _ h).mono ?_
  rintro e w1 ⟨rfl, h1, hb1, hk1⟩
  obtain ⟨hB, v, hbk, hown, hne⟩ := h1
  have c0 : w1.cell? ⟨b, 0, none⟩ = some (.pointer (some ⟨b, 0, none⟩)) := by rw [Lib.cell_of_heap hbk]; rfl
  have c1 : w1.cell? ⟨b, 1, none⟩ = some v := by rw [Lib.cell_of_heap hbk]; rfl
  go_wp2_with (at_builtin; refine Lib.wpList_append_own_stringF _ rfl _ _ 142 9 rfl B 5 i0 Tryz.underlying142 Tryz.underlying9 hi hz0 hz1 hz2 _ _ _ rfl hown s rfl ?c3 ?c4 ?c5 ?_)
  case c3 => unfold maxLen; omega
  case c4 => omega
  case c5 => have := hb1.size; omega
  intro v' w2 hown' hgrow _
  have hb2 : w2.heap[b]? = some (.cells #[.pointer (some ⟨b, 0, none⟩), v] 144 (0, 0)) := by
    rw [hgrow.block b (bld_lt hbk) (fun e => hne e.symm)]
    exact hbk
  have d0 : w2.cell? ⟨b, 0, none⟩ = some (.pointer (some ⟨b, 0, none⟩)) := by rw [Lib.cell_of_heap hb2]; rfl
  have d1 : w2.cell? ⟨b, 1, none⟩ = some v := by rw [Lib.cell_of_heap hb2]; rfl
  have f1 : w2.frozen? ⟨b, 1, none⟩ = false := Lib.frozen_of_heap hb2 1
  obtain ⟨ao, n', cap, rfl⟩ : ∃ ao n' cap, v' = .slice ao n' cap := by
    rcases hown'.2 with ⟨hv, _⟩ | ⟨g, cap, cur, fz, hv, _⟩
    · exact ⟨_, _, _, hv⟩
    · exact ⟨_, _, _, hv⟩
  go_wp2
  go_ret2
  refine ⟨rfl, ?_, ?_, (hk1.grown hgrow (Lib.ownsRowF_kind hown)).setCell ⟨b, 1, none⟩ rfl _⟩
  · exact Lib.BuilderAtF.put hB hb2 (bs' := bs ++ Lib.strCells s) (by simpa [Lib.strCells_length] using hown') (by decide)
  · exact (hb1.grown hgrow (by have := hb1.size; omega) (fun k hk => (hown.lt k hk).1)).setCell (p := ⟨b, 1, none⟩) hB _

set_option maxRecDepth 100000 in
set_option maxHeartbeats 800000 in
/-- An ASCII letter behind some bytes. -/
theorem append_rune (B : Nat) (v : Value) (n : Nat) (xs : List Value) (r : Int) (h0 : 0 ≤ r) (h1 : r ≤ 127) (w : World) (hown : w.ownsRowF B 5 1 v n xs) (hlen : n ≤ 1000000) (hBw : B ≤ w.heap.size) :
    Calls Tryz.prog 121 #[v, .int .i32 r] w fun e w' => ∃ v', e = .returned v' ∧ w'.ownsRowF B 5 1 v' (n + 1) (xs ++ [.int .u8 r]) ∧ ∃ o, (w.alloc o).grownBy w' v.ownBlock := by
  obtain ⟨i0, hi, hz0, hz1, hz2⟩ := info_parts infoU8
  obtain ⟨ao, cap, rfl⟩ : ∃ ao cap, v = .slice ao n cap := by
    rcases hown.2 with ⟨hv, h0⟩ | ⟨g, cap, cur, fz, hv, _⟩
    · exact ⟨none, 0, by rw [hv, h0]⟩
    · exact ⟨_, _, hv⟩
  have e1 : IntKind.u32.wrap r = r := IntWalk.u32_in _ (by omega)
  have e2 : IntKind.u8.wrap r = r := IntWalk.u8_in _ (by omega)
  go_enter Tryz.func121, Tryz.ntmps121
  go_wp2_with (at_builtin; refine wpList_append_ownF _ rfl _ _ 142 rfl B 5 i0 (.int .u8 0) 1 1 Tryz.underlying142 hi hz0 hz1 hz2 rfl (by decide) _ _ _ rfl (hown.alloc _) ⟨w.heap.size, 0, none⟩ 1 1 [.int .u8 r] rfl rfl ?c1 ?c2 ?c3 ?c4 ?c5 ?_)
  case c1 =>
    intro j u hj
    match j, hj with
    | 0, hj => simp at hj; subst hj; simp [Addr.add]
  case c2 => intro u hu; simp at hu; subst hu; rfl
  case c3 => unfold maxLen; omega
  case c4 => omega
  case c5 => simp; omega
  intro v' w2 hown' hgrow _
  go_wp2
  go_ret
  exact ⟨v', rfl, hown', _, hgrow⟩

set_option maxRecDepth 100000 in
set_option maxHeartbeats 800000 in
theorem bld_rune (B b : Nat) (bs : List Value) (r : Int) (h0 : 0 ≤ r) (h127 : r ≤ 127) (w : World) (h : Lib.IsBuilderF 144 5 B b bs w) (hlen : bs.length ≤ 1000000) (hBw : B ≤ w.heap.size) :
    Calls Tryz.prog 96 #[.pointer (some ⟨b, 0, none⟩), .int .i32 r] w fun e w' => e = .returned (.tuple #[.int .i64 1, .nilIface]) ∧ BldAt B b (bs ++ [.int .u8 r]) w' ∧ Below B w w' ∧ Lib.OthersKept 5 (some b) w w' := by
  go_enter Tryz.func96, Tryz.ntmps96
  go_wp2_with fail
  refine (bld_check B b bs _ h).mono ?_
  rintro e w1 ⟨rfl, h1, hb1, hk1⟩
  obtain ⟨hB, v, hbk, hown, hne⟩ := h1
  obtain ⟨ao, cap, rfl⟩ : ∃ ao cap, v = .slice ao bs.length cap := by
    rcases hown.2 with ⟨hv, h0⟩ | ⟨g, cap, cur, fz, hv, _⟩
    · exact ⟨none, 0, by rw [hv, h0]⟩
    · exact ⟨_, _, hv⟩
  have c0 : w1.cell? ⟨b, 0, none⟩ = some (.pointer (some ⟨b, 0, none⟩)) := by rw [Lib.cell_of_heap hbk]; rfl
  have c1 : w1.cell? ⟨b, 1, none⟩ = some (.slice ao bs.length cap) := by rw [Lib.cell_of_heap hbk]; rfl
  go_wp2_with fail
  refine (append_rune B _ bs.length bs r h0 h127 _ hown hlen (by have := hb1.size; omega)).mono ?_
  rintro e w2 ⟨v', rfl, hown', o, hgrow⟩
  have hlt := bld_lt hbk
  have hb2 : w2.heap[b]? = some (.cells #[.pointer (some ⟨b, 0, none⟩), .slice ao bs.length cap] 144 (0, 0)) := by
    rw [hgrow.block b (by simp; omega) (fun e => hne e.symm), Lib.alloc_old w1 _ b hlt]
    exact hbk
  have d0 : w2.cell? ⟨b, 0, none⟩ = some (.pointer (some ⟨b, 0, none⟩)) := by rw [Lib.cell_of_heap hb2]; rfl
  have d1 : w2.cell? ⟨b, 1, none⟩ = some (.slice ao bs.length cap) := by rw [Lib.cell_of_heap hb2]; rfl
  have f1 : w2.frozen? ⟨b, 1, none⟩ = false := Lib.frozen_of_heap hb2 1
  obtain ⟨g, cap', rfl⟩ : ∃ g cap', v' = .slice (some ⟨g, 0, none⟩) (bs.length + 1) cap' := by
    rcases hown'.2 with ⟨_, h0⟩ | ⟨g, cap', cur, fz, hv, _⟩
    · omega
    · exact ⟨g, cap', hv⟩
  go_wp2
  go_ret2
  refine ⟨?_, ?_, ?_, ((hk1.alloc _).grown hgrow (Lib.ownsRowF_kind (hown.alloc _))).setCell ⟨b, 1, none⟩ rfl _⟩
  · have e : ((bs.length : Int) + 1 - (bs.length : Int)) = 1 := by omega
    simp [e]
  · exact Lib.BuilderAtF.put hB hb2 (bs' := bs ++ [.int .u8 r]) (by simpa using hown') (by decide)
  · exact ((hb1.alloc (by have := hb1.size; omega) _).grown hgrow (by have := hb1.size; simp; omega) (fun k hk => (hown.lt k hk).1)).setCell (p := ⟨b, 1, none⟩) hB _
end Go.Proofs.YtljlkhaolfihjaaGreatDoor

/- The program's reading of valid names. -/
namespace Go.Proofs.YtljlkhaolfihjaaGreatDoor
open Go.RowKit

/-- The alphabet of the letters that were read. -/
def alAt (l : List UInt8) (k : Nat) : Int := if k = 0 then 0 else alphaN l
def ReadOk (s : ByteArray) (w : World) (e : Ending) (w' : World) : Prop :=
  e = .returned (.tuple #[.agg #[.string (keyS s), .int .i64 (alphaN s.data.toList)], .nilIface]) ∧ Below w.heap.size w w'

theorem bytes_str (l : List UInt8) : Lib.strCells (⟨l.toArray⟩ : ByteArray) = Lib.byteCells l := rfl
/-- A letter of a valid name. -/
theorem valid_ascii {l : List UInt8} (h : Sp.check l = 0) : ∀ c, c ∈ l → c.toNat < 128 := by
  intro c hc
  have h1 := valid_alpha h c hc
  have h2 : alphaP c.toNat = 1 ∨ alphaP c.toNat = 2 := by rw [h1]; exact alphaN_ne l
  unfold alphaP kindP at h2
  by_cases hh : c.toNat < 128
  · exact hh
  · have a : ¬ (97 ≤ (c.toNat : Int) ∧ (c.toNat : Int) ≤ 122) := by omega
    have b : (c.toNat : Int) < 65 ∨ 90 < (c.toNat : Int) := by omega
    rw [if_neg a, if_pos b] at h2
    simp at h2

theorem alpha_call (r v : Int) (h : alphaP r = v) (W : World) : Calls Tryz.prog 86 #[.int .i32 r] W fun e w' => e = .returned (.int .i64 v) ∧ W = w' := by
  rw [← h]; exact alphabetOf_any r W

/-- A block of two cells that both were written. -/
theorem block2 {W : World} {B : Nat} {t : TypeId} {x y : Value} (h : W.heap[B]? = some (.cells #[x, y] t (0, 0))) (v0 v1 : Value) :
    ((W.setCell ⟨B, 0, none⟩ v0).setCell ⟨B, 1, none⟩ v1).heap[B]? = some (.cells #[v0, v1] t (0, 0)) := by
  simp [World.setCell, Array.getElem?_modify, h]
theorem block2_cells {W : World} {B : Nat} {t : TypeId} {x y : Value} (h : W.heap[B]? = some (.cells #[x, y] t (0, 0))) :
    W.cell? ⟨B, 0, none⟩ = some x ∧ W.cell? ⟨B, 1, none⟩ = some y ∧ W.frozen? ⟨B, 0, none⟩ = false ∧ W.frozen? ⟨B, 1, none⟩ = false :=
  ⟨by rw [Lib.cell_of_heap h]; rfl, by rw [Lib.cell_of_heap h]; rfl, Lib.frozen_of_heap h 0, Lib.frozen_of_heap h 1⟩

set_option maxRecDepth 100000 in
set_option maxHeartbeats 1600000 in
theorem read_ok (s : ByteArray) (w : World) (h : Sp.check s.data.toList = 0) : Calls Tryz.prog 54 #[.string s] w (ReadOk s w) := by
  have hsz := check_size h
  have hva := valid_alpha h
  have has := valid_ascii h
  have hkey := latP_flat h
  have hsl := size_list s
  have hane := alphaN_ne s.data.toList
  have hlong := latP_flat_le s.data.toList
  obtain ⟨s1, s6⟩ := hsz
  have HVA := Lib.hid hva
  have HAS := Lib.hid has
  have HKEY := Lib.hid hkey
  have HSL := Lib.hid hsl
  have HANE := Lib.hid hane
  have hz0 : ((s.size : Int) == 0) = false := by rw [beq_eq_false_iff_ne]; omega
  have hz6 : decide ((s.size : Int) > 6) = false := decide_eq_false (by omega)
  clear hva hkey hsl h has hane hlong
  go_enter Tryz.func54, Tryz.ntmps54
  go_wp2_with fail
  go_loopw [5] (fun al wr => ∃ k : Nat, k ≤ s.size ∧ al = .int .i64 (alAt s.data.toList k) ∧ IsBld (w.heap.size + 1) (w.heap.size + 1) ((s.data.toList.take k).flatMap latP) wr ∧ wr.heap[w.heap.size + 1 + 1]? = some (.stringIter s k) ∧
    wr.heap[w.heap.size]? = some (.cells #[.string ⟨#[]⟩, .int .i64 0] 84 (0, 0)) ∧ Below w.heap.size w wr) (fun _ wr => s.size - wr.iterPos (w.heap.size + 1 + 1))
  case atStart =>
    refine ⟨0, Nat.zero_le _, rfl, ?_, ?_, ?_, (((Below.refl _ w).alloc (Nat.le_refl _) _).alloc (by simp) _).alloc (by simp; omega) _⟩
    · have := (Lib.IsBuilderF.of (Lib.fresh_isBuilder 144 5 (w.alloc (.cells #[.string ⟨#[]⟩, .int .i64 0] 84)))).alloc (.stringIter s 0)
      simp only [World.size_alloc] at this
      exact this
    · have := World.iter_heap ((w.alloc (.cells #[.string ⟨#[]⟩, .int .i64 0] 84)).alloc (.cells #[.pointer none, .slice none 0 0] 144)) s 0
      simpa using this
    · have h1 := heap_alloc_new w (.cells #[.string ⟨#[]⟩, .int .i64 0] 84)
      exact (Below.heap_alloc _ _ _ (by simp; omega)).trans ((Below.heap_alloc _ _ _ (by simp)).trans h1)
  case round =>
    obtain ⟨k, hk, rfl, hI, hit, hres, hb⟩ := hrel
    have hsz : w.heap.size + 1 + 1 < wr.heap.size := bld_lt hit
    have hle := latP_flat_le (s.data.toList.take k)
    have hle2 := List.length_take_le k s.data.toList
    have hle3 : ((s.data.toList.take k).flatMap latP).length ≤ 12 := by omega
    clear hle hle2
    by_cases hlt : k < s.size
    · have hmem : s[k] ∈ s.data.toList := Array.getElem_mem_toList _
      have hc1 := HVA.out _ hmem
      have hc2 := HAS.out _ hmem
      have hal := alpha_call (s[k].toNat : Int) _ hc1
      have hnx : ∀ ty, (Instr.next (.pointer (some ⟨w.heap.size + 1 + 1, 0, none⟩)) true ty).run Tryz.prog wr = _ := fun ty => Lib.run_next_ascii_at wr (w.heap.size + 1 + 1) s k ty hit hlt hc2
      have hI2 := hI.iterAt hit (k + 1)
      have hit2 := Lib.iterAt_heap wr (w.heap.size + 1 + 1) s k (k + 1) hit
      have hb2 := Lib.below_iterAt hb (k := w.heap.size + 1 + 1) (by omega) s (k + 1)
      have hsz2 : w.heap.size + 1 ≤ (wr.iterAt (w.heap.size + 1 + 1) s (k + 1)).heap.size := by rw [Lib.iterAt_size]; omega
      have hres2 : (wr.iterAt (w.heap.size + 1 + 1) s (k + 1)).heap[w.heap.size]? = some (.cells #[.string ⟨#[]⟩, .int .i64 0] 84 (0, 0)) := (Lib.iterAt_other wr _ _ s (k + 1) (by omega)).trans hres
      have hts := take_snoc s k hlt
      have hll := latP_le s[k]
      have hlat := fun W => latinP_any s[k] W hc2
      have hbl : (Lib.byteCells ((s.data.toList.take k).flatMap latP)).length + (⟨(latP s[k]).toArray⟩ : ByteArray).size ≤ 1000000 := by
        rw [Lib.byteCells_length]
        show _ + (latP s[k]).toArray.size ≤ _
        rw [List.size_toArray]
        omega
      have HBL := Lib.hid hbl
      have HLAT := Lib.hid hlat
      have HTS := Lib.hid hts
      have HAL := Lib.hid hal
      clear hmem hc1 hal hlat hts hbl
      generalize hC : s[k] = C at *
      have HC := Lib.hid hC
      clear hC
      obtain ⟨v, a, hv, ha, hva⟩ : ∃ v a : Int, alAt s.data.toList k = v ∧ alphaN s.data.toList = a ∧ ((a = 1 ∧ v = 0) ∨ (a = 1 ∧ v = 1) ∨ (a = 2 ∧ v = 0) ∨ (a = 2 ∧ v = 2)) := by
        refine ⟨_, _, rfl, rfl, ?_⟩
        unfold alAt
        rcases HANE.out with h | h
        all_goals
          by_cases h0 : k = 0
          · simp [h, h0]
          · simp [h, h0]
      have HA := Lib.hid ha
      have HAL2 : Hid (∀ W : World, Calls Tryz.prog 86 #[.int .i32 (C.toNat : Int)] W fun e w' => e = .returned (.int .i64 a) ∧ W = w') := by
        have := HAL.out; rw [ha] at this; exact this
      have hal1 : alAt s.data.toList (k + 1) = a := by unfold alAt; rw [if_neg (by omega), ha]
      have HAL1 := Lib.hid hal1
      rw [hv]
      clear hv ha HAL hal1
      rcases hva with ⟨rfl, rfl⟩ | ⟨rfl, rfl⟩ | ⟨rfl, rfl⟩ | ⟨rfl, rfl⟩
      all_goals
        go_wp2_with fail
        refine (HAL2.out _).mono ?_
        rintro e w' ⟨rfl, rfl⟩
        go_wp2_with fail
        refine (HLAT.out _).mono ?_
        rintro e w' ⟨rfl, rfl⟩
        go_wp2_with fail
        refine (bld_string (w.heap.size + 1) (w.heap.size + 1) _ _ _ hI2 HBL.out hsz2).mono ?_
        rintro e W1 ⟨rfl, h1, b1, k1⟩
        have hit3 := k1.iter hit2 (by omega)
        have hres3 := (b1.block w.heap.size (by omega)).trans hres2
        have hb3 := hb2.trans (b1.mono (by omega))
        go_wp2
        go_roundw
        case rel =>
          refine ⟨k + 1, by omega, by rw [HAL1.out], ?_, hit3, hres3, hb3⟩
          have h2 : Lib.IsBuilderF 144 5 (w.heap.size + 1) (w.heap.size + 1) _ W1 := Or.inr h1
          have h3 : Lib.byteCells ((s.data.toList.take (k + 1)).flatMap latP) = Lib.byteCells ((s.data.toList.take k).flatMap latP) ++ Lib.strCells (⟨(latP C).toArray⟩ : ByteArray) := by
            rw [HTS.out, List.flatMap_append, Lib.byteCells_append, bytes_str]
            simp
          show Lib.IsBuilderF 144 5 (w.heap.size + 1) (w.heap.size + 1) (Lib.byteCells ((s.data.toList.take (k + 1)).flatMap latP)) W1
          rw [h3]
          exact h2
        case measure =>
          simp only [World.iterPos, hit3, hit]
          omega
    · have hnx : ∀ ty, (Instr.next (.pointer (some ⟨w.heap.size + 1 + 1, 0, none⟩)) true ty).run Tryz.prog wr = _ := fun ty => Lib.run_next_end_at wr (w.heap.size + 1 + 1) s k ty hit hlt
      have hk' : k = s.size := by omega
      have hv : alAt s.data.toList k = alphaN s.data.toList := by unfold alAt; rw [if_neg (by omega)]
      have hts : (s.data.toList.take k).flatMap latP = Sp.key s.data.toList := by rw [List.take_of_length_le (by simp; omega)]; exact HKEY.out
      rw [hts] at hI
      rw [hv]
      clear hv hts hle3
      generalize hA : alphaN s.data.toList = a at *
      have HA := Lib.hid hA
      clear hA hk'
      go_wp2_with fail
      refine (Tryz.Builder_String_any_k (w.heap.size + 1) (w.heap.size + 1) _ _ hI (by omega)).mono ?_
      rintro e W1 ⟨rfl, _, b1, k1⟩
      have hres3 := (b1.block w.heap.size (by omega)).trans hres
      have hb3 := hb.trans (b1.mono (by omega))
      have c0 : W1.cell? ⟨w.heap.size, 0, none⟩ = some (.string ⟨#[]⟩) := by rw [Lib.cell_of_heap hres3]; rfl
      have c1 : W1.cell? ⟨w.heap.size, 1, none⟩ = some (.int .i64 0) := by rw [Lib.cell_of_heap hres3]; rfl
      have f0 : W1.frozen? ⟨w.heap.size, 0, none⟩ = false := Lib.frozen_of_heap hres3 0
      have f1 : W1.frozen? ⟨w.heap.size, 1, none⟩ = false := Lib.frozen_of_heap hres3 1
      have hz2 := block2_cells (block2 hres3 (.string ⟨(Sp.key s.data.toList).toArray⟩) (.int .i64 a))
      obtain ⟨z0, z1, _, _⟩ := hz2
      have Z0 := Lib.hid z0
      have Z1 := Lib.hid z1
      clear z0 z1
      go_wp2
      have z0 := Z0.out
      have z1 := Z1.out
      exact bodyPost_ret (v := .tuple #[.agg #[.string ⟨(Sp.key s.data.toList).toArray⟩, .int .i64 a], .nilIface]) (by simp [results, Tryz.results54, go_sem, z0, z1]) rfl ⟨by rw [HA.out]; rfl, (hb3.setCell (Nat.le_refl _) _).setCell (Nat.le_refl _) _⟩
end Go.Proofs.YtljlkhaolfihjaaGreatDoor

/- The program's word for no error; keys of valid names; lists of valid names. -/
namespace Go.Proofs.YtljlkhaolfihjaaGreatDoor
open Go.RowKit

set_option maxRecDepth 100000 in
theorem as_nil (v : Value) (w : World) : Calls Tryz.prog 80 #[.nilIface, v] w fun e w' => e = .returned (.bool false) ∧ w = w' := by
  go_enter Tryz.func80, Tryz.ntmps80
  go_wp2_with fail
  go_ret
  exact ⟨rfl, rfl⟩

set_option maxRecDepth 100000 in
theorem codeOf_nil (w : World) : Calls Tryz.prog 47 #[.nilIface] w fun e w' => e = .returned (.int .i64 0) ∧ Below w.heap.size w w' := by
  go_enter Tryz.func47, Tryz.ntmps47
  go_wp2_with fail
  refine (as_nil _ _).mono ?_
  rintro e w1 ⟨rfl, rfl⟩
  go_wp2_with fail
  go_ret
  exact ⟨rfl, (Below.refl _ _).alloc (Nat.le_refl _) _⟩

set_option maxRecDepth 100000 in
set_option maxHeartbeats 400000 in
theorem Check_ok (s : ByteArray) (w : World) (h : Sp.check s.data.toList = 0) : Calls Tryz.prog 23 #[.string s] w fun e w' => e = .returned (.int .i64 0) ∧ Below w.heap.size w w' := by
  go_enter Tryz.func23, Tryz.ntmps23
  go_wp2_with fail
  refine (read_ok s _ h).mono ?_
  rintro e w1 ⟨rfl, hb1⟩
  generalize alphaN s.data.toList = a
  go_wp2_with fail
  refine (codeOf_nil _).mono ?_
  rintro e w2 ⟨rfl, hb2⟩
  go_wp2_with fail
  go_ret
  exact ⟨rfl, (hb1.alloc hb1.size _).trans (hb2.mono (by have := hb1.size; simp; omega))⟩

set_option maxRecDepth 100000 in
set_option maxHeartbeats 400000 in
theorem Key_ok (s : ByteArray) (w : World) (h : Sp.check s.data.toList = 0) : Calls Tryz.prog 24 #[.string s] w fun e w' => e = .returned (.tuple #[.string (keyS s), .int .i64 0]) ∧ Below w.heap.size w w' := by
  go_enter Tryz.func24, Tryz.ntmps24
  go_wp2_with fail
  refine (read_ok s _ h).mono ?_
  rintro e w1 ⟨rfl, hb1⟩
  generalize alphaN s.data.toList = a
  go_wp2_with fail
  have hb2 := hb1.alloc (o := .cells #[.string (keyS s), .int .i64 a] 84) hb1.size
  have c0 : (w1.alloc (.cells #[.string (keyS s), .int .i64 a] 84)).cell? ⟨w1.heap.size, 0, none⟩ = some (.string (keyS s)) := by rw [Lib.cell_of_heap (heap_alloc_new w1 _)]; rfl
  generalize w1.alloc (.cells #[.string (keyS s), .int .i64 a] 84) = W at *
  obtain ⟨T, g, hg0, hgb, hgx, hT⟩ : ∃ (T : Type) (g : T → World), (∃ x, W.drew = g x) ∧ (∀ x, Below W.heap.size W (g x)) ∧ (∀ x, (g x).cell? ⟨w1.heap.size, 0, none⟩ = some (.string (keyS s))) ∧
      (∀ x, Calls Tryz.prog 47 #[.nilIface] (g x) fun e w' => e = .returned (.int .i64 0) ∧ ∃ y, w' = g y) :=
    ⟨Since W, Subtype.val, Since.here W, fun x => x.property, fun x => x.cell c0, fun x => x.calls (codeOf_nil _)⟩
  have hTne : Nonempty T := let ⟨x, _⟩ := hg0; ⟨x⟩
  have HT1 := Lib.hid hT
  clear hT c0
  refine wp_region_class g hg0 (by kernel_rfl) (by kernel_rfl) ?_
  repeat (go_big_quiet_step (fail))
  go_big_quiet_step (exact HT1.out _)
  repeat (go_big_quiet_step (fail))
  refine wpQuiet_nil ?_
  rintro _ ⟨xq, rfl⟩
  have hbq := hgb xq
  have t5 := hb2.trans (hbq.mono hb2.size)
  clear hgb hgx hg0
  go_wp2_with fail
  go_ret2
  exact ⟨rfl, t5⟩

theorem infoSpell : (Tryz.prog.info? 84).map (fun i => (i.zero, i.size, i.bytes)) = some (some (.agg #[.string ByteArray.empty, .int .i64 0]), 2, 24) := by kernel_rfl
/-- Names at work as they lie in memory. -/
def spellCells (ss : List ByteArray) : List Value := ss.flatMap fun s => [.string (keyS s), .int .i64 (alphaN s.data.toList)]
theorem spellCells_step (ss : List ByteArray) (k : Nat) (h : k < ss.length) : spellCells (ss.take (k + 1)) = spellCells (ss.take k) ++ [.string (keyS ss[k]), .int .i64 (alphaN ss[k].data.toList)] := by
  unfold spellCells
  rw [List.take_succ_eq_append_getElem h, List.flatMap_append]; simp
def AllOk (ss : List ByteArray) : Prop := ∀ s, s ∈ ss → Sp.check s.data.toList = 0
def SpellsPost (ss : List ByteArray) (w : World) (e : Ending) (w' : World) : Prop :=
  ∃ o : Value, e = .returned (.tuple #[o, .nilIface]) ∧ w'.ownsRow w.heap.size 84 2 o ss.length (spellCells ss) ∧ Below w.heap.size w w'

set_option maxRecDepth 100000 in
set_option maxHeartbeats 1600000 in
theorem readAll_ok (A : Option Addr) (n c : Nat) (ss : List ByteArray) (w : World) (hn : n = ss.length) (hb : n ≤ 1000) (hv : AllOk ss) (hx : Cells w A (ss.map Value.string)) :
    Calls Tryz.prog 46 #[.slice A n c] w (SpellsPost ss w) := by
  obtain ⟨si, hi, hz0, hz1, hz2⟩ := info_parts infoSpell
  have HN := Lib.hid hn
  have HX := Lib.hid hx
  have HV := Lib.hid hv
  clear hn hx hv
  go_enter Tryz.func46, Tryz.ntmps46
  go_wp2_with fail
  go_loopw [4, 11] (fun o i wr => ∃ k : Nat, k ≤ n ∧ i = .int .i64 k ∧ wr.ownsRow w.heap.size 84 2 o k (spellCells (ss.take k)) ∧ Below w.heap.size w wr) (fun _ i _ => n - (intOf i).toNat)
  case atStart => exact ⟨0, Nat.zero_le _, rfl, World.ownsRow_nil _ _ _ _, Below.refl _ _⟩
  case round =>
    obtain ⟨k, hk, rfl, hown, hbw⟩ := hrel
    obtain ⟨O, cap, rfl⟩ := own_form hown
    by_cases hlt : k < n
    · have hks : k < ss.length := by rw [← HN.out]; exact hlt
      obtain ⟨b1, o1, rfl, c1⟩ := HX.out.str k hks
      have c2 := (hbw.cell (World.block_lt_of_cell? w _ c1)).trans c1
      have hok := HV.out _ (List.getElem_mem hks)
      have est := spellCells_step ss k hks
      have EST := Lib.hid est
      generalize hX : ss[k] = X at *
      have HXX := Lib.hid hX
      clear hX c1 est
      go_wp2_with fail
      refine (read_ok X _ hok).mono ?_
      rintro e w1 ⟨rfl, hb1⟩
      have hb2 := hbw.trans (hb1.mono hbw.size)
      have hown1 := own_below hown hb1
      generalize alphaN X.data.toList = a at *
      clear c2 hown hbw hb1
      have hs1 := hb2.size
      go_wp2_with (at_builtin; refine wpList_append_own _ rfl _ _ 76 rfl w.heap.size 84 si (.agg #[.string ByteArray.empty, .int .i64 0]) 2 24 Tryz.underlying76 hi hz0 hz1 hz2 rfl (by decide) _ _ _ rfl ((hown1.alloc _).alloc _) ⟨w1.heap.size + 1, 0, none⟩ 1 1 [.string (keyS X), .int .i64 a] rfl rfl (two_new _ _ _ _ _ (by simp)) (by simp [Value.oneCell']) (by unfold maxLen; omega) (by omega) (by simp; omega) ?_; intro v' wN hownN hgN _)
      have hbN := ((hb2.alloc hs1 _).alloc (by simp; omega) _).grown hgN (by simp; omega) (fun j hj => (hown1.lt j hj).1)
      go_wp2
      go_roundw
      case rel => exact ⟨k + 1, by omega, by go_num, by rw [EST.out]; exact hownN, hbN⟩
      case measure => simp [intOf]; omega
    · have hkn : k = ss.length := by rw [← HN.out]; omega
      have et : spellCells (ss.take k) = spellCells ss := by rw [List.take_of_length_le (by omega)]
      have HKN := Lib.hid hkn
      have ET := Lib.hid et
      clear hkn et
      go_wp2
      go_ret2
      refine ⟨_, rfl, ?_, hbw⟩
      rw [← HKN.out, ← ET.out]
      exact hown

set_option maxRecDepth 100000 in
set_option maxHeartbeats 400000 in
theorem readList_ok (A : Option Addr) (n c : Nat) (ss : List ByteArray) (w : World) (hn : n = ss.length) (hb : n ≤ 6) (hv : AllOk ss) (hx : Cells w A (ss.map Value.string)) :
    Calls Tryz.prog 50 #[.slice A n c] w (SpellsPost ss w) := by
  have q := readAll_ok A n c ss w hn (by omega) hv hx
  have Q := Lib.hid q
  clear q hn hx hv
  go_enter Tryz.func50, Tryz.ntmps50
  go_wp2_with fail
  refine Q.out.mono ?_
  rintro e w1 ⟨o, rfl, ho, hb1⟩
  go_wp2_with fail
  go_ret2
  exact ⟨o, rfl, ho, hb1⟩
end Go.Proofs.YtljlkhaolfihjaaGreatDoor
