/- The program's letters: their kinds, and what they stand for. -/
import Derived.Test.YtldianbhpfdhcaaGreatDoorPgSpec
import Derived.Test.YtldianbhpfdhcaaGreatDoorShelf
namespace Go.Proofs.YtldianbhpfdhcaaGreatDoor
open Go.RowKit

theorem hqw_facts (r : Int) (h0 : 65 ≤ r) (h1 : r ≤ 90) : decide (0 ≤ Lib.indexByte (⟨#[72, 81, 87]⟩ : ByteArray).data.toList r.toNat.toUInt8) = decide (r = 72 ∨ r = 81 ∨ r = 87) ∧
    decide (0 ≤ Lib.indexByte (⟨#[67, 74, 88, 89]⟩ : ByteArray).data.toList r.toNat.toUInt8) = decide (r = 67 ∨ r = 74 ∨ r = 88 ∨ r = 89) := by
  have h : ∀ n : Fin 26, decide (0 ≤ Lib.indexByte (⟨#[72, 81, 87]⟩ : ByteArray).data.toList (65 + (n.val : Int)).toNat.toUInt8) = decide ((65 + (n.val : Int)) = 72 ∨ (65 + (n.val : Int)) = 81 ∨ (65 + (n.val : Int)) = 87) ∧
      decide (0 ≤ Lib.indexByte (⟨#[67, 74, 88, 89]⟩ : ByteArray).data.toList (65 + (n.val : Int)).toNat.toUInt8) = decide ((65 + (n.val : Int)) = 67 ∨ (65 + (n.val : Int)) = 74 ∨ (65 + (n.val : Int)) = 88 ∨ (65 + (n.val : Int)) = 89) := by decide +kernel
  obtain ⟨k, rfl⟩ : ∃ k : Nat, r = 65 + (k : Int) := ⟨(r - 65).toNat, by omega⟩
  exact h ⟨k, by omega⟩

theorem hqw_call (r : Int) (v : Bool) (W : World) (h0 : 65 ≤ r) (h1 : r ≤ 90) (hv : decide (r = 72 ∨ r = 81 ∨ r = 87) = v) :
    Calls Tryz.prog 167 #[.string ⟨#[72, 81, 87]⟩, .int .i32 r] W fun e w' => e = .returned (.bool v) ∧ W = w' :=
  (Tryz.strings_ContainsRune_ascii _ r W (by omega) (by omega)).mono fun e w' h => ⟨by rw [h.1, (hqw_facts r h0 h1).1, hv], h.2.symm⟩
theorem cjxy_call (r : Int) (v : Bool) (W : World) (h0 : 65 ≤ r) (h1 : r ≤ 90) (hv : decide (r = 67 ∨ r = 74 ∨ r = 88 ∨ r = 89) = v) :
    Calls Tryz.prog 167 #[.string ⟨#[67, 74, 88, 89]⟩, .int .i32 r] W fun e w' => e = .returned (.bool v) ∧ W = w' :=
  (Tryz.strings_ContainsRune_ascii _ r W (by omega) (by omega)).mono fun e w' h => ⟨by rw [h.1, (hqw_facts r h0 h1).2, hv], h.2.symm⟩

set_option maxHeartbeats 400000 in
theorem kindOf_far (r : Int) (w : World) (h : r < 65 ∨ 90 < r) :
    Calls Tryz.prog 143 #[.int .i32 r] w fun e w' => e = .returned (.int .i64 (kindP r)) ∧ w = w' := by
  by_cases h97 : 97 ≤ r ∧ r ≤ 122
  · obtain ⟨a, b⟩ := h97
    have e : kindP r = 1 := by unfold kindP; rw [if_pos ⟨a, b⟩]
    have E := Lib.hid e
    clear e h
    go_enter Tryz.func143, Tryz.ntmps143
    go_wp2_with fail
    go_ret
    exact ⟨ret_int E.out.symm, rfl⟩
  · have e : kindP r = 0 := by unfold kindP; rw [if_neg h97, if_pos h]
    have E := Lib.hid e
    have h3 : r < 65 ∨ (90 < r ∧ r < 97) ∨ 122 < r := by omega
    clear e h h97
    rcases h3 with h3 | ⟨h3, h4⟩ | h3
    all_goals
      go_enter Tryz.func143, Tryz.ntmps143
      go_wp2_with fail
      go_ret
      exact ⟨ret_int E.out.symm, rfl⟩

set_option maxHeartbeats 400000 in
theorem kindOf_near (r : Int) (w : World) (h0 : 65 ≤ r) (h1 : r ≤ 90) :
    Calls Tryz.prog 143 #[.int .i32 r] w fun e w' => e = .returned (.int .i64 (kindP r)) ∧ w = w' := by
  have n1 : ¬ (97 ≤ r ∧ r ≤ 122) := by omega
  have n2 : ¬ (r < 65 ∨ 90 < r) := by omega
  by_cases c1 : r = 72 ∨ r = 81 ∨ r = 87
  · have e : kindP r = 0 := by unfold kindP; rw [if_neg n1, if_neg n2, if_pos c1]
    have q := fun W => hqw_call r true W h0 h1 (by simpa using c1)
    have E := Lib.hid e
    have Q := Lib.hid q
    clear e c1 q n1 n2
    go_enter Tryz.func143, Tryz.ntmps143
    go_wp2_with fail
    refine (Q.out _).mono ?_
    rintro e w' ⟨rfl, rfl⟩
    go_wp2_with fail
    go_ret
    exact ⟨ret_int E.out.symm, rfl⟩
  · have q := fun W => hqw_call r false W h0 h1 (by simpa using c1)
    have Q := Lib.hid q
    by_cases c2 : r = 67 ∨ r = 74 ∨ r = 88 ∨ r = 89
    · have e : kindP r = 3 := by unfold kindP; rw [if_neg n1, if_neg n2, if_neg c1, if_pos c2]
      have q2 := fun W => cjxy_call r true W h0 h1 (by simpa using c2)
      have E := Lib.hid e
      have Q2 := Lib.hid q2
      clear e c1 c2 q q2 n1 n2
      go_enter Tryz.func143, Tryz.ntmps143
      go_wp2_with fail
      refine (Q.out _).mono ?_
      rintro e w' ⟨rfl, rfl⟩
      go_wp2_with fail
      refine (Q2.out _).mono ?_
      rintro e w' ⟨rfl, rfl⟩
      go_wp2_with fail
      go_ret
      exact ⟨ret_int E.out.symm, rfl⟩
    · have e : kindP r = 2 := by unfold kindP; rw [if_neg n1, if_neg n2, if_neg c1, if_neg c2]
      have q2 := fun W => cjxy_call r false W h0 h1 (by simpa using c2)
      have E := Lib.hid e
      have Q2 := Lib.hid q2
      clear e c1 c2 q q2 n1 n2
      go_enter Tryz.func143, Tryz.ntmps143
      go_wp2_with fail
      refine (Q.out _).mono ?_
      rintro e w' ⟨rfl, rfl⟩
      go_wp2_with fail
      refine (Q2.out _).mono ?_
      rintro e w' ⟨rfl, rfl⟩
      go_wp2_with fail
      go_ret
      exact ⟨ret_int E.out.symm, rfl⟩

theorem kindOf_any (r : Int) (w : World) : Calls Tryz.prog 143 #[.int .i32 r] w fun e w' => e = .returned (.int .i64 (kindP r)) ∧ w = w' := by
  by_cases h : r < 65 ∨ 90 < r
  · exact kindOf_far r w h
  · exact kindOf_near r w (by omega) (by omega)

theorem kindP_cases (r : Int) : kindP r = 0 ∨ kindP r = 1 ∨ kindP r = 2 ∨ kindP r = 3 := by
  unfold kindP; repeat' split
  all_goals simp
theorem kind_call (r v : Int) (h : kindP r = v) (W : World) : Calls Tryz.prog 143 #[.int .i32 r] W fun e w' => e = .returned (.int .i64 v) ∧ W = w' := by
  rw [← h]; exact kindOf_any r W

set_option maxHeartbeats 400000 in
theorem alphabetOf_any (r : Int) (w : World) : Calls Tryz.prog 113 #[.int .i32 r] w fun e w' => e = .returned (.int .i64 (alphaP r)) ∧ w = w' := by
  rcases kindP_cases r with h | h | h | h
  all_goals
    have q := kind_call r _ h
    have e : alphaP r = alphaP r := rfl
    conv at e => rhs; unfold alphaP; rw [h]
    have E := Lib.hid e
    have Q := Lib.hid q
    clear q h e
    go_enter Tryz.func113, Tryz.ntmps113
    go_wp2_with fail
    refine (Q.out _).mono ?_
    rintro e w' ⟨rfl, rfl⟩
    go_wp2_with fail
    go_ret
    exact ⟨ret_int (by rw [E.out]; rfl), rfl⟩

/-- What two letters a letter stands for. -/
def pairP (r : Int) : List UInt8 := if r = 67 then [99, 104] else if r = 74 then [106, 117] else if r = 88 then [115, 104] else [106, 97]
set_option maxHeartbeats 400000 in
theorem pair_any (r : Int) (w : World) : Calls Tryz.prog 145 #[.int .i32 r] w fun e w' => e = .returned (str (pairP r)) ∧ w = w' := by
  by_cases h1 : r = 67
  · subst h1
    go_enter Tryz.func145, Tryz.ntmps145
    go_wp2_with fail
    go_ret
    exact ⟨rfl, rfl⟩
  by_cases h2 : r = 74
  · subst h2
    go_enter Tryz.func145, Tryz.ntmps145
    go_wp2_with fail
    go_ret
    exact ⟨rfl, rfl⟩
  by_cases h3 : r = 88
  · subst h3
    go_enter Tryz.func145, Tryz.ntmps145
    go_wp2_with fail
    go_ret
    exact ⟨rfl, rfl⟩
  · have e : pairP r = [106, 97] := by unfold pairP; rw [if_neg h1, if_neg h2, if_neg h3]
    have b1 : (r == 67) = false := by simpa using h1
    have b2 : (r == 74) = false := by simpa using h2
    have b3 : (r == 88) = false := by simpa using h3
    have E := Lib.hid e
    clear e h1 h2 h3
    go_enter Tryz.func145, Tryz.ntmps145
    go_wp2_with fail
    go_ret
    exact ⟨ret_val (str_val E.out.symm), rfl⟩

theorem enc_ascii (r : Int) (h0 : 0 ≤ r) (h1 : r < 128) : Utf8.encode r = ⟨#[UInt8.ofNat r.toNat]⟩ := by
  have h : ∀ n : Fin 128, (Utf8.encode (n.val : Int)).data = #[UInt8.ofNat n.val] := by decide +kernel
  obtain ⟨k, rfl⟩ : ∃ k : Nat, r = (k : Int) := ⟨r.toNat, by omega⟩
  exact ByteArray.ext (h ⟨k, by omega⟩)

set_option maxRecDepth 100000 in
theorem lat_facts (c : UInt8) : (kindP c.toNat = 1 → latP c = [c]) ∧ (kindP c.toNat = 2 → latP c = [UInt8.ofNat ((c.toNat : Int) + 32).toNat] ∧ c.toNat ≤ 90) ∧ (kindP c.toNat = 3 → latP c = pairP c.toNat) ∧ (kindP c.toNat = 0 → latP c = []) := by
  have h : ∀ n : Fin 256, (kindP (UInt8.ofNat n.val).toNat = 1 → latP (UInt8.ofNat n.val) = [UInt8.ofNat n.val]) ∧ (kindP (UInt8.ofNat n.val).toNat = 2 → latP (UInt8.ofNat n.val) = [UInt8.ofNat (((UInt8.ofNat n.val).toNat : Int) + 32).toNat] ∧ (UInt8.ofNat n.val).toNat ≤ 90) ∧ (kindP (UInt8.ofNat n.val).toNat = 3 → latP (UInt8.ofNat n.val) = pairP (UInt8.ofNat n.val).toNat) ∧ (kindP (UInt8.ofNat n.val).toNat = 0 → latP (UInt8.ofNat n.val) = []) := by decide +kernel
  exact byte_all (p := fun c => (kindP c.toNat = 1 → latP c = [c]) ∧ (kindP c.toNat = 2 → latP c = [UInt8.ofNat ((c.toNat : Int) + 32).toNat] ∧ c.toNat ≤ 90) ∧ (kindP c.toNat = 3 → latP c = pairP c.toNat) ∧ (kindP c.toNat = 0 → latP c = [])) h c

set_option maxHeartbeats 400000 in
theorem latinP_any (c : UInt8) (w : World) (h128 : c.toNat < 128) : Calls Tryz.prog 115 #[.int .i32 (c.toNat : Int)] w fun e w' => e = .returned (str (latP c)) ∧ w = w' := by
  obtain ⟨l1, l2, l3, l0⟩ := lat_facts c
  have e1 := enc_ascii (c.toNat : Int) (by omega) (by omega)
  rcases kindP_cases (c.toNat : Int) with h | h | h | h
  · have q := kind_call _ _ h
    have E := Lib.hid (l0 h)
    have Q := Lib.hid q
    clear q h l1 l2 l3 l0 e1
    go_enter Tryz.func115, Tryz.ntmps115
    go_wp2_with fail
    refine (Q.out _).mono ?_
    rintro e w' ⟨rfl, rfl⟩
    go_wp2_with fail
    go_ret
    exact ⟨ret_val (str_val E.out.symm), rfl⟩
  · have q := kind_call _ _ h
    have E := Lib.hid (l1 h)
    have Q := Lib.hid q
    have E1 := Lib.hid e1
    clear q h l1 l2 l3 l0 e1
    go_enter Tryz.func115, Tryz.ntmps115
    go_wp2_with fail
    refine (Q.out _).mono ?_
    rintro e w' ⟨rfl, rfl⟩
    go_wp2_with fail
    go_ret
    exact ⟨ret_val (by rw [E.out, E1.out]; simp [str]), rfl⟩
  · have q := kind_call _ _ h
    obtain ⟨l2, l90⟩ := l2 h
    have e2 := enc_ascii ((c.toNat : Int) + 32) (by omega) (by omega)
    have E := Lib.hid l2
    have Q := Lib.hid q
    have E2 := Lib.hid e2
    clear q h l1 l2 l3 l0 e1 e2
    go_enter Tryz.func115, Tryz.ntmps115
    go_wp2_with fail
    refine (Q.out _).mono ?_
    rintro e w' ⟨rfl, rfl⟩
    go_wp2_with fail
    go_ret
    exact ⟨ret_val (by rw [E.out, E2.out]; rfl), rfl⟩
  · have q := kind_call _ _ h
    have E := Lib.hid (l3 h)
    have Q := Lib.hid q
    clear q h l1 l2 l3 l0 e1
    go_enter Tryz.func115, Tryz.ntmps115
    go_wp2_with fail
    refine (Q.out _).mono ?_
    rintro e w' ⟨rfl, rfl⟩
    go_wp2_with fail
    refine (pair_any _ _).mono ?_
    rintro e w' ⟨rfl, rfl⟩
    go_wp2_with fail
    go_ret
    exact ⟨ret_val (str_val E.out.symm), rfl⟩
end Go.Proofs.YtldianbhpfdhcaaGreatDoor
