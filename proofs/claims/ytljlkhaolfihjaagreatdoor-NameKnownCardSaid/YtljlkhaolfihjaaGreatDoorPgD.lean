/- The program's name of the other alphabet. -/
import Derived.Test.YtljlkhaolfihjaaGreatDoorPgC
namespace Go.Proofs.YtljlkhaolfihjaaGreatDoor
open Go.RowKit

def letV : Option Nat → Int
  | none => 0
  | some j => 65 + (j : Int)

theorem lets_facts (k : Nat) (hk : k < 26) : (kindP (65 + (k : Int)) = 0 ↔ lets k = []) ∧ latP (letterAt k) = lets k ∧ (lets k).length ≤ 2 := by
  have h : ∀ n : Fin 26, (kindP (65 + (n.val : Int)) = 0 ↔ lets n.val = []) ∧ latP (letterAt n.val) = lets n.val ∧ (lets n.val).length ≤ 2 := by decide +kernel
  exact h ⟨k, hk⟩
theorem lat_call (k : Nat) (hk : k < 26) (W : World) : Calls Tryz.prog 88 #[.int .i32 (65 + (k : Int))] W fun e w' => e = .returned (str (lets k)) ∧ W = w' := by
  have h := latinP_any (letterAt k) W (by rw [letterAt_nat k (by omega)]; omega)
  rw [letterAt_nat k (by omega), (lets_facts k hk).2.1] at h
  rw [show ((65 + k : Nat) : Int) = 65 + (k : Int) by omega] at h
  exact h
theorem pre_call (s : ByteArray) (l : List UInt8) (v : Bool) (hv : l.isPrefixOf s.data.toList = v) (W : World) : Calls Tryz.prog 120 #[.string s, str l] W fun e w' => e = .returned (.bool v) ∧ W = w' := by
  subst hv
  exact (Tryz.strings_HasPrefix s ⟨l.toArray⟩ W).mono fun e w' h => ⟨h.1, h.2.symm⟩

def LetPost (t : List UInt8) (w : World) (e : Ending) (w' : World) : Prop :=
  e = .returned (.tuple #[.int .i32 (letV (bestT t 26)), .bool (bestT t 26).isSome]) ∧ w = w'

set_option maxRecDepth 100000 in
set_option maxHeartbeats 1600000 in
theorem otherLetter_any (s : ByteArray) (w : World) : Calls Tryz.prog 95 #[.string s] w (LetPost s.data.toList w) := by
  go_enter Tryz.func95, Tryz.ntmps95
  go_wp2_with fail
  go_loop [2, 3, 4] (fun lt ok r => ∃ k : Nat, k ≤ 26 ∧ r = .int .i32 (65 + (k : Int)) ∧ lt = .int .i32 (letV (bestT s.data.toList k)) ∧ ok = .bool (bestT s.data.toList k).isSome) (fun _ _ r => (91 - intOf r).toNat)
  case atStart => exact ⟨0, Nat.zero_le _, rfl, rfl, rfl⟩
  case round =>
    obtain ⟨k, hk, rfl, rfl, rfl⟩ := hrel
    by_cases hlt : k < 26
    · obtain ⟨f1, f2, f3⟩ := lets_facts k hlt
      have est := bestT_succ s.data.toList k
      have hlc := fun W => lat_call k hlt W
      have HLC := Lib.hid hlc
      by_cases hz : lets k = []
      · have hk0 := fun W => kind_call _ _ (f1.2 hz) W
        have en : bestT s.data.toList (k + 1) = bestT s.data.toList k := by
          rw [est]; unfold stepT fitsT; rw [hz]; rfl
        have HK := Lib.hid hk0
        have EN := Lib.hid en
        clear hk0 en est f1 f2 hz hlc
        go_wp2_with fail
        refine (HK.out _).mono ?_
        rintro e w' ⟨rfl, rfl⟩
        go_wp2_with fail
        go_round
        case rel => exact ⟨k + 1, by omega, by go_num, by rw [EN.out], by rw [EN.out]⟩
        case measure => simp [intOf]; omega
      · have hne : kindP (65 + (k : Int)) ≠ 0 := fun h => hz (f1.1 h)
        obtain ⟨v, hv⟩ : ∃ v, kindP (65 + (k : Int)) = v := ⟨_, rfl⟩
        have hk0 := fun W => kind_call _ _ hv W
        have hvz : (v == 0) = false := by rw [beq_eq_false_iff_ne, ← hv]; exact hne
        have HK := Lib.hid hk0
        clear hk0 hne hv
        cases hp : (lets k).isPrefixOf s.data.toList with
        | false =>
          have hpc := fun W => pre_call s (lets k) false hp W
          have en : bestT s.data.toList (k + 1) = bestT s.data.toList k := by
            rw [est]; unfold stepT fitsT; rw [hp]; simp
          have HP := Lib.hid hpc
          have EN := Lib.hid en
          clear hpc en est f1 f2 hz hlc hp
          go_wp2_with fail
          refine (HK.out _).mono ?_
          rintro e w' ⟨rfl, rfl⟩
          go_wp2_with fail
          refine (HLC.out _).mono ?_
          rintro e w' ⟨rfl, rfl⟩
          go_wp2_with fail
          refine (HP.out _).mono ?_
          rintro e w' ⟨rfl, rfl⟩
          go_wp2_with fail
          go_round
          case rel => exact ⟨k + 1, by omega, by go_num, by rw [EN.out], by rw [EN.out]⟩
          case measure => simp [intOf]; omega
        | true =>
          have hpc := fun W => pre_call s (lets k) true hp W
          have hfit : fitsT s.data.toList k = true := by unfold fitsT; rw [hp]; simp [hz]
          have HP := Lib.hid hpc
          cases ha : bestT s.data.toList k with
          | none =>
            have en : bestT s.data.toList (k + 1) = some k := by rw [est, ha]; unfold stepT; rw [hfit]; rfl
            have EN := Lib.hid en
            clear hpc en est f1 f2 hz hlc hp hfit ha
            go_wp2_with fail
            refine (HK.out _).mono ?_
            rintro e w' ⟨rfl, rfl⟩
            go_wp2_with fail
            refine (HLC.out _).mono ?_
            rintro e w' ⟨rfl, rfl⟩
            go_wp2_with fail
            refine (HP.out _).mono ?_
            rintro e w' ⟨rfl, rfl⟩
            go_wp2_with fail
            go_round
            case rel => exact ⟨k + 1, by omega, by go_num, by rw [EN.out]; rfl, by rw [EN.out]; rfl⟩
            case measure => simp [intOf]; omega
          | some j =>
            have hj := (bestT_lt _ _ _ ha).1
            have f4 := (lets_facts j (by omega)).2.2
            have hlj := fun W => lat_call j (by omega) W
            have HLJ := Lib.hid hlj
            by_cases hl : (lets j).length < (lets k).length
            · have en : bestT s.data.toList (k + 1) = some k := by rw [est, ha]; unfold stepT longerT; rw [hfit]; simp [hl]
              have EN := Lib.hid en
              clear hpc en est f1 f2 hz hlc hp hfit ha hlj
              generalize hA : (lets j) = LJ at *
              generalize hB : (lets k) = LK at *
              clear hA hB
              go_wp2_with fail
              refine (HK.out _).mono ?_
              rintro e w' ⟨rfl, rfl⟩
              go_wp2_with fail
              refine (HLC.out _).mono ?_
              rintro e w' ⟨rfl, rfl⟩
              go_wp2_with fail
              refine (HP.out _).mono ?_
              rintro e w' ⟨rfl, rfl⟩
              go_wp2_with fail
              refine (HLC.out _).mono ?_
              rintro e w' ⟨rfl, rfl⟩
              go_wp2_with fail
              refine (HLJ.out _).mono ?_
              rintro e w' ⟨rfl, rfl⟩
              go_wp2_with fail
              go_round
              case rel => exact ⟨k + 1, by omega, by go_num, by rw [EN.out]; rfl, by rw [EN.out]; rfl⟩
              case measure => simp [intOf]; omega
            · have en : bestT s.data.toList (k + 1) = some j := by rw [est, ha]; unfold stepT longerT; rw [hfit]; simp [hl]
              have EN := Lib.hid en
              clear hpc en est f1 f2 hz hlc hp hfit ha hlj
              generalize hA : (lets j) = LJ at *
              generalize hB : (lets k) = LK at *
              clear hA hB
              have hl2 : LK.length ≤ LJ.length := by omega
              clear hl
              go_wp2_with fail
              refine (HK.out _).mono ?_
              rintro e w' ⟨rfl, rfl⟩
              go_wp2_with fail
              refine (HLC.out _).mono ?_
              rintro e w' ⟨rfl, rfl⟩
              go_wp2_with fail
              refine (HP.out _).mono ?_
              rintro e w' ⟨rfl, rfl⟩
              go_wp2_with fail
              refine (HLC.out _).mono ?_
              rintro e w' ⟨rfl, rfl⟩
              go_wp2_with fail
              refine (HLJ.out _).mono ?_
              rintro e w' ⟨rfl, rfl⟩
              go_wp2_with fail
              go_round
              case rel => exact ⟨k + 1, by omega, by go_num, by rw [EN.out], by rw [EN.out]; rfl⟩
              case measure => simp [intOf]; omega
    · have hk' : k = 26 := by omega
      subst hk'
      generalize hB : bestT s.data.toList 26 = b
      have HB := Lib.hid hB
      clear hB
      go_wp2_with fail
      go_ret2
      exact ⟨by rw [HB.out]; rfl, rfl⟩

theorem let_call (s : ByteArray) (b : Option Nat) (h : bestT s.data.toList 26 = b) (W : World) : Calls Tryz.prog 95 #[.string s] W fun e w' => e = .returned (.tuple #[.int .i32 (letV b), .bool b.isSome]) ∧ W = w' := by
  have q : Calls Tryz.prog 95 #[.string s] W fun e w' => e = .returned (.tuple #[.int .i32 (letV (bestT s.data.toList 26)), .bool (bestT s.data.toList 26).isSome]) ∧ W = w' := otherLetter_any s W
  rw [h] at q
  exact q

/-- How long a string in a slot is. -/
def strLen : Value → Nat
  | .string s => s.size
  | _ => 0
theorem extract_drop (s : ByteArray) (n : Nat) : (s.extract n s.size).data.toList = s.data.toList.drop n := by
  rw [ByteArray.data_extract, Array.toList_extract]
  simp [List.take_of_length_le]

def DecPost (t : List UInt8) (w : World) (e : Ending) (w' : World) : Prop :=
  e = .returned (.tuple #[.string ⟨((dec t).getD []).toArray⟩, .bool (dec t).isSome]) ∧ Below w.heap.size w w'

set_option maxRecDepth 100000 in
set_option maxHeartbeats 1600000 in
theorem other_dec (S : ByteArray) (w : World) (hS : S.size ≤ 12) : Calls Tryz.prog 63 #[.string S] w (DecPost S.data.toList w) := by
  go_enter Tryz.func63, Tryz.ntmps63
  go_wp2_with fail
  go_loopw [5] (fun r wr => ∃ (s : ByteArray) (out : List UInt8), r = .string s ∧ IsBld w.heap.size w.heap.size out wr ∧ Below w.heap.size w wr ∧ dec S.data.toList = (dec s.data.toList).map (out ++ ·) ∧ s.size ≤ 12 ∧ out.length + s.size ≤ 12) (fun r _ => strLen r)
  case atStart =>
    refine ⟨S, [], rfl, Lib.IsBuilderF.of (Lib.fresh_isBuilder 144 5 w), (Below.refl _ w).alloc (Nat.le_refl _) _, by simp, hS, by simpa using hS⟩
  case round =>
    obtain ⟨s, out, rfl, hI, hb, hd, hs, hos⟩ := hrel
    have HD := Lib.hid hd
    clear hd
    by_cases h0 : s.size = 0
    · have hn : s.data.toList = [] := List.eq_nil_of_length_eq_zero (by rw [size_list]; exact h0)
      have ed : dec S.data.toList = some out := by rw [HD.out, hn]; simp [dec]
      have t1 : s.toList = [] := by rw [ByteArray.toList_eq]; exact hn
      have ED := Lib.hid ed
      clear ed hn
      go_wp2_with fail
      refine (Tryz.Builder_String_any_k w.heap.size w.heap.size out _ hI hb.size).mono ?_
      rintro e W1 ⟨rfl, _, b1, k1⟩
      have hb3 := hb.trans b1
      go_wp2_with fail
      go_ret2
      exact ⟨by rw [ED.out]; rfl, hb3⟩
    · have hn : s.data.toList ≠ [] := fun h => h0 (by have := size_list s; rw [h] at this; simpa using this.symm)
      have t0 : s.toList ≠ [] := by rw [ByteArray.toList_eq]; exact hn
      have t1 : s.toList.isEmpty = false := by rw [List.isEmpty_eq_false_iff]; exact t0
      have t2 : (!s.toList.isEmpty) = true := by rw [t1]; rfl
      have hbest := dec_best s.data.toList hn
      cases hB : bestT s.data.toList 26 with
      | none =>
        rw [hB] at hbest
        have hbest : dec s.data.toList = none := hbest
        have ed : dec S.data.toList = none := by rw [HD.out, hbest]; rfl
        have hlc := fun W => let_call s none hB W
        have ED := Lib.hid ed
        have HL := Lib.hid hlc
        clear ed hlc hB hbest hn t0
        go_wp2_with fail
        refine (HL.out _).mono ?_
        rintro e w' ⟨rfl, rfl⟩
        go_wp2_with fail
        go_ret2
        exact ⟨by rw [ED.out]; rfl, hb⟩
      | some k =>
        rw [hB] at hbest
        have hbest : dec s.data.toList = (dec (s.data.toList.drop (lets k).length)).map (letterAt k :: ·) := hbest
        obtain ⟨hk, hfit⟩ := bestT_lt _ _ _ hB
        have hlc := fun W => let_call s (some k) hB W
        have hpre : (lets k).length ≤ s.size := by
          unfold fitsT at hfit
          simp only [Bool.and_eq_true] at hfit
          have := (List.isPrefixOf_iff_prefix.1 hfit.2).length_le
          rwa [size_list] at this
        have hlat := fun W => lat_call k hk W
        have hbr := fun W h1 h2 => bld_rune w.heap.size w.heap.size (Lib.byteCells out) (65 + (k : Int)) (by omega) (by omega) W h1 (by rw [Lib.byteCells_length]; omega) h2
        have hbc : Lib.byteCells (out ++ [letterAt k]) = Lib.byteCells out ++ [.int .u8 (65 + (k : Int))] := by
          rw [Lib.byteCells_append]
          unfold Lib.byteCells
          simp only [List.map_cons, List.map_nil]
          rw [letterAt_nat k (by omega)]
          rw [show ((65 + k : Nat) : Int) = 65 + (k : Int) by omega]
        have hdd : dec S.data.toList = (dec (s.extract (lets k).length s.size).data.toList).map ((out ++ [letterAt k]) ++ ·) := by
          rw [HD.out, hbest, extract_drop]
          cases dec (s.data.toList.drop (lets k).length) <;> simp
        have hlpos : 1 ≤ (lets k).length := by
          unfold fitsT at hfit
          simp only [Bool.and_eq_true, decide_eq_true_eq] at hfit
          exact List.length_pos_iff.2 hfit.1
        have HL := Lib.hid hlc
        have HLAT := Lib.hid hlat
        have HBR := Lib.hid hbr
        have HBC := Lib.hid hbc
        have HDD := Lib.hid hdd
        clear hlc hlat hbr hbc hdd hfit hbest hB hn t0 HD
        generalize hG : lets k = G at *
        clear hG
        go_wp2_with fail
        refine (HL.out _).mono ?_
        rintro e w' ⟨rfl, rfl⟩
        go_wp2_with fail
        refine (HBR.out _ hI hb.size).mono ?_
        rintro e W1 ⟨rfl, h1, b1, k1⟩
        go_wp2_with fail
        refine (HLAT.out _).mono ?_
        rintro e w' ⟨rfl, rfl⟩
        go_wp2_with fail
        go_roundw
        case rel =>
          refine ⟨s.extract G.length s.size, out ++ [letterAt k], rfl, ?_, hb.trans b1, HDD.out, ?_, ?_⟩
          · show Lib.IsBuilderF 144 5 w.heap.size w.heap.size (Lib.byteCells (out ++ [letterAt k])) W1
            rw [HBC.out]
            exact Or.inr h1
          · rw [ByteArray.size_extract]; omega
          · rw [ByteArray.size_extract]; simp; omega
        case measure => show (s.extract G.length s.size).size < s.size; rw [ByteArray.size_extract]; omega

def OtherOk (s : ByteArray) (w : World) (e : Ending) (w' : World) : Prop :=
  e = .returned (.tuple #[.string (otherP s).1, .int .i64 (otherP s).2]) ∧ Below w.heap.size w w'

set_option maxRecDepth 100000 in
set_option maxHeartbeats 800000 in
theorem Other_ok (s : ByteArray) (w : World) (h : Sp.check s.data.toList = 0) : Calls Tryz.prog 25 #[.string s] w (OtherOk s w) := by
  have hsz := check_size h
  have eo := otherP_eq s h
  have hks := keyS_size hsz.2
  have hde : (keyS s).data.toList = Sp.key s.data.toList := rfl
  rw [← hde] at eo
  cases hD : dec (keyS s).data.toList with
  | none =>
    rw [hD] at eo
    have eo : otherP s = (ByteArray.empty, 11) := eo
    have q : ∀ W : World, Calls Tryz.prog 63 #[.string (keyS s)] W fun e w' => e = .returned (.tuple #[.string ⟨#[]⟩, .bool false]) ∧ Below W.heap.size W w' := fun W => by
      have := other_dec (keyS s) W hks
      unfold DecPost at this
      rw [hD] at this
      exact this
    have EO := Lib.hid eo
    have Q := Lib.hid q
    clear eo q hks hsz hde hD
    go_enter Tryz.func25, Tryz.ntmps25
    go_wp2_with fail
    refine (read_ok s _ h).mono ?_
    rintro e w1 ⟨rfl, hb1⟩
    generalize alphaN s.data.toList = a
    go_wp2_with fail
    refine (Q.out _).mono ?_
    rintro e w2 ⟨rfl, hb2⟩
    go_wp2_with fail
    go_ret2
    exact ⟨by rw [EO.out]; rfl, (hb1.alloc hb1.size _).trans (hb2.mono (by have := hb1.size; simp; omega))⟩
  | some T =>
    rw [hD] at eo
    have eo : otherP s = (⟨T.toArray⟩, 0) := eo
    have q : ∀ W : World, Calls Tryz.prog 63 #[.string (keyS s)] W fun e w' => e = .returned (.tuple #[.string ⟨T.toArray⟩, .bool true]) ∧ Below W.heap.size W w' := fun W => by
      have := other_dec (keyS s) W hks
      unfold DecPost at this
      rw [hD] at this
      exact this
    have EO := Lib.hid eo
    have Q := Lib.hid q
    clear eo q hks hsz hde hD
    go_enter Tryz.func25, Tryz.ntmps25
    go_wp2_with fail
    refine (read_ok s _ h).mono ?_
    rintro e w1 ⟨rfl, hb1⟩
    generalize alphaN s.data.toList = a
    go_wp2_with fail
    refine (Q.out _).mono ?_
    rintro e w2 ⟨rfl, hb2⟩
    go_wp2_with fail
    go_ret2
    exact ⟨by rw [EO.out]; rfl, (hb1.alloc hb1.size _).trans (hb2.mono (by have := hb1.size; simp; omega))⟩
end Go.Proofs.YtljlkhaolfihjaaGreatDoor
