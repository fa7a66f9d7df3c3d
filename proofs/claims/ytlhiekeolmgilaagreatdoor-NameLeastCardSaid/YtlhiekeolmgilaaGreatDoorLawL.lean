/- How many uses lie between two names, and the verdict on them. -/
import Derived.Test.YtlhiekeolmgilaaGreatDoorPgK
import Derived.Test.YtlhiekeolmgilaaGreatDoorSpecU
import Derived.Test.YtlhiekeolmgilaaGreatDoorRefK
import Derived.Test.YtlhiekeolmgilaaGreatDoorDiceC
import Derived.Test.YtlhiekeolmgilaaGreatDoorLawI
import Derived.Test.YtlhiekeolmgilaaGreatDoorPzC
import Derived.Deep.RegionHeld3
namespace Go.Proofs.YtlhiekeolmgilaaGreatDoor
open Go.RowKit Go.Shelf

theorem usesG_le {rs : List (ByteArray × ByteArray)} {goal x : ByteArray} {u : Nat} (h : usesG rs goal x = some u) : u ≤ 2 := by
  rcases usesG_cases rs goal x with ⟨_, e⟩ | ⟨_, _, e⟩ | ⟨_, _, _, e⟩ | ⟨_, _, _, e⟩ <;> rw [e] at h
  · injection h with h; omega
  · injection h with h; omega
  · injection h with h; omega
  · cases h
theorem keyS_key12 {a : ByteArray} (h : Sp.check a.data.toList = 0) : Key12 (keyS a) := by
  have h1 : AllOk [a, a] := by
    intro s hs
    simp at hs
    subst hs
    exact h
  refine ⟨?_, keyS_le h1⟩
  have h3 := latP_flat h
  have h2 := check_size h
  have hne : Sp.key a.data.toList ≠ [] := by
    intro he
    have hl : a.data.toList.length = a.size := by simp
    have hz : ∀ c, c ∈ a.data.toList → latP c ≠ [] := by
      intro c hc hp
      have hv := valid_alpha h c hc
      unfold latP at hp
      split at hp
      · cases hp
      · rename_i hlat
        have h4 := (alpha_lat c).2.1
        rcases alphaN_ne a.data.toList with e | e
        · exact hlat ((alpha_lat c).1.1 (hv.trans e))
        · exact (h4.1 (hv.trans e)).2 hp
    rw [he] at h3
    cases hs : a.data.toList with
    | nil => rw [hs] at hl; simp at hl; omega
    | cons c t =>
      rw [hs, List.flatMap_cons] at h3
      exact hz c (by rw [hs]; simp) (List.append_eq_nil_iff.1 h3).1
  show 1 ≤ (Sp.key a.data.toList).toArray.size
  rw [List.size_toArray]
  exact List.length_pos_iff.2 hne

/-- The walk up to the number of uses. -/
def UsesAns (rs : List (ByteArray × ByteArray)) (a b : ByteArray) (w : World) (e : Ending) (w' : World) : Prop :=
  e = .returned (.tuple #[.int .i64 (((usesG rs (keyS b) (keyS a)).getD 0 : Nat) : Int), .int .i64 (if (usesG rs (keyS b) (keyS a)).isSome then 0 else 11)]) ∧ Below w.heap.size w w'

set_option maxRecDepth 100000 in
set_option maxHeartbeats 1600000 in
theorem Uses_ok (A : Option Addr) (nn c : Nat) (rs : List (ByteArray × ByteArray)) (a b : ByteArray) (w : World) (hn : nn = rs.length) (hf : RulesOk rs) (hv : AllOk [a, b]) (hx : Cells w A (ruleCells rs)) :
    Calls Tryz.prog 29 #[.slice A nn c, .string a, .string b] w (UsesAns rs a b w) := by
  have hk : (keyS a).size ≤ 12 := (keyS_key12 (hv a (by simp))).2
  have QB := Lib.hid (begin_ok A nn c rs a b w hn hf hv hx)
  have qu := (fun B m D W (h1 : Cells W A (ruleCells rs)) h2 h3 => pathUses_any A nn c B m rs (keyS b) (keyS a) D W hk hf.short hn (by rw [hn]; have := hf.1; omega) h1 h2 h3)
  have HX := Lib.hid hx
  unfold UsesAns
  obtain ⟨U, hU⟩ : ∃ U, usesG rs (keyS b) (keyS a) = U := ⟨_, rfl⟩
  rw [hU] at qu ⊢
  have QU := Lib.hid qu
  clear hn hf hv hx hk hU qu
  go_enter Tryz.func29, Tryz.ntmps29
  go_wp2_with fail
  refine QB.out.mono ?_
  rintro e w1 ⟨B, m, D, rfl, ho1, hM, hBl, hb1⟩
  have ho2 := World.ownsMap.alloc ho1 (.cells #[.slice A nn c, .map (some B)] 115)
  have hb2 := hb1.alloc (o := .cells #[.slice A nn c, .map (some B)] 115) hb1.size
  have HM := Lib.hid hM
  have HO := Lib.hid ho2
  have HX2 := Lib.hid (HX.out.below hb2)
  clear hM ho1 ho2 hb1 QB HX
  go_wp2_with fail
  generalize w1.alloc (.cells #[.slice A nn c, .map (some B)] 115) = w2 at *
  refine (QU.out B m D w2 HX2.out HO.out HM.out).mono ?_
  rintro e w3 ⟨rfl, hb3⟩
  have hb4 := hb2.trans (hb3.mono hb2.size)
  clear QU HX2 HO HM hb2 hb3
  cases U with
  | none =>
    go_wp2_with fail
    go_ret2
    exact ⟨ret_two (int_val rfl) (int_val rfl), hb4⟩
  | some u =>
    go_wp2_with fail
    go_ret2
    exact ⟨ret_two (int_val rfl) (int_val rfl), hb4⟩

def VerdictAns (rs : List (ByteArray × ByteArray)) (a b : ByteArray) (w : World) (e : Ending) (w' : World) : Prop :=
  e = .returned (.tuple #[.int .i64 (verdict9 (uses9 rs (keyS b) (keyS a))), .int .i64 0]) ∧ Below w.heap.size w w'
set_option maxRecDepth 100000 in
set_option maxHeartbeats 1600000 in
theorem Verdict_ok (A : Option Addr) (nn c : Nat) (rs : List (ByteArray × ByteArray)) (a b : ByteArray) (w : World) (hn : nn = rs.length) (hf : RulesOk rs) (hv : AllOk [a, b]) (hx : Cells w A (ruleCells rs)) :
    Calls Tryz.prog 31 #[.slice A nn c, .string a, .string b] w (VerdictAns rs a b w) := by
  have hk : (keyS a).size ≤ 12 := (keyS_key12 (hv a (by simp))).2
  have QB := Lib.hid (begin_ok A nn c rs a b w hn hf hv hx)
  have qu := (fun B m D W (h1 : Cells W A (ruleCells rs)) h2 h3 => pathUses_any A nn c B m rs (keyS b) (keyS a) D W hk hf.short hn (by rw [hn]; have := hf.1; omega) h1 h2 h3)
  have HX := Lib.hid hx
  have hl := (fun u (h : usesG rs (keyS b) (keyS a) = some u) => usesG_le h)
  unfold VerdictAns uses9
  obtain ⟨U, hU⟩ : ∃ U, usesG rs (keyS b) (keyS a) = U := ⟨_, rfl⟩
  rw [hU] at qu hl ⊢
  have QU := Lib.hid qu
  have HL := Lib.hid hl
  clear hn hf hv hx hk hU qu hl
  go_enter Tryz.func31, Tryz.ntmps31
  go_wp2_with fail
  refine QB.out.mono ?_
  rintro e w1 ⟨B, m, D, rfl, ho1, hM, hBl, hb1⟩
  have ho2 := World.ownsMap.alloc ho1 (.cells #[.slice A nn c, .map (some B)] 115)
  have hb2 := hb1.alloc (o := .cells #[.slice A nn c, .map (some B)] 115) hb1.size
  have HM := Lib.hid hM
  have HO := Lib.hid ho2
  have HX2 := Lib.hid (HX.out.below hb2)
  clear hM ho1 ho2 hb1 QB HX
  go_wp2_with fail
  generalize w1.alloc (.cells #[.slice A nn c, .map (some B)] 115) = w2 at *
  refine (QU.out B m D w2 HX2.out HO.out HM.out).mono ?_
  rintro e w3 ⟨rfl, hb3⟩
  have hb4 := hb2.trans (hb3.mono hb2.size)
  clear QU HX2 HO HM hb2 hb3
  cases U with
  | none =>
    go_wp2_with fail
    go_ret2
    exact ⟨ret_two (int_val rfl) (int_val rfl), hb4⟩
  | some u =>
    have hu := HL.out u rfl
    have h3 : u = 0 ∨ u = 1 ∨ u = 2 := by omega
    clear hu HL
    rcases h3 with rfl | rfl | rfl
    all_goals
      go_wp2_with fail
      go_ret2
      exact ⟨ret_two (int_val rfl) (int_val rfl), hb4⟩

/-! ### The law's own word for the uses -/

def Uses9Ans (rs : List (ByteArray × ByteArray)) (a b : ByteArray) (w : World) (e : Ending) (w' : World) : Prop :=
  e = .returned (.tuple #[.int .i64 (uses9 rs (keyS b) (keyS a) : Nat), .bool true]) ∧ Below w.heap.size w w'
set_option maxRecDepth 100000 in
set_option maxHeartbeats 1600000 in
theorem lawUses_ok (A : Option Addr) (nn c : Nat) (rs : List (ByteArray × ByteArray)) (a b : ByteArray) (w : World) (hn : nn = rs.length) (hf : RulesOk rs) (hv : AllOk [a, b]) (hx : Cells w A (ruleCells rs)) :
    Calls Tryz.prog 52 #[.slice A nn c, .string a, .string b] w (Uses9Ans rs a b w) := by
  have q := Uses_ok A nn c rs a b w hn hf hv hx
  have hl := fun u (h : usesG rs (keyS b) (keyS a) = some u) => usesG_le h
  unfold UsesAns at q
  unfold Uses9Ans uses9
  generalize usesG rs (keyS b) (keyS a) = U at *
  clear hn hf hv hx
  cases U with
  | none =>
    have Q := Lib.hid q
    clear q hl
    go_enter Tryz.func52, Tryz.ntmps52
    go_wp2_with fail
    refine Q.out.mono ?_
    rintro e w1 ⟨rfl, hb1⟩
    go_wp2_with fail
    go_ret2
    exact ⟨rfl, hb1⟩
  | some u =>
    have hu := hl u rfl
    have h3 : u = 0 ∨ u = 1 ∨ u = 2 := by omega
    clear hu hl
    rcases h3 with rfl | rfl | rfl
    all_goals
      have Q := Lib.hid q
      clear q
      go_enter Tryz.func52, Tryz.ntmps52
      go_wp2_with fail
      refine Q.out.mono ?_
      rintro e w1 ⟨rfl, hb1⟩
      go_wp2_with fail
      go_ret2
      exact ⟨rfl, hb1⟩

/-- Rules that dice made. -/
theorem made_rules {rs : List (ByteArray × ByteArray)} (hl : rs.length ≤ 4) (h : ∀ r, r ∈ rs → r.1 ∈ froms ∧ r.2 ∈ tos) : RulesOk rs := by
  refine ⟨hl, fun r hr => ?_⟩
  have hall : ∀ x ∈ froms, ∀ y ∈ tos, (1 ≤ x.size ∧ x.size ≤ 2) ∧ y.size ≤ 2 ∧ x ≠ y ∧ (x.data.toList ++ y.data.toList).all (fun b => decide (97 ≤ b.toNat ∧ b.toNat ≤ 122)) = true := by decide +kernel
  obtain ⟨h1, h2⟩ := h r hr
  obtain ⟨a1, a2, a3, a4⟩ := hall _ h1 _ h2
  refine ⟨a1, a2, a3, fun b hb => ?_⟩
  have := List.all_eq_true.1 a4 b hb
  simpa using this
end Go.Proofs.YtlhiekeolmgilaaGreatDoor

/- Where a number stands first in a list. -/
namespace Go.Proofs.YtlhiekeolmgilaaGreatDoor
open Go.RowKit

def IndexPost (xs : List Int) (x : Int) (w : World) (e : Ending) (w' : World) : Prop :=
  ∃ v : Int, e = .returned (.int .i64 v) ∧ ((0 ≤ v ∧ x ∈ xs) ∨ (v = -1 ∧ x ∉ xs)) ∧ w' = w
set_option maxHeartbeats 800000 in
theorem Index_any (A : Option Addr) (n c : Nat) (xs : List Int) (x : Int) (w : World) (hn : n = xs.length) (hb : n ≤ 1000) (hx : Cells w A (xs.map (Value.int .i64))) :
    Calls Tryz.prog 47 #[.slice A n c, .int .i64 x] w (IndexPost xs x w) := by
  have HN := Lib.hid hn
  have HX := Lib.hid hx
  clear hn hx
  unfold IndexPost
  go_enter Tryz.func47, Tryz.ntmps47
  go_wp2_with fail
  go_loop [5] (fun i => ∃ k : Nat, k ≤ n ∧ i = .int .i64 k ∧ Hid (x ∉ xs.take k)) (fun i => n - (intOf i).toNat)
  case atStart => exact ⟨0, Nat.zero_le _, rfl, Lib.hid (by simp)⟩
  case round =>
    obtain ⟨k, hk, rfl, hno⟩ := hrel
    by_cases hlt : k < n
    · have hks : k < xs.length := by rw [← HN.out]; exact hlt
      obtain ⟨b, off, rfl, hc⟩ := HX.out k (by simpa using hks)
      have hv : (xs.map (Value.int .i64)).getD k undef = .int .i64 xs[k] := by
        rw [List.getD_eq_getElem?_getD, List.getElem?_map, List.getElem?_eq_getElem hks]; rfl
      rw [hv] at hc
      have hmem : xs[k] ∈ xs := List.getElem_mem hks
      have htk := List.take_succ_eq_append_getElem hks
      generalize xs[k] = y at *
      by_cases hy : y = x
      · subst hy
        have m1 : (y == y) = true := by simp
        have HM := Lib.hid hmem
        clear hmem hv htk
        go_wp2_with fail
        go_ret
        exact ⟨_, rfl, .inl ⟨by omega, HM.out⟩, rfl⟩
      · have m1 : (y == x) = false := by simp [hy]
        have hno2 : Hid (x ∉ xs.take (k + 1)) := Lib.hid (by
          rw [htk, List.mem_append, List.mem_singleton]
          rintro (h | h)
          · exact hno.out h
          · exact hy h.symm)
        clear hmem hv htk hy hno
        go_wp2_with fail
        go_round
        case rel => exact ⟨k + 1, by omega, by go_num, hno2⟩
        case measure => simp [intOf]; omega
    · have hall : Hid (x ∉ xs) := Lib.hid (by
        have := hno.out
        rwa [List.take_of_length_le (by rw [← HN.out]; omega)] at this)
      clear hno
      go_wp2_with fail
      go_ret
      exact ⟨_, rfl, .inr ⟨rfl, hall.out⟩, rfl⟩
end Go.Proofs.YtlhiekeolmgilaaGreatDoor

/- Abbreviations that lose a letter; which names one stands for. Nothing of the program's code. -/
namespace Go.Proofs.YtlhiekeolmgilaaGreatDoor

theorem part_sub : ∀ (s t : List UInt8), partB s t = true ↔ s.Sublist t
  | [], t => by simp [partB]
  | a :: s, [] => by simp [partB]
  | a :: s, c :: t => by
    unfold partB
    by_cases h : c = a
    · subst h
      rw [if_pos rfl, part_sub s t]
      exact List.cons_sublist_cons.symm
    · rw [if_neg h, part_sub (a :: s) t]
      constructor
      · exact fun h => h.cons c
      · intro h1
        cases h1 with
        | cons _ h2 => exact h2
        | cons_cons _ _ => exact absurd rfl h

theorem abbr_erase {l k : List UInt8} {i : Nat} (h1 : 1 ≤ i) (hi : i < l.length) (h : abbrB l k = true) : abbrB (l.eraseIdx i) k = true := by
  unfold abbrB at *
  simp only [Bool.and_eq_true, decide_eq_true_eq] at *
  obtain ⟨a1, a2, a3⟩ := h
  refine ⟨?_, ?_, ?_⟩
  · rw [List.length_eraseIdx_of_lt hi]; omega
  · rw [← a2]
    cases l with
    | nil => simp at hi
    | cons c t =>
      cases i with
      | zero => omega
      | succ i => rfl
  · rw [part_sub] at *
    exact (List.eraseIdx_sublist l i).trans a3

theorem stands_mem (a : List UInt8) : ∀ (ss : List ByteArray) (k : Nat) (x : Int), x ∈ standsFrom a k ss ↔ ∃ i, ∃ h : i < ss.length, x = ((k + i : Nat) : Int) ∧ shortB a ss[i].data.toList = true
  | [], k, x => by simp [standsFrom]
  | s :: t, k, x => by
    unfold standsFrom
    have ih := stands_mem a t (k + 1) x
    constructor
    · intro hx
      split at hx
      · rename_i hs
        rcases List.mem_cons.1 hx with rfl | hx
        · exact ⟨0, by simp, by simp, hs⟩
        · obtain ⟨i, hi, e, hb⟩ := ih.1 hx
          exact ⟨i + 1, by simp; omega, by omega, hb⟩
      · obtain ⟨i, hi, e, hb⟩ := ih.1 hx
        exact ⟨i + 1, by simp; omega, by omega, hb⟩
    · rintro ⟨i, hi, e, hb⟩
      cases i with
      | zero =>
        have hs : shortB a s.data.toList = true := hb
        rw [if_pos hs]
        simp [e]
      | succ i =>
        have hm := ih.2 ⟨i, by simpa using hi, by omega, hb⟩
        split
        · exact List.mem_cons_of_mem _ hm
        · exact hm
theorem stands_len (a : List UInt8) : ∀ (ss : List ByteArray) (k : Nat), (standsFrom a k ss).length ≤ ss.length
  | [], _ => Nat.le_refl _
  | s :: t, k => by
    unfold standsFrom
    have := stands_len a t (k + 1)
    split <;> simp <;> omega

/-- The letters and the point. -/
theorem short_of {l : List UInt8} (h1 : 1 ≤ l.length) (h2 : l.length ≤ 12) (h3 : ∀ c, c ∈ l → Sp.latin c = true) : shortErr (l ++ [46]) = 0 := by
  unfold shortErr lettersB
  rw [if_pos]
  refine ⟨by simp, ?_⟩
  rw [List.dropLast_concat]
  simp only [Bool.and_eq_true, decide_eq_true_eq, List.all_eq_true]
  exact ⟨by omega, h3⟩
theorem short_letters (l : List UInt8) (n : List UInt8) : shortB (l ++ [46]) n = abbrB l (Sp.key n) := by
  unfold shortB
  rw [List.dropLast_concat]
end Go.Proofs.YtlhiekeolmgilaaGreatDoor

/- Dice: abbreviations of few letters. -/
namespace Go.Proofs.YtlhiekeolmgilaaGreatDoor
open Go.RowKit

/-- An abbreviation that dice make of a string: some of its letters, and a point. -/
def ShortOfPost (d : Nat) (v : Value) (key : ByteArray) (w : World) (e : Ending) (w' : World) : Prop :=
  ∃ l : List UInt8, e = .returned (str (l ++ [46])) ∧ l.length ≤ key.size ∧ (1 ≤ key.size → 1 ≤ l.length) ∧ (∀ c, c ∈ l → c ∈ key.data.toList) ∧
    Dice w' d v ∧ w.grownBy w' (some d)

end Go.Proofs.YtlhiekeolmgilaaGreatDoor

/- An abbreviation stands for all names for which one with a letter more stands: the walk. -/
namespace Go.Proofs.YtlhiekeolmgilaaGreatDoor
open Go.RowKit

theorem key_latin {s : ByteArray} (h : Sp.check s.data.toList = 0) : ∀ c, c ∈ (keyS s).data.toList → Sp.latin c = true := by
  intro c hc
  have h1 : (keyS s).data.toList = s.data.toList.flatMap latP := (latP_flat h).symm
  rw [h1, List.mem_flatMap] at hc
  obtain ⟨x, _, hx⟩ := hc
  have hall : ∀ n : Fin 256, (latP (UInt8.ofNat n.val)).all Sp.latin = true := by decide +kernel
  exact List.all_eq_true.1 (byte_all (p := fun x => (latP x).all Sp.latin = true) hall x) c hx
theorem refKey_call {s : ByteArray} (h : Sp.check s.data.toList = 0) (W : World) : Calls Tryz.prog 53 #[.string s] W fun e w' => e = .returned (.tuple #[.string (keyS s), .int .i64 0]) ∧ Below W.heap.size W w' := by
  refine (Key_any s W).mono ?_
  rintro e w' ⟨rfl, hb⟩
  refine ⟨?_, hb⟩
  rw [h]
  unfold Sp.keyR
  rw [if_pos h]
  rfl
theorem cut_list {A0 : ByteArray} {l : List UInt8} (hA : A0.data.toList = l ++ [46]) {i : Nat} (hi : i < l.length) : (A0.extract 0 i ++ A0.extract (i + 1) A0.size).data.toList = l.eraseIdx i ++ [46] := by
  have hz : A0.size = A0.data.toList.length := by simp
  rw [ByteArray.data_append, Array.toList_append, ByteArray.data_extract, ByteArray.data_extract, Array.toList_extract, Array.toList_extract, List.extract_eq_take_drop, List.extract_eq_take_drop, hz, hA]
  rw [List.eraseIdx_eq_take_drop_succ, List.append_assoc, List.drop_zero, Nat.sub_zero, List.take_append_of_le_length (by omega)]
  congr 1
  rw [List.drop_append_of_le_length (by omega), List.take_of_length_le (by simp; omega)]
theorem stands_call {A : Option Addr} {n c : Nat} {ss : List ByteArray} {a : ByteArray} {W0 : World} (hL : LaidErr W0) (hn : n = ss.length) (h6 : ss.length ≤ 6) (hv : AllOk ss) (hx : Cells W0 A (ss.map Value.string)) (ha : a.size ≤ 2000) (hs : shortErr a.data.toList = 0) (W : World) (hW : Below W0.heap.size W0 W) :
    Calls Tryz.prog 43 #[.string a, .slice A n c] W fun e w' => ∃ o, e = .returned (.tuple #[o, .int .i64 0]) ∧ w'.ownsRow W.heap.size 3 1 o (standsFrom a.data.toList 0 ss).length ((standsFrom a.data.toList 0 ss).map (Value.int .i64)) ∧ Below W.heap.size W w' := by
  have hle : listErr ss = 0 := by
    unfold listErr
    rw [if_neg (by omega)]
    have : ∀ t : List ByteArray, AllOk t → firstErr t = 0 := by
      intro t
      induction t with
      | nil => intro _; rfl
      | cons s t ih =>
        intro h
        unfold firstErr
        rw [if_pos (h s (by simp))]
        exact ih fun x hx => h x (by simp [hx])
    exact this ss hv
  have he : standsErr a.data.toList ss = 0 := by unfold standsErr; rw [if_pos hs, hle]
  have hl : standsL a.data.toList ss = standsFrom a.data.toList 0 ss := by unfold standsL; rw [if_pos he]
  have q := pStands_any a A n c ss W (hL.below hW) ha hn (hx.below hW)
  rw [he, hl] at q
  exact q
theorem short_call {a s : ByteArray} {W0 : World} (hL : LaidErr W0) (ha : a.size ≤ 2000) (hs : shortErr a.data.toList = 0) (hc : Sp.check s.data.toList = 0) (W : World) (hW : Below W0.heap.size W0 W) :
    Calls Tryz.prog 42 #[.string a, .string s] W fun e w' => e = .returned (.tuple #[.bool (shortB a.data.toList s.data.toList), .int .i64 0]) ∧ Below W.heap.size W w' := by
  have e1 : shortPairErr a.data.toList s.data.toList = 0 := by unfold shortPairErr; rw [if_pos hs, hc]
  have q := pShort_any a s W (hL.below hW) ha
  unfold ShortPost at q
  rw [e1] at q
  simpa using q

def ShortOf2 (d : Nat) (v : Value) (key : ByteArray) (w : World) (e : Ending) (w' : World) : Prop :=
  ∃ (l : List UInt8) (A0 : ByteArray), e = .returned (.string A0) ∧ A0.data.toList = l ++ [46] ∧ l.length ≤ key.size ∧ (1 ≤ key.size → 1 ≤ l.length) ∧ (∀ c, c ∈ l → c ∈ key.data.toList) ∧ Dice w' d v ∧ w.grownBy w' (some d)
theorem ints_at {w : World} {A : Option Addr} {xs : List Int} (h : Cells w A (xs.map (Value.int .i64))) (k : Nat) (hk : k < xs.length) : ∃ b off : Nat, A = some ⟨b, off, none⟩ ∧ w.cell? ⟨b, off + k, none⟩ = some (.int .i64 xs[k]) := by
  obtain ⟨b, off, e, hc⟩ := h k (by simpa using hk)
  refine ⟨b, off, e, ?_⟩
  rw [hc, List.getD_eq_getElem?_getD, List.getElem?_map, List.getElem?_eq_getElem hk]
  rfl

end Go.Proofs.YtlhiekeolmgilaaGreatDoor
