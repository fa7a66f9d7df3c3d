/- Dice: numbers from 0 to n, and what is made of them. -/
import Derived.Test.YtljlkhaolfihjaaGreatDoorDiceA
import Derived.Test.YtljlkhaolfihjaaGreatDoorRefE
namespace Go.Proofs.YtljlkhaolfihjaaGreatDoor
open Go.RowKit

/-- A number from 0 to n comes out (0 if n is below 1), and nothing but the dice has turned. -/
def ToPost (d : Nat) (v : Value) (n : Int) (w : World) (e : Ending) (w' : World) : Prop :=
  ∃ x : Int, e = .returned (.int .i64 x) ∧ 0 ≤ x ∧ (1 ≤ n → x ≤ n) ∧ (n < 1 → x = 0) ∧ Dice w' d v ∧ w.grownBy w' (some d)

set_option maxHeartbeats 800000 in
theorem To_any (d : Nat) (v : Value) (n : Int) (w : World) (h : Dice w d v) (hn : n ≤ 1000000000000000000) :
    Calls Tryz.prog 40 #[.pointer (some ⟨d, 0, none⟩), .int .i64 n] w (ToPost d v n w) := by
  by_cases h1 : n < 1
  · go_enter Tryz.func40, Tryz.ntmps40
    go_wp2
    go_ret
    exact ⟨0, rfl, by omega, by omega, fun _ => rfl, h, World.grownBy.refl _ _⟩
  · have h2 : 1 ≤ n := by omega
    go_enter Tryz.func40, Tryz.ntmps40
    go_wp2_with (go_at_call 77; refine (raw_any _ _ _ h).mono ?_; rintro e w1 ⟨x, rfl, hx0, hd1, hg1⟩)
    go_ret
    have m1 : 0 ≤ x / 65536 % (n + 1) := Int.emod_nonneg _ (by omega)
    have m2 : x / 65536 % (n + 1) < n + 1 := Int.emod_lt_of_pos _ (by omega)
    exact ⟨x / 65536 % (n + 1), ret_int (IntWalk.wrap64_in _ ⟨by omega, by omega⟩), m1, fun _ => by omega, fun h => by omega, hd1, hg1⟩

def ZeroPost (d : Nat) (v : Value) (w : World) (e : Ending) (w' : World) : Prop :=
  e = .returned (.int .i64 0) ∧ Dice w' d v ∧ w.grownBy w' (some d)

theorem To_zero (d : Nat) (v : Value) (n : Int) (w : World) (h : Dice w d v) (hn : n < 1) :
    Calls Tryz.prog 40 #[.pointer (some ⟨d, 0, none⟩), .int .i64 n] w (ZeroPost d v w) :=
  (To_any d v n w h (by omega)).mono fun e w' ⟨x, he, _, _, hx, hd, hg⟩ => ⟨by rw [he, hx hn], hd, hg⟩

def FromPost (d : Nat) (v : Value) (lo hi : Int) (w : World) (e : Ending) (w' : World) : Prop :=
  ∃ x : Int, e = .returned (.int .i64 x) ∧ lo ≤ x ∧ (lo ≤ hi → x ≤ hi) ∧ (hi ≤ lo → x = lo) ∧ Dice w' d v ∧ w.grownBy w' (some d)

set_option maxHeartbeats 800000 in
theorem From_any (d : Nat) (v : Value) (lo hi : Int) (w : World) (h : Dice w d v) (h1 : -1000000 ≤ lo) (h2 : lo ≤ 1000000) (h3 : -1000000 ≤ hi) (h4 : hi ≤ 1000000) :
    Calls Tryz.prog 45 #[.pointer (some ⟨d, 0, none⟩), .int .i64 lo, .int .i64 hi] w (FromPost d v lo hi w) := by
  by_cases hl : lo < hi
  · go_enter Tryz.func45, Tryz.ntmps45
    go_wp2_with (go_at_call 40; refine (To_any _ _ _ _ h (by omega)).mono ?_; rintro e w1 ⟨x, rfl, hx0, hx1, hx2, hd1, hg1⟩; have hx3 : x ≤ hi - lo := hx1 (by omega); clear hx1 hx2)
    go_ret
    exact ⟨lo + x, rfl, by omega, fun _ => by omega, fun _ => by omega, hd1, hg1⟩
  · go_enter Tryz.func45, Tryz.ntmps45
    go_wp2_with (go_at_call 40; refine (To_zero _ _ _ _ h (by omega)).mono ?_; rintro e w1 ⟨rfl, hd1, hg1⟩)
    go_ret
    exact ⟨lo, rfl, by omega, fun _ => by omega, fun _ => rfl, hd1, hg1⟩

def OncePost (d : Nat) (v : Value) (w : World) (e : Ending) (w' : World) : Prop :=
  ∃ x : Bool, e = .returned (.bool x) ∧ Dice w' d v ∧ w.grownBy w' (some d)

set_option maxHeartbeats 800000 in
theorem Once_any (d : Nat) (v : Value) (n : Int) (w : World) (h : Dice w d v) (h1 : -1000000 ≤ n) (h2 : n ≤ 1000000) :
    Calls Tryz.prog 41 #[.pointer (some ⟨d, 0, none⟩), .int .i64 n] w (OncePost d v w) := by
  go_enter Tryz.func41, Tryz.ntmps41
  go_wp2_with (go_at_call 40; refine (To_any _ _ _ _ h (by omega)).mono ?_; rintro e w1 ⟨x, rfl, hx0, hx1, hx2, hd1, hg1⟩; clear hx1 hx2)
  go_ret
  exact ⟨_, rfl, hd1, hg1⟩

/-- New dice. -/
def NewPost (v : Value) (w : World) (e : Ending) (w' : World) : Prop :=
  e = .returned (.pointer (some ⟨w.heap.size, 0, none⟩)) ∧ Dice w' w.heap.size v ∧ Below w.heap.size w w'

set_option maxHeartbeats 800000 in
theorem NewDice_any (A : Option Addr) (n c : Nat) (w : World) (hn : n ≤ 1000000000000000000)
    (hx : ∀ i, i < n → ∃ (b off : Nat) (x : Int), A = some ⟨b, off, none⟩ ∧ w.cell? ⟨b, off + i, none⟩ = some (.int .i64 x)) :
    Calls Tryz.prog 9 #[.slice A n c] w (NewPost (.slice A n c) w) := by
  have HX := Lib.hid hx
  clear hx
  go_enter Tryz.func9, Tryz.ntmps9
  go_wp2
  go_ret
  refine ⟨rfl, ?_, (Below.refl _ _).alloc (Nat.le_refl _) _⟩
  refine ⟨A, n, c, 0, 11400714819323198485, rfl, hn, by omega, by omega, heap_alloc_new w _, fun i hi => ?_⟩
  obtain ⟨b, off, x, e, hc⟩ := HX.out i hi
  have hbl := World.block_lt_of_cell? w _ hc
  exact ⟨b, off, x, e, hbl, by rw [World.cell?_alloc_lt _ _ _ hbl]; exact hc⟩
end Go.Proofs.YtljlkhaolfihjaaGreatDoor

/- Dice: one of some words; names made of few letters. -/
namespace Go.Proofs.YtljlkhaolfihjaaGreatDoor
open Go.RowKit

/-- From address A on lie these values, outside block d. -/
def Row (w : World) (d : Nat) (A : Option Addr) (xs : List Value) : Prop :=
  ∀ i, i < xs.length → ∃ b off : Nat, A = some ⟨b, off, none⟩ ∧ b ≠ d ∧ w.cell? ⟨b, off + i, none⟩ = some (xs.getD i undef)

def WordPost (d : Nat) (v : Value) (ws : List ByteArray) (w : World) (e : Ending) (w' : World) : Prop :=
  ∃ s, s ∈ ws ∧ e = .returned (.string s) ∧ Dice w' d v ∧ w.grownBy w' (some d)

theorem getD_string (ws : List ByteArray) (i : Nat) (h : i < ws.length) : (ws.map Value.string).getD i undef = .string ws[i] := by
  rw [List.getD_eq_getElem?_getD, List.getElem?_map, List.getElem?_eq_getElem h]; rfl

set_option maxHeartbeats 800000 in
theorem Word_any (d : Nat) (v : Value) (A : Option Addr) (ws : List ByteArray) (n c : Nat) (w : World) (h : Dice w d v) (hn : n = ws.length) (h1 : 1 ≤ n) (h2 : n ≤ 1000) (hr : Row w d A (ws.map Value.string)) :
    Calls Tryz.prog 44 #[.pointer (some ⟨d, 0, none⟩), .slice A n c] w (WordPost d v ws w) := by
  have HN := Lib.hid hn
  have HR := Lib.hid hr
  clear hn hr
  go_enter Tryz.func44, Tryz.ntmps44
  go_wp2_with fail
  refine (To_any _ _ _ _ h (by omega)).mono ?_
  rintro e w1 ⟨x, rfl, hx0, hx1, hx2, hd1, hg1⟩
  obtain ⟨k, rfl⟩ := Int.eq_ofNat_of_zero_le hx0
  have hk : k < n := by
    by_cases h3 : n = 1
    · have := hx2 (by omega); omega
    · have := hx1 (by omega); omega
  clear hx0 hx1 hx2
  have hk2 : k < ws.length := by rw [← HN.out]; exact hk
  obtain ⟨b, off, rfl, hb, hc⟩ := HR.out k (by simpa using hk2)
  rw [getD_string ws k hk2] at hc
  have hc1 := hg1.cell hc (by simpa using hb)
  clear hc
  go_wp2
  go_ret
  exact ⟨ws[k], List.getElem_mem _, rfl, hd1, hg1⟩

theorem Dice.alloc {w : World} {d : Nat} {v : Value} (h : Dice w d v) (o : Obj) : Dice (w.alloc o) d v :=
  h.below ((Below.refl w.heap.size w).alloc (Nat.le_refl _) o) (Nat.le_refl _)

/-- Letters of one alphabet. -/
def Letters (l : List UInt8) : Prop := (∀ c, c ∈ l → Sp.latin c = true) ∨ (∀ c, c ∈ l → Sp.stands c ≠ [])

def words1 : List ByteArray := [⟨#[97, 101, 115]⟩, ⟨#[115, 104, 101, 116, 97]⟩, ⟨#[115, 109, 105, 116, 121, 104, 97]⟩, ⟨#[99, 104, 106, 97]⟩, ⟨#[97, 110, 110, 101]⟩]
def words2 : List ByteArray := [⟨#[65, 69, 83]⟩, ⟨#[88, 69, 84, 65]⟩, ⟨#[83, 77, 73, 84, 89, 65]⟩, ⟨#[67, 74, 65, 88]⟩, ⟨#[65, 78, 78, 69]⟩]
theorem words_ok (S : ByteArray) (h : S ∈ words1 ∨ S ∈ words2) : 1 ≤ S.size ∧ S.size ≤ 7 ∧ Letters S.data.toList := by
  rcases h with h | h
  · have k : ∀ S, S ∈ words1 → 1 ≤ S.size ∧ S.size ≤ 7 ∧ (∀ c, c ∈ S.data.toList → Sp.latin c = true) := by decide
    exact ⟨(k S h).1, (k S h).2.1, .inl (k S h).2.2⟩
  · have k : ∀ S, S ∈ words2 → 1 ≤ S.size ∧ S.size ≤ 7 ∧ (∀ c, c ∈ S.data.toList → Sp.stands c ≠ []) := by decide
    exact ⟨(k S h).1, (k S h).2.1, .inr (k S h).2.2⟩

theorem extract_one (s : ByteArray) (k : Nat) (h : k < s.size) : s.extract k (k + 1) = ⟨#[s[k]]⟩ := by
  apply ByteArray.ext
  rw [ByteArray.data_extract]
  apply Array.ext
  · simp; have : s.size = s.data.size := rfl; omega
  · intro i h1 h2
    simp at h2
    subst h2
    simp; rfl

theorem row_lit {w : World} {d : Nat} (hd : d < w.heap.size) (ws : List ByteArray) {cs : Array Value} {t : TypeId} (h : cs = (ws.map Value.string).toArray) :
    Row (w.alloc (.cells cs t)) d (some ⟨w.heap.size, 0, none⟩) (ws.map Value.string) := by
  subst h
  intro i hi
  refine ⟨w.heap.size, 0, rfl, by omega, ?_⟩
  rw [Nat.zero_add, World.cell?_alloc_new]
  rw [List.getD_eq_getElem?_getD, List.getElem?_eq_getElem hi]
  simp [List.getElem?_eq_getElem hi]

/-- A name that dice make: from 1 to so many letters, of one alphabet. -/
def NameOfPost (d : Nat) (v : Value) (most : Int) (w : World) (e : Ending) (w' : World) : Prop :=
  ∃ s : ByteArray, e = .returned (.string s) ∧ 1 ≤ s.size ∧ (s.size : Int) ≤ most ∧ Letters s.data.toList ∧ Dice w' d v ∧ w.grownBy w' (some d)

set_option maxRecDepth 100000 in
set_option maxHeartbeats 1000000 in
theorem NameOf_any (d : Nat) (v : Value) (most : Int) (w : World) (h : Dice w d v) (h1 : 1 ≤ most) (h6 : most ≤ 6) :
    Calls Tryz.prog 12 #[.pointer (some ⟨d, 0, none⟩), .int .i64 most] w (NameOfPost d v most w) := by
  go_enter Tryz.func12, Tryz.ntmps12
  go_wp2_with fail
  refine (Word_any d v _ words1 _ _ _ (h.alloc _) rfl (by decide) (by decide) (row_lit h.lt words1 rfl)).mono ?_
  rintro e w1 ⟨S, hS, rfl, hd1, hg1⟩
  have hgw := grownBy_trans (World.grownBy_alloc w _ _) hg1
  clear hg1
  have hS1 := words_ok S (.inl hS)
  clear hS
  go_wp2_with fail
  refine (Once_any _ _ _ _ hd1 (by omega) (by omega)).mono ?_
  rintro e w2 ⟨x, rfl, hd2, hg2⟩
  have hgw2 := grownBy_trans hgw hg2
  clear hgw hg2 hd1
  cases x
  · go_wp2_with fail
    obtain ⟨W, rfl⟩ : ∃ W, W = w2 := ⟨_, rfl⟩
    obtain ⟨R, rfl⟩ : ∃ R, R = S := ⟨_, rfl⟩
    have hd := hd2
    have hg := hgw2
    clear hd2 hgw2
    obtain ⟨p1, p2, p3⟩ := hS1
    refine (From_any _ _ _ _ _ hd (by omega) (by omega) (by omega) (by omega)).mono ?_
    rintro e W1 ⟨i0, rfl, q1, q2, q3, hd1, hg1⟩
    have q4 : i0 ≤ most := q2 (by omega)
    have hgA := grownBy_trans hg hg1
    clear q2 q3 hd hg hg1
    go_wp2_with fail
    go_loopw [6, 7, 8] (fun t i _ wr => ∃ (l : List UInt8) (m : Int), 0 ≤ m ∧ (l.length : Int) + m ≤ i0 ∧ i0 ≤ (l.length : Int) + m ∧ i = .int .i64 m ∧ t = str l ∧ (∀ c, c ∈ l → c ∈ R.data.toList) ∧ Dice wr d v ∧ w.grownBy wr (some d)) (fun _ i _ _ => (intOf i).toNat)
    case atStart => exact ⟨[], i0, by omega, by simp, by simp, rfl, rfl, by simp, hd1, hgA⟩
    case round =>
      obtain ⟨l, m, m0, m1, m2, rfl, rfl, hl, hdr, hgr⟩ := hrel
      have HL := Lib.hid hl
      have P3 := Lib.hid p3
      clear hl p3
      by_cases hm : 0 < m
      · go_wp2_with fail
        refine (To_any _ _ _ _ hdr (by omega)).mono ?_
        rintro e W2 ⟨x, rfl, k0, k1, k2, hd2, hg2⟩
        obtain ⟨k, rfl⟩ := Int.eq_ofNat_of_zero_le k0
        have hk : k < R.size := by
          by_cases h3 : R.size = 1
          · have := k2 (by omega); omega
          · have := k1 (by omega); omega
        clear k0 k1 k2
        have hex := extract_one R k hk
        go_wp2
        go_roundw
        case rel => exact ⟨l ++ [R[k]], m - 1, by omega, by simp; omega, by simp; omega, rfl, by rw [mk_append], fun c hc => by
          rcases List.mem_append.1 hc with hc | hc
          · exact HL.out c hc
          · rw [List.mem_singleton.1 hc]; exact Array.getElem_mem_toList _, hd2, grownBy_trans hgr hg2⟩
        case measure => simp [intOf]; omega
      · go_wp2
        go_ret
        refine ⟨_, rfl, by show 1 ≤ l.toArray.size; simp; omega, by show ((l.toArray.size : Nat) : Int) ≤ most; simp; omega, ?_, hdr, hgr⟩
        rcases P3.out with p | p
        · exact .inl fun c hc => p c (HL.out c hc)
        · exact .inr fun c hc => p c (HL.out c hc)
  · go_wp2_with fail
    refine (Word_any d v _ words2 _ _ _ (hd2.alloc _) rfl (by decide) (by decide) (row_lit hd2.lt words2 rfl)).mono ?_
    clear hS1
    rintro e W ⟨R, hR, rfl, hd, hg3⟩
    have hg := grownBy_trans (grownBy_trans hgw2 (World.grownBy_alloc w2 _ _)) hg3
    clear hg3 hgw2 hd2
    obtain ⟨p1, p2, p3⟩ := words_ok R (.inr hR)
    clear hR
    go_wp2_with fail
    refine (From_any _ _ _ _ _ hd (by omega) (by omega) (by omega) (by omega)).mono ?_
    rintro e W1 ⟨i0, rfl, q1, q2, q3, hd1, hg1⟩
    have q4 : i0 ≤ most := q2 (by omega)
    have hgA := grownBy_trans hg hg1
    clear q2 q3 hd hg hg1
    go_wp2_with fail
    go_loopw [6, 7, 8] (fun t i _ wr => ∃ (l : List UInt8) (m : Int), 0 ≤ m ∧ (l.length : Int) + m ≤ i0 ∧ i0 ≤ (l.length : Int) + m ∧ i = .int .i64 m ∧ t = str l ∧ (∀ c, c ∈ l → c ∈ R.data.toList) ∧ Dice wr d v ∧ w.grownBy wr (some d)) (fun _ i _ _ => (intOf i).toNat)
    case atStart => exact ⟨[], i0, by omega, by simp, by simp, rfl, rfl, by simp, hd1, hgA⟩
    case round =>
      obtain ⟨l, m, m0, m1, m2, rfl, rfl, hl, hdr, hgr⟩ := hrel
      have HL := Lib.hid hl
      have P3 := Lib.hid p3
      clear hl p3
      by_cases hm : 0 < m
      · go_wp2_with fail
        refine (To_any _ _ _ _ hdr (by omega)).mono ?_
        rintro e W2 ⟨x, rfl, k0, k1, k2, hd2, hg2⟩
        obtain ⟨k, rfl⟩ := Int.eq_ofNat_of_zero_le k0
        have hk : k < R.size := by
          by_cases h3 : R.size = 1
          · have := k2 (by omega); omega
          · have := k1 (by omega); omega
        clear k0 k1 k2
        have hex := extract_one R k hk
        go_wp2
        go_roundw
        case rel => exact ⟨l ++ [R[k]], m - 1, by omega, by simp; omega, by simp; omega, rfl, by rw [mk_append], fun c hc => by
          rcases List.mem_append.1 hc with hc | hc
          · exact HL.out c hc
          · rw [List.mem_singleton.1 hc]; exact Array.getElem_mem_toList _, hd2, grownBy_trans hgr hg2⟩
        case measure => simp [intOf]; omega
      · go_wp2
        go_ret
        refine ⟨_, rfl, by show 1 ≤ l.toArray.size; simp; omega, by show ((l.toArray.size : Nat) : Int) ≤ most; simp; omega, ?_, hdr, hgr⟩
        rcases P3.out with p | p
        · exact .inl fun c hc => p c (HL.out c hc)
        · exact .inr fun c hc => p c (HL.out c hc)
end Go.Proofs.YtljlkhaolfihjaaGreatDoor
