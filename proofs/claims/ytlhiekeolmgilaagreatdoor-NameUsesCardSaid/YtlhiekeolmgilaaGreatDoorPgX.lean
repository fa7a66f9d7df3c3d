/- How many uses lie between two names, and the verdict on them. -/
import Derived.Test.YtlhiekeolmgilaaGreatDoorPgK
import Derived.Test.YtlhiekeolmgilaaGreatDoorSpecU
namespace Go.Proofs.YtlhiekeolmgilaaGreatDoor
open Go.RowKit Go.Shelf

theorem usesG_le {rs : List (ByteArray × ByteArray)} {goal x : ByteArray} {u : Nat} (h : usesG rs goal x = some u) : u ≤ 2 := by
  rcases usesG_cases rs goal x with ⟨_, e⟩ | ⟨_, _, e⟩ | ⟨_, _, _, e⟩ | ⟨_, _, _, e⟩ <;> rw [e] at h
  · injection h with h; omega
  · injection h with h; omega
  · injection h with h; omega
  · cases h
theorem keyS_key12 {a : ByteArray} (h : Sp.check a.data.toList = 0) : Key12 (keyS a) := by
  have h1 : AllOk [a, a] := by
    intro s hs
    simp at hs
    subst hs
    exact h
  refine ⟨?_, keyS_le h1⟩
  have h3 := latP_flat h
  have h2 := check_size h
  have hne : Sp.key a.data.toList ≠ [] := by
    intro he
    have hl : a.data.toList.length = a.size := by simp
    have hz : ∀ c, c ∈ a.data.toList → latP c ≠ [] := by
      intro c hc hp
      have hv := valid_alpha h c hc
      unfold latP at hp
      split at hp
      · cases hp
      · rename_i hlat
        have h4 := (alpha_lat c).2.1
        rcases alphaN_ne a.data.toList with e | e
        · exact hlat ((alpha_lat c).1.1 (hv.trans e))
        · exact (h4.1 (hv.trans e)).2 hp
    rw [he] at h3
    cases hs : a.data.toList with
    | nil => rw [hs] at hl; simp at hl; omega
    | cons c t =>
      rw [hs, List.flatMap_cons] at h3
      exact hz c (by rw [hs]; simp) (List.append_eq_nil_iff.1 h3).1
  show 1 ≤ (Sp.key a.data.toList).toArray.size
  rw [List.size_toArray]
  exact List.length_pos_iff.2 hne

/-- The walk up to the number of uses. -/
def UsesAns (rs : List (ByteArray × ByteArray)) (a b : ByteArray) (w : World) (e : Ending) (w' : World) : Prop :=
  e = .returned (.tuple #[.int .i64 (((usesG rs (keyS b) (keyS a)).getD 0 : Nat) : Int), .int .i64 (if (usesG rs (keyS b) (keyS a)).isSome then 0 else 11)]) ∧ Below w.heap.size w w'

set_option maxRecDepth 100000 in
set_option maxHeartbeats 1600000 in
theorem Uses_ok (A : Option Addr) (nn c : Nat) (rs : List (ByteArray × ByteArray)) (a b : ByteArray) (w : World) (hn : nn = rs.length) (hf : RulesOk rs) (hv : AllOk [a, b]) (hx : Cells w A (ruleCells rs)) :
    Calls Tryz.prog 29 #[.slice A nn c, .string a, .string b] w (UsesAns rs a b w) := by
  have hk : (keyS a).size ≤ 12 := (keyS_key12 (hv a (by simp))).2
  have QB := Lib.hid (begin_ok A nn c rs a b w hn hf hv hx)
  have qu := (fun B m D W (h1 : Cells W A (ruleCells rs)) h2 h3 => pathUses_any A nn c B m rs (keyS b) (keyS a) D W hk hf.short hn (by rw [hn]; have := hf.1; omega) h1 h2 h3)
  have HX := Lib.hid hx
  unfold UsesAns
  obtain ⟨U, hU⟩ : ∃ U, usesG rs (keyS b) (keyS a) = U := ⟨_, rfl⟩
  rw [hU] at qu ⊢
  have QU := Lib.hid qu
  clear hn hf hv hx hk hU qu
  go_enter Tryz.func29, Tryz.ntmps29
  go_wp2_with fail
  refine QB.out.mono ?_
  rintro e w1 ⟨B, m, D, rfl, ho1, hM, hBl, hb1⟩
  have ho2 := World.ownsMap.alloc ho1 (.cells #[.slice A nn c, .map (some B)] 115)
  have hb2 := hb1.alloc (o := .cells #[.slice A nn c, .map (some B)] 115) hb1.size
  have HM := Lib.hid hM
  have HO := Lib.hid ho2
  have HX2 := Lib.hid (HX.out.below hb2)
  clear hM ho1 ho2 hb1 QB HX
  go_wp2_with fail
  generalize w1.alloc (.cells #[.slice A nn c, .map (some B)] 115) = w2 at *
  refine (QU.out B m D w2 HX2.out HO.out HM.out).mono ?_
  rintro e w3 ⟨rfl, hb3⟩
  have hb4 := hb2.trans (hb3.mono hb2.size)
  clear QU HX2 HO HM hb2 hb3
  cases U with
  | none =>
    go_wp2_with fail
    go_ret2
    exact ⟨ret_two (int_val rfl) (int_val rfl), hb4⟩
  | some u =>
    go_wp2_with fail
    go_ret2
    exact ⟨ret_two (int_val rfl) (int_val rfl), hb4⟩

def VerdictAns (rs : List (ByteArray × ByteArray)) (a b : ByteArray) (w : World) (e : Ending) (w' : World) : Prop :=
  e = .returned (.tuple #[.int .i64 (verdict9 (uses9 rs (keyS b) (keyS a))), .int .i64 0]) ∧ Below w.heap.size w w'
set_option maxRecDepth 100000 in
set_option maxHeartbeats 1600000 in
theorem Verdict_ok (A : Option Addr) (nn c : Nat) (rs : List (ByteArray × ByteArray)) (a b : ByteArray) (w : World) (hn : nn = rs.length) (hf : RulesOk rs) (hv : AllOk [a, b]) (hx : Cells w A (ruleCells rs)) :
    Calls Tryz.prog 31 #[.slice A nn c, .string a, .string b] w (VerdictAns rs a b w) := by
  have hk : (keyS a).size ≤ 12 := (keyS_key12 (hv a (by simp))).2
  have QB := Lib.hid (begin_ok A nn c rs a b w hn hf hv hx)
  have qu := (fun B m D W (h1 : Cells W A (ruleCells rs)) h2 h3 => pathUses_any A nn c B m rs (keyS b) (keyS a) D W hk hf.short hn (by rw [hn]; have := hf.1; omega) h1 h2 h3)
  have HX := Lib.hid hx
  have hl := (fun u (h : usesG rs (keyS b) (keyS a) = some u) => usesG_le h)
  unfold VerdictAns uses9
  obtain ⟨U, hU⟩ : ∃ U, usesG rs (keyS b) (keyS a) = U := ⟨_, rfl⟩
  rw [hU] at qu hl ⊢
  have QU := Lib.hid qu
  have HL := Lib.hid hl
  clear hn hf hv hx hk hU qu hl
  go_enter Tryz.func31, Tryz.ntmps31
  go_wp2_with fail
  refine QB.out.mono ?_
  rintro e w1 ⟨B, m, D, rfl, ho1, hM, hBl, hb1⟩
  have ho2 := World.ownsMap.alloc ho1 (.cells #[.slice A nn c, .map (some B)] 115)
  have hb2 := hb1.alloc (o := .cells #[.slice A nn c, .map (some B)] 115) hb1.size
  have HM := Lib.hid hM
  have HO := Lib.hid ho2
  have HX2 := Lib.hid (HX.out.below hb2)
  clear hM ho1 ho2 hb1 QB HX
  go_wp2_with fail
  generalize w1.alloc (.cells #[.slice A nn c, .map (some B)] 115) = w2 at *
  refine (QU.out B m D w2 HX2.out HO.out HM.out).mono ?_
  rintro e w3 ⟨rfl, hb3⟩
  have hb4 := hb2.trans (hb3.mono hb2.size)
  clear QU HX2 HO HM hb2 hb3
  cases U with
  | none =>
    go_wp2_with fail
    go_ret2
    exact ⟨ret_two (int_val rfl) (int_val rfl), hb4⟩
  | some u =>
    have hu := HL.out u rfl
    have h3 : u = 0 ∨ u = 1 ∨ u = 2 := by omega
    clear hu HL
    rcases h3 with rfl | rfl | rfl
    all_goals
      go_wp2_with fail
      go_ret2
      exact ⟨ret_two (int_val rfl) (int_val rfl), hb4⟩

/-! ### The law's own word for the uses -/

def Uses9Ans (rs : List (ByteArray × ByteArray)) (a b : ByteArray) (w : World) (e : Ending) (w' : World) : Prop :=
  e = .returned (.tuple #[.int .i64 (uses9 rs (keyS b) (keyS a) : Nat), .bool true]) ∧ Below w.heap.size w w'
set_option maxRecDepth 100000 in
set_option maxHeartbeats 1600000 in
theorem lawUses_ok (A : Option Addr) (nn c : Nat) (rs : List (ByteArray × ByteArray)) (a b : ByteArray) (w : World) (hn : nn = rs.length) (hf : RulesOk rs) (hv : AllOk [a, b]) (hx : Cells w A (ruleCells rs)) :
    Calls Tryz.prog 52 #[.slice A nn c, .string a, .string b] w (Uses9Ans rs a b w) := by
  have q := Uses_ok A nn c rs a b w hn hf hv hx
  have hl := fun u (h : usesG rs (keyS b) (keyS a) = some u) => usesG_le h
  unfold UsesAns at q
  unfold Uses9Ans uses9
  generalize usesG rs (keyS b) (keyS a) = U at *
  clear hn hf hv hx
  cases U with
  | none =>
    have Q := Lib.hid q
    clear q hl
    go_enter Tryz.func52, Tryz.ntmps52
    go_wp2_with fail
    refine Q.out.mono ?_
    rintro e w1 ⟨rfl, hb1⟩
    go_wp2_with fail
    go_ret2
    exact ⟨rfl, hb1⟩
  | some u =>
    have hu := hl u rfl
    have h3 : u = 0 ∨ u = 1 ∨ u = 2 := by omega
    clear hu hl
    rcases h3 with rfl | rfl | rfl
    all_goals
      have Q := Lib.hid q
      clear q
      go_enter Tryz.func52, Tryz.ntmps52
      go_wp2_with fail
      refine Q.out.mono ?_
      rintro e w1 ⟨rfl, hb1⟩
      go_wp2_with fail
      go_ret2
      exact ⟨rfl, hb1⟩

/-- Rules that dice made. -/
theorem made_rules {rs : List (ByteArray × ByteArray)} (hl : rs.length ≤ 4) (h : ∀ r, r ∈ rs → r.1 ∈ froms ∧ r.2 ∈ tos) : RulesOk rs := by
  refine ⟨hl, fun r hr => ?_⟩
  have hall : ∀ x ∈ froms, ∀ y ∈ tos, (1 ≤ x.size ∧ x.size ≤ 2) ∧ y.size ≤ 2 ∧ x ≠ y ∧ (x.data.toList ++ y.data.toList).all (fun b => decide (97 ≤ b.toNat ∧ b.toNat ≤ 122)) = true := by decide +kernel
  obtain ⟨h1, h2⟩ := h r hr
  obtain ⟨a1, a2, a3, a4⟩ := hall _ h1 _ h2
  refine ⟨a1, a2, a3, fun b hb => ?_⟩
  have := List.all_eq_true.1 a4 b hb
  simpa using this
end Go.Proofs.YtlhiekeolmgilaaGreatDoor

/- Chains that there are, and none where there are too many uses. -/
namespace Go.Proofs.YtlhiekeolmgilaaGreatDoor
open Go.RowKit Go.Shelf

set_option maxRecDepth 100000 in
set_option maxHeartbeats 1600000 in
theorem Chain_none (A : Option Addr) (nn c : Nat) (rs : List (ByteArray × ByteArray)) (a b : ByteArray) (w : World) (hn : nn = rs.length) (hf : RulesOk rs) (hv : AllOk [a, b]) (hx : Cells w A (ruleCells rs)) (hU : usesG rs (keyS b) (keyS a) = none) :
    Calls Tryz.prog 33 #[.slice A nn c, .string a, .string b] w fun e w' => e = .returned (.tuple #[.slice none 0 0, .int .i64 11]) ∧ Below w.heap.size w w' := by
  have hk : (keyS a).size ≤ 12 := (keyS_key12 (hv a (by simp))).2
  have QB := Lib.hid (begin_ok A nn c rs a b w hn hf hv hx)
  have qu := (fun B m D W (h1 : Cells W A (ruleCells rs)) h2 h3 => pathUses_any A nn c B m rs (keyS b) (keyS a) D W hk hf.short hn (by rw [hn]; have := hf.1; omega) h1 h2 h3)
  have HX := Lib.hid hx
  rw [hU] at qu
  have QU := Lib.hid qu
  clear hn hf hv hx hk hU qu
  go_enter Tryz.func33, Tryz.ntmps33
  go_wp2_with fail
  refine QB.out.mono ?_
  rintro e w1 ⟨B, m, D, rfl, ho1, hM, hBl, hb1⟩
  have ho2 := World.ownsMap.alloc ho1 (.cells #[.slice A nn c, .map (some B)] 115)
  have hb2 := hb1.alloc (o := .cells #[.slice A nn c, .map (some B)] 115) hb1.size
  have HM := Lib.hid hM
  have HO := Lib.hid ho2
  have HX2 := Lib.hid (HX.out.below hb2)
  clear hM ho1 ho2 hb1 QB HX
  go_wp2_with fail
  generalize w1.alloc (.cells #[.slice A nn c, .map (some B)] 115) = w2 at *
  refine (QU.out B m D w2 HX2.out HO.out HM.out).mono ?_
  rintro e w3 ⟨rfl, hb3⟩
  have hb4 := hb2.trans (hb3.mono hb2.size)
  clear QU HX2 HO HM hb2 hb3
  go_wp2_with fail
  go_ret2
  exact ⟨rfl, hb4⟩

/-- The chain where there is one, from any world behind a first one. -/
theorem Chain_some {A : Option Addr} {nn c u : Nat} {rs : List (ByteArray × ByteArray)} {a b : ByteArray} {W0 : World} (hn : nn = rs.length) (hf : RulesOk rs) (hx : Cells W0 A (ruleCells rs)) (hv : AllOk [a, b])
    (hU : usesG rs (keyS b) (keyS a) = some u) (W : World) (hW : Below W0.heap.size W0 W) :
    Calls Tryz.prog 33 #[.slice A nn c, .string a, .string b] W fun e w' => ∃ o, e = .returned (.tuple #[o, .int .i64 0]) ∧ w'.ownsRow W.heap.size 9 1 o (u + 1) ((keyS a :: stepsG rs (keyS b) u (keyS a)).map Value.string) ∧ Below W.heap.size W w' := by
  have ka := keyS_key12 (hv a (by simp))
  have kb := keyS_key12 (hv b (by simp))
  refine (Chain_ok A nn c u rs a b W hn hf hv (hx.below hW) hU (usesG_le hU) ka.2 (steps_ok kb u _ ka hU)).mono ?_
  rintro e w' ⟨o, he, ho, hb⟩
  have ec : chainG rs (keyS a) (keyS b) = (keyS a :: stepsG rs (keyS b) u (keyS a), 0) := by unfold chainG; rw [hU]
  rw [ec] at he ho
  refine ⟨o, he, ?_, hb⟩
  have hl : (keyS a :: stepsG rs (keyS b) u (keyS a)).length = u + 1 := by rw [List.length_cons, steps_len]
  simp only [hl] at ho
  exact ho

/-- What a chain is made of. -/
theorem chain_facts {rs : List (ByteArray × ByteArray)} {x goal : ByteArray} {u : Nat} (hx : Key12 x) (hg : Key12 goal) (hU : usesG rs goal x = some u) (C : List ByteArray) (hC : C = x :: stepsG rs goal u x) :
    C.length = u + 1 ∧ (∀ h : 0 < C.length, C[0] = x) ∧ (∀ h : u < C.length, C[u] = goal) ∧ ∀ j (_h : j < u) (h1 : j < C.length) (h2 : j + 1 < C.length), C[j + 1] ∈ madeL rs C[j] ∧ C[j].size ≤ 12 := by
  obtain ⟨k1, k2⟩ := steps_made hg u x hx hU
  have hl : C.length = u + 1 := by rw [hC, List.length_cons, steps_len]
  subst hC
  refine ⟨hl, fun _ => rfl, fun h => ?_, fun j h h1 h2 => ?_⟩
  · rw [List.getLast_eq_getElem] at k2
    simp only [hl, Nat.add_sub_cancel] at k2
    exact k2
  · have := k1 j (by rw [steps_len]; exact h)
    exact ⟨this.1, this.2.2⟩
theorem made_len {rs : List (ByteArray × ByteArray)} {x : ByteArray} (hr : rs.length ≤ 4) (hx : x.size ≤ 12) : (madeL rs x).length ≤ 104 := by
  have h : ∀ rs : List (ByteArray × ByteArray), (madeL rs x).length ≤ 26 * rs.length := by
    intro rs
    induction rs with
    | nil => simp [madeL]
    | cons r t ih =>
      have e : madeL (r :: t) x = (repL x r.1 r.2 ++ repL x r.2 r.1) ++ madeL t x := rfl
      have h1 := repL_len x r.1 r.2 hx
      have h2 := repL_len x r.2 r.1 hx
      rw [e, List.length_append, List.length_append, List.length_cons]
      omega
  have := h rs
  omega
/-- Whether one of the first strings of a list is this one. -/
def metB (M : List ByteArray) (y : ByteArray) (k : Nat) : Bool := (M.take k).any fun m => m.toList == y.toList
theorem metB_succ (M : List ByteArray) (y : ByteArray) (k : Nat) (h : k < M.length) : metB M y (k + 1) = (metB M y k || (M[k].toList == y.toList)) := by
  unfold metB
  rw [List.take_succ_eq_append_getElem h, List.any_append]
  simp
theorem metB_all {M : List ByteArray} {y : ByteArray} (h : y ∈ M) (k : Nat) (hk : M.length ≤ k) : metB M y k = true := by
  unfold metB
  rw [List.take_of_length_le hk, List.any_eq_true]
  exact ⟨y, h, by simp⟩
end Go.Proofs.YtlhiekeolmgilaaGreatDoor
