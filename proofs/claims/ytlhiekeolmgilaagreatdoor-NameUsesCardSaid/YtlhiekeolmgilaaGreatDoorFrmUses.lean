/- NameUses, tied card: for every slice of rules, every slice of strings, all strings and every slice of integers the law returns true, and its arguments read as they did. The one listed variable of the library is tied to the program's own text; no other condition. -/
import Derived.Test.YtlhiekeolmgilaaGreatDoorRows
import Derived.Test.YtlhiekeolmgilaaGreatDoorFrmR
import Derived.Test.YtlhiekeolmgilaaGreatDoorLawU
namespace Go.Proofs.YtlhiekeolmgilaaGreatDoor.nameUses
open Go.ChangeShapes Go.WideShapes Go.ChangeAt Go.RowKit
open Go.ChangeMaps (open_string shut_string)

theorem own : ownKnob Tryz.prog.godebug = none := by kernel_rfl
theorem laidOut : laidOutB Tryz.prog = true := by kernel_rfl

set_option maxRecDepth 100000 in
theorem lifted (os : Os) (started : os.Started) (H : Type) (enc : TypeId × Value → H) :
    ReturnsInHanded {} Tryz.checked os 4 .any (fun w args => (Rows.nameUsesSpec.pre enc Tryz.prog Tryz.f4 [] false w args ∧ laidMetH Tryz.prog laidL w) ∧ sizedMet enc Tryz.prog Tryz.f4 (OpenSpec.ofChange Rows.nameUsesSpec) false w args)
      (Rows.nameUsesSpec.post enc Tryz.prog Tryz.f4 false true false false) := by
  refine returnsInHanded_of_change_and (C := Tryz.checked) (X := fun w _ => laidMetH Tryz.prog laidL w) (fun _ _ _ hh h => h.of_heap hh) own started (by kernel_rfl) Tryz.func4
    (ChangeSpec.witness_at (enc := enc) (C := Tryz.checked) (os := os) (X := fun w _ => laidMetH Tryz.prog laidL w) false (laidWorld os) #[.slice none 0 0, .slice none 0 0, .string ByteArray.empty, .string ByteArray.empty, .slice none 0 0] 8 rfl (by kernel_rfl) (by kernel_rfl) (by kernel_rfl) (by kernel_rfl) (by kernel_rfl) (laidWorld_met os _)) ?_
  intro W base args ds gs before hval0 hW hcnd hsz0 hL0 _
  have hval : ∀ (j : Nat) t v, Tryz.f4.params[j]? = some t → args[j]? = some v → Value.okWide Tryz.prog W .any base t v := hval0
  have hsz : (DataW.weightsEach Tryz.prog (Tryz.f4.params.toList ++ []) (ds ++ gs)).all (· ≤ reachBytes) = true := hsz0
  have hW' := hW
  obtain ⟨p, q, hA0, hV, rfl, hfz, hnd⟩ := hW
  have hA : DataW.TrodAll enc Tryz.prog W 0 (fun _ => true) true Tryz.f4.params.toList args.toList ds p := hA0
  rw [Tryz.params4] at hA hval hsz
  obtain ⟨v0, vs0, d0, ds0, p0, q0, hargs, rfl, rfl, h0, r0⟩ := trodAll_cons hA
  obtain ⟨v1, vs1, d1, ds1, p1, q1, rfl, rfl, rfl, h1, r1⟩ := trodAll_cons r0
  obtain ⟨v2, vs2, d2, ds2, p2, q2, rfl, rfl, rfl, h2, r2⟩ := trodAll_cons r1
  obtain ⟨v3, vs3, d3, ds3, p3, q3, rfl, rfl, rfl, h3, r3⟩ := trodAll_cons r2
  obtain ⟨v4, vs4, d4, ds4, p4, q4, rfl, rfl, rfl, h4, r4⟩ := trodAll_cons r3
  obtain ⟨rfl, rfl, rfl⟩ := trodAll_nil r4
  obtain rfl : args = #[v0, v1, v2, v3, v4] := by cases args; simp_all
  obtain ⟨rfl, rfl⟩ := trodVars_none hV
  obtain ⟨a0, len0, cap0, rfl⟩ := okWide_slice Tryz.underlying41 (hval 0 41 v0 rfl rfl)
  have k0 := h0
  have lt0 : ∀ x ∈ p0, x.block < W.heap.size := by obtain ⟨m, hm⟩ := k0; exact DataW.trod_lt m _ _ _ hm
  obtain ⟨ss0, n0, z0, w0, b0, f0⟩ : ∃ rs : List (ByteArray × ByteArray), len0 = rs.length ∧ (a0 = none → cap0 = 0) ∧ Cells W a0 (ruleCells rs) ∧ len0 ≤ 1000000000000000000 ∧ Fine rs := by
    obtain ⟨fuel, hf⟩ := h0
    exact rules_in (x := (d0, p0)) hsz (j := 0) rfl rfl (by simpa [Value.cells] using hf)
  obtain ⟨a1, len1, cap1, rfl⟩ := okWide_slice Tryz.underlying22 (hval 1 22 v1 rfl rfl)
  have k1 := h1
  have lt1 : ∀ x ∈ p1, x.block < W.heap.size := by obtain ⟨m, hm⟩ := k1; exact DataW.trod_lt m _ _ _ hm
  obtain ⟨ss1, n1, z1, w1, b1⟩ : ∃ ss : List ByteArray, len1 = ss.length ∧ (a1 = none → cap1 = 0) ∧ Cells W a1 (ss.map Value.string) ∧ len1 ≤ 1000000000000000000 := by
    obtain ⟨fuel, hf⟩ := h1
    obtain ⟨ss, hn, hz, hx, hl⟩ := strs_in (by simpa [Value.cells] using hf)
    refine ⟨ss, hn, hz, hx, ?_⟩
    rcases hl with hl | ⟨el, sp, hd, hl⟩
    · omega
    · have hs := sized_slice hsz (j := 1) (t := 22) (elems := el) (spare := sp) rfl (by simpa using hd) Tryz.underlying22
      rw [show Tryz.prog.bytesOf 9 = 16 from by kernel_rfl, show reachBytes = 140737488351232 from rfl] at hs
      omega
  obtain ⟨a2, rfl, rfl, rfl, w2⟩ := open_string Tryz.underlying9 (hval 2 9 v2 rfl rfl) h2
  obtain ⟨a3, rfl, rfl, rfl, w3⟩ := open_string Tryz.underlying9 (hval 3 9 v3 rfl rfl) h3
  obtain ⟨a4, len4, cap4, rfl⟩ := okWide_slice Tryz.underlying23 (hval 4 23 v4 rfl rfl)
  have k4 := h4
  have lt4 : ∀ x ∈ p4, x.block < W.heap.size := by obtain ⟨m, hm⟩ := k4; exact DataW.trod_lt m _ _ _ hm
  obtain ⟨w4, b4⟩ : NumsIn W a4 len4 ∧ len4 ≤ 1000000000000000000 := by
    obtain ⟨fuel, hf⟩ := h4
    obtain ⟨hx, hl⟩ := nums_in (by simpa [Value.cells] using hf)
    refine ⟨hx, ?_⟩
    rcases hl with hl | ⟨el, sp, hd, hl⟩
    · omega
    · have hs := sized_slice hsz (j := 4) (t := 23) (elems := el) (spare := sp) rfl (by simpa using hd) Tryz.underlying23
      rw [show Tryz.prog.bytesOf 3 = 8 from by kernel_rfl, show reachBytes = 140737488351232 from rfl] at hs
      omega
  clear hA0 hval0 hsz0
  refine (NameUses_any a0 len0 cap0 ss0 a1 len1 cap1 ss1 a2 a3 a4 len4 cap4 W (handle_of_laid hL0) n0 b0 f0 z0 w0 n1 b1 z1 w1 b4 w4).mono fun e W' ⟨he, bel⟩ => ?_
  subst he
  exact ⟨_, rfl, _, _, _, [], _, [], hW', trodAll_mk1 (shut_bool Tryz.underlying4 _), (trodAll_cons_mk (Below.trod laidOut (by kernel_rfl) (of_decide_eq_true (by kernel_rfl)) k0 bel lt0) (trodAll_cons_mk (Below.trod laidOut (by kernel_rfl) (of_decide_eq_true (by kernel_rfl)) k1 bel lt1) (trodAll_cons_mk (shut_string Tryz.underlying9 w2) (trodAll_cons_mk (shut_string Tryz.underlying9 w3) (trodAll_cons_mk (Below.trod laidOut (by kernel_rfl) (of_decide_eq_true (by kernel_rfl)) k4 bel lt4) trodAll_mk0))))), rfl, bel.frame _, fun h => by cases h⟩

theorem over : Rows.nameUsesRow.holds Tryz.pinned (OpenSpec.ofChange Rows.nameUsesSpec) :=
  OpenClaim.holds_of_wide 4 Tryz.f4 rfl rfl rfl rfl rfl rfl rfl ⟨rfl, rfl, rfl, rfl, rfl⟩ rfl rfl rfl rfl rfl (by kernel_rfl) Tryz.func4 (by kernel_rfl)
    (of_decide_eq_true (by kernel_rfl)) (by unfold Func.isWrapper; first | (rw [if_pos (by decide +kernel)]; kernel_rfl) | (rw [if_neg (by decide +kernel)]; exact ⟨rfl, rfl⟩))
    (fun os started H enc _ => lifted os started H enc)

theorem proved : Rows.NameUsesCardSaid :=
  Claim7.holds_tied_plain_at .later [] [.handle] true (true, "eac5ec37a193330fe9fc9f8018802d50a2aa8cddca7bd46c9293e626261d0c3e") true
    over (fun _ h => by cases h) (by kernel_rfl) (fun _ h => by cases h) nameUses_row_tie rfl ⟨rfl, rfl⟩ (by kernel_rfl) rfl
    (fun f fn hf hfn => by
      obtain rfl : f = 4 := Option.some.inj ((show Tryz.prog.funcNamed "wayzgoose/wayzgooselaw03.NameUses" = some 4 by kernel_rfl).symm.trans hf) |>.symm
      obtain rfl : fn = Tryz.f4 := (Option.some.inj (Tryz.func4.symm.trans hfn)).symm
      exact ⟨by kernel_rfl, fun j t ht => by
          rw [Tryz.params4] at ht
          rcases j with _ | j
          · have h3 : t = 41 := by simpa using ht.symm
            subst h3
            exact (show Tryz.prog.wantsStandIn 41 = false by kernel_rfl)
          rcases j with _ | j
          · have h3 : t = 22 := by simpa using ht.symm
            subst h3
            exact (show Tryz.prog.wantsStandIn 22 = false by kernel_rfl)
          rcases j with _ | j
          · have h3 : t = 9 := by simpa using ht.symm
            subst h3
            exact (show Tryz.prog.wantsStandIn 9 = false by kernel_rfl)
          rcases j with _ | j
          · have h3 : t = 9 := by simpa using ht.symm
            subst h3
            exact (show Tryz.prog.wantsStandIn 9 = false by kernel_rfl)
          rcases j with _ | j
          · have h3 : t = 23 := by simpa using ht.symm
            subst h3
            exact (show Tryz.prog.wantsStandIn 23 = false by kernel_rfl)
          simp at ht⟩)
    (by kernel_rfl)
end Go.Proofs.YtlhiekeolmgilaaGreatDoor.nameUses
