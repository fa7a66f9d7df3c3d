/- All abbreviations of a key, as a law lists them: the walk. -/
import Derived.Test.YtlhiekeolmgilaaGreatDoorKitU
import Derived.Test.YtlhiekeolmgilaaGreatDoorLawM0
import Derived.Test.YtlhiekeolmgilaaGreatDoorPgJ
namespace Go.Proofs.YtlhiekeolmgilaaGreatDoor
open Go.RowKit

set_option maxRecDepth 100000 in
theorem Subsets_any (n m : Nat) (w : World) (hm : m ≤ 1000) (hn : n ≤ 12) : Calls Tryz.prog 48 #[.int .i64 (n : Nat), .int .i64 (m : Nat)] w (SubsPost (subsL m 0 n) w) := by
  have q := subsets_any m 0 n w hm hn (by omega)
  have Q := Lib.hid (show Calls Tryz.prog 95 #[.int .i64 0, .int .i64 (n : Nat), .int .i64 (m : Nat)] w (SubsPost (subsL m 0 n) w) from q)
  clear q
  generalize (n : Int) = a at *
  generalize (m : Int) = b at *
  go_enter Tryz.func48, Tryz.ntmps48
  go_wp2_with fail
  refine Q.out.mono ?_
  rintro e w' h
  unfold SubsPost at h
  obtain ⟨o, vs, rfl, h1, h2, h3⟩ := h
  go_wp2_with fail
  go_ret
  exact ⟨_, vs, rfl, h1, h2, h3⟩

theorem own_cap {w : World} {base n m cap size g : Nat} {e : TypeId} {xs : List Value} (h : w.ownsRow base e size (.slice (some ⟨g, 0, none⟩) m cap) n xs) : n ≤ cap := by
  rcases h.2 with ⟨hv, _⟩ | ⟨g', cap', cur, hv, _, _, h1, _⟩
  · cases hv
  · injection hv with h2 h3 h4
    omega
theorem cells_take {w : World} {G : Nat} {xs : List ByteArray} (h : Cells w (some ⟨G, 0, none⟩) (xs.map Value.string)) (a : Nat) : Cells w (some ⟨G, 0, none⟩) ((xs.take a).map Value.string) := fun i hi => by
  have hi2 : i < a ∧ i < xs.length := by simp at hi; omega
  obtain ⟨b, off, e, hc⟩ := h i (by simpa using hi2.2)
  refine ⟨b, off, e, ?_⟩
  rw [hc, List.getD_eq_getElem?_getD, List.getD_eq_getElem?_getD, List.getElem?_map, List.getElem?_map, List.getElem?_take, if_pos hi2.1]
theorem cells_drop {w : World} {G : Nat} {xs : List ByteArray} (h : Cells w (some ⟨G, 0, none⟩) (xs.map Value.string)) (a : Nat) : Cells w (some ⟨G, a, none⟩) ((xs.drop a).map Value.string) := fun i hi => by
  have hi2 : a + i < xs.length := by simp at hi; omega
  obtain ⟨b, off, e, hc⟩ := h (a + i) (by simpa using hi2)
  injection e with e
  injection e with e1 e2 _
  subst e1 e2
  refine ⟨_, _, rfl, ?_⟩
  rw [Nat.zero_add] at hc
  rw [hc, List.getD_eq_getElem?_getD, List.getD_eq_getElem?_getD, List.getElem?_map, List.getElem?_map, List.getElem?_drop]
theorem cells_dropI {w : World} {G nc : Nat} {xs : List ByteArray} (h : Cells w (some ⟨G, 0, none⟩) (xs.map Value.string)) (a : Nat) (hc : xs.length ≤ nc) : Cells w (if nc = a then some ⟨G, 0, none⟩ else some ⟨G, a, none⟩) ((xs.drop a).map Value.string) := by
  by_cases e : nc = a
  · rw [if_pos e, List.drop_eq_nil_of_le (by omega)]
    exact fun i hi => absurd hi (by simp)
  · rw [if_neg e]; exact cells_drop h a

def AbbrsPost (k : ByteArray) (m : Nat) (w : World) (e : Ending) (w' : World) : Prop :=
  ∃ (o : Value) (xs : List ByteArray), e = .returned o ∧ w'.ownsRow w.heap.size 9 1 o xs.length (xs.map Value.string) ∧ Rises xs ∧ (∀ x : ByteArray, x ∈ xs ↔ x.data.toList ∈ cutsG k.data.toList (m + 1)) ∧ xs.length ≤ 4096 ∧ Below w.heap.size w w'

def strOf (c : UInt8) (t : List UInt8) (r : List Int) : ByteArray := ⟨(c :: pickT t r).toArray⟩
theorem strOf_list (c : UInt8) (t : List UInt8) (r : List Int) : (strOf c t r).data.toList = c :: pickT t r := rfl
theorem strOf_size (c : UInt8) (t : List UInt8) (r : List Int) : (strOf c t r).size = r.length + 1 := by
  show (c :: pickT t r).toArray.size = _
  simp [pickT]
theorem strOf_zero {k : ByteArray} {c : UInt8} {t : List UInt8} (h : k.data.toList = c :: t) : k.extract 0 1 = strOf c t [] := bz_inj (by
  rw [ext_list, h]; rfl)
theorem strOf_step {k : ByteArray} {c : UInt8} {t : List UInt8} (h : k.data.toList = c :: t) (r : List Int) (j p : Nat) (hj : j < r.length) (hp : r[j] = (p : Int)) (hpk : p < t.length) :
    strOf c t (r.take j) ++ k.extract (p + 1) (p + 2) = strOf c t (r.take (j + 1)) := bz_inj (by
  rw [ByteArray.data_append, Array.toList_append, ext_list, h, strOf_list, strOf_list, List.take_succ_eq_append_getElem hj, hp]
  show c :: pickT t (r.take j) ++ (t.drop p).take (p + 2 - (p + 1)) = c :: pickT t (r.take j ++ [(p : Int)])
  rw [show p + 2 - (p + 1) = 1 from by omega, List.drop_eq_getElem_cons hpk]
  unfold pickT
  rw [List.map_append, List.map_cons, Int.toNat_natCast, List.getD_eq_getElem?_getD, List.getElem?_eq_getElem hpk]
  rfl)

set_option maxRecDepth 100000 in
set_option maxHeartbeats 6400000 in
theorem abbreviations_any (k : ByteArray) (m : Nat) (w : World) (hm : m + 1 < k.size) (hk : k.size ≤ 12) :
    Calls Tryz.prog 54 #[.string k, .int .i64 ((m : Int) + 1)] w (AbbrsPost k m w) := by
  obtain ⟨si, hi, hz0, hz1, hz2⟩ := info_parts infoStr
  have hkl : k.data.toList.length = k.size := by simp
  obtain ⟨c, t, hct⟩ : ∃ c t, k.data.toList = c :: t := by
    cases h : k.data.toList with
    | nil => rw [h] at hkl; simp at hkl; omega
    | cons c t => exact ⟨c, t, rfl⟩
  have htl : t.length + 1 = k.size := by rw [← hkl, hct]; rfl
  obtain ⟨n, hn⟩ : ∃ n, k.size = n + 1 := ⟨k.size - 1, by omega⟩
  have htn : t.length = n := by omega
  have QS := Lib.hid (Subsets_any n m w (by omega) (by omega))
  unfold SubsPost at QS
  have HC : Hid (∀ x : List UInt8, x ∈ cutsG k.data.toList (m + 1) ↔ ∃ r, r ∈ subsL m 0 n ∧ x = c :: pickT t r) := Lib.hid fun x => by
    rw [hct, ← htn]
    exact pick_cuts c t m (by omega) x
  have HB : Hid (∀ r, r ∈ subsL m 0 n → ∀ x, x ∈ r → (0 : Int) ≤ x ∧ x < (n : Int)) := Lib.hid fun r hr x hx => subsL_mem m 0 n r hr x hx
  have HR : Hid (∀ r, r ∈ subsL m 0 n → r.length ≤ 12) := Lib.hid fun r hr => by rw [subsL_row m 0 n r hr]; omega
  have hsl : (subsL m 0 n).length ≤ 4096 := Nat.le_trans (subsL_len m 0 n) (show (2 : Nat) ^ (n - 0) ≤ 2 ^ 12 from Nat.pow_le_pow_right (by decide) (by omega))
  have H0 := Lib.hid (strOf_zero hct)
  have HST := Lib.hid (fun r j p hj hp (hpk : p < n) => strOf_step hct r j p hj hp (by omega))
  generalize subsL m 0 n = S at *
  have w1 : IntKind.i64.wrap ((k.size : Int) - 1) = (n : Int) := by rw [show (k.size : Int) - 1 = (n : Int) from by omega]; exact IntWalk.i64_in _ (by omega)
  have w2 : IntKind.i64.wrap ((m : Int) + 1 - 1) = (m : Int) := by rw [show (m : Int) + 1 - 1 = (m : Int) from by omega]; exact IntWalk.i64_in _ (by omega)
  have k1 : (1 : Int) ≤ (k.size : Int) := by omega
  have HKN := Lib.hid hn
  have hkn : k.size ≤ n + 1 ∧ n + 1 ≤ k.size := ⟨by omega, by omega⟩
  unfold AbbrsPost
  clear hct htl hkl hn htn
  go_enter Tryz.func54, Tryz.ntmps54
  go_wp2_with fail
  refine QS.out.mono ?_
  rintro e w1' ⟨o, vs, rfl, hol, hrl, hb1⟩
  obtain ⟨AL, cl, rfl⟩ := own_form hol
  have CL := Lib.hid (IntLists.of hol hrl)
  clear QS hol hrl
  have hb1s := hb1.size
  go_wp2_with fail
  go_loopw [5, 7, 8, 9, 10] (fun ov iv _ _ _ wr => ∃ (i : Nat) (xs : List ByteArray), i ≤ S.length ∧ iv = .int .i64 i ∧ wr.ownsRow w1'.heap.size 9 1 ov xs.length (xs.map Value.string) ∧ Hid (xs = [] → ov = .slice none 0 0) ∧ Hid (Rises xs) ∧ Hid (∀ x : ByteArray, x ∈ xs ↔ ∃ r, r ∈ S.take i ∧ x.data.toList = c :: pickT t r) ∧ xs.length ≤ i ∧ Below w1'.heap.size w1' wr) (fun _ iv _ _ _ _ => S.length - (intOf iv).toNat)
  case atStart => exact ⟨0, [], Nat.zero_le _, rfl, World.ownsRow_nil _ _ _ _, Lib.hid fun _ => rfl, Lib.hid List.Pairwise.nil, Lib.hid (by simp), Nat.le_refl _, Below.refl _ _⟩
  case round =>
    obtain ⟨i, xs, hil, rfl, hown, hnil, hris, hmem, hxl, t0⟩ := hrel
    generalize hWW : wr = W0 at *
    clear hWW
    by_cases hlt : i < S.length
    · obtain ⟨b1, o1, Ai, ci, rfl, c1, c2⟩ := (CL.out.below t0) i hlt
      have hrb := HB.out S[i] (List.getElem_mem hlt)
      have hrl := HR.out S[i] (List.getElem_mem hlt)
      have hstep := HST.out S[i]
      have hmem2 : ∀ x : ByteArray, (∃ r, r ∈ S.take (i + 1) ∧ x.data.toList = c :: pickT t r) ↔ (∃ r, r ∈ S.take i ∧ x.data.toList = c :: pickT t r) ∨ x = strOf c t S[i] := fun x => by
        rw [List.take_succ_eq_append_getElem hlt]
        constructor
        · rintro ⟨r, hr, e⟩
          rcases List.mem_append.1 hr with hr | hr
          · exact .inl ⟨r, hr, e⟩
          · rw [List.mem_singleton.1 hr] at e
            exact .inr (bz_inj e)
        · rintro (⟨r, hr, e⟩ | e)
          · exact ⟨r, List.mem_append.2 (.inl hr), e⟩
          · exact ⟨S[i], List.mem_append.2 (.inr (List.mem_singleton.2 rfl)), by rw [e]; rfl⟩
      have HMEM2 := Lib.hid hmem2
      have HRB := Lib.hid hrb
      have HSTEP := Lib.hid hstep
      have C2 := Lib.hid c2
      generalize S[i] = r at *
      obtain ⟨NA, nc, rfl⟩ := own_form hown
      have i0 : (0 : Int) ≤ (i : Int) := by omega
      have i1 : (i : Int) < (S.length : Int) := by omega
      clear hmem2 hrb hstep c2
      go_wp2_with fail
      rw [H0.out]
      go_loopw [8, 9] (fun sv jv wi => ∃ j : Nat, j ≤ r.length ∧ jv = .int .i64 j ∧ sv = .string (strOf c t (r.take j)) ∧ Below W0.heap.size W0 wi) (fun _ jv _ => r.length - (intOf jv).toNat)
      case atStart => exact ⟨0, Nat.zero_le _, rfl, rfl, Below.refl _ _⟩
      case round =>
        obtain ⟨j, hj, rfl, rfl, t1⟩ := hrel
        have cc1 := (t1.cell (World.block_lt_of_cell? _ _ c1)).trans c1
        by_cases hjl : j < r.length
        · obtain ⟨hx0, hx1⟩ := HRB.out r[j] (List.getElem_mem hjl)
          obtain ⟨p, hp⟩ : ∃ p : Nat, r[j] = (p : Int) := ⟨(r[j]).toNat, by omega⟩
          have hpn : p < n := by omega
          have hst := HSTEP.out j p hjl hp hpn
          obtain ⟨b2, o2, rfl, c3⟩ := ints_at (C2.out.below t1) j hjl
          rw [hp] at c3 hx0 hx1
          have HSTP := Lib.hid hst
          have hsz := strOf_size c t (r.take j)
          have hsz2 : (r.take j).length ≤ 12 := by rw [List.length_take]; omega
          have hss : (strOf c t (r.take j)).size ≤ 100 := by omega
          generalize strOf c t (r.take j) = SJ at *
          have j0 : (0 : Int) ≤ (j : Int) := by omega
          have j1 : (j : Int) < (r.length : Int) := by omega
          have p1 : IntKind.i64.wrap ((p : Int) + 1) = (p : Int) + 1 := IntWalk.i64_in _ (by omega)
          have p2 : IntKind.i64.wrap ((p : Int) + 2) = (p : Int) + 2 := IntWalk.i64_in _ (by omega)
          have p3 : (0 : Int) ≤ (p : Int) + 1 := by omega
          have p4 : (p : Int) + 1 ≤ (p : Int) + 2 := by omega
          have p5 : (p : Int) + 2 ≤ (k.size : Int) := by omega
          have p6 : ((p : Int) + 1).toNat = p + 1 := by omega
          have p7 : ((p : Int) + 2).toNat = p + 2 := by omega
          have p8 : (0 : Int) ≤ (p : Int) + 2 := by omega
          have p9 : (p : Int) + 1 ≤ (k.size : Int) := by omega
          have q1 : SJ.size + (min (p + 2) k.size - (p + 1)) ≤ 9223372036854775807 := by omega
          have q2 : ¬ (9223372036854775807 < SJ.size + (min (p + 2) k.size - (p + 1))) := by omega
          clear hst hsz hp c1 hx0 hx1
          go_wp2_with fail
          go_quiet (fail)
          have t2 : Below W0.heap.size W0 (wr.drewN nq) := t1.trans (Drew.below ⟨nq, rfl⟩ _)
          generalize wr.drewN nq = wj at *
          clear t1 cc1 c3
          go_wp2_with fail
          go_roundw
          case rel => exact ⟨j + 1, by omega, by go_num, by rw [HSTP.out], t2⟩
          case measure => simp [intOf]; omega
        · have hjr : j = r.length := by omega
          subst hjr
          rw [List.take_length]
          have ho2 := own_below hown t1
          have hsz := strOf_size c t r
          have hss : (strOf c t r).size ≤ 100 := by omega
          generalize hSV : strOf c t r = SV at *
          clear hsz hown c1
          go_wp2_with fail
          go_loopw [10] (fun av wi => ∃ a : Nat, a ≤ xs.length ∧ av = .int .i64 a ∧ Hid (∀ y, y ∈ xs.take a → Op.bytesLess y.toList SV.toList = true) ∧ wi = wr) (fun av _ => xs.length - (intOf av).toNat)
          case atStart => exact ⟨0, Nat.zero_le _, rfl, Lib.hid (fun y hy => by simp at hy), rfl⟩
          case round =>
            obtain ⟨a, ha, rfl, hbe, rfl⟩ := hrel
            by_cases hgo : ∃ h : a < xs.length, Op.bytesLess (xs[a]).toList SV.toList = true
            · obtain ⟨hal, hb⟩ := hgo
              obtain ⟨q1, q2, rfl, ca⟩ := (cells_own ho2).str a hal
              have a0 : (0 : Int) ≤ (a : Int) := by omega
              have a1 : (a : Int) < (xs.length : Int) := by omega
              have hbe2 : Hid (∀ y, y ∈ xs.take (a + 1) → Op.bytesLess y.toList SV.toList = true) := Lib.hid fun y hy => by
                rw [List.take_succ_eq_append_getElem hal] at hy
                rcases List.mem_append.1 hy with hy | hy
                · exact hbe.out y hy
                · rw [List.mem_singleton.1 hy]; exact hb
              generalize xs[a] = Y at *
              clear ho2
              go_wp2_with fail
              go_roundw
              case rel => exact ⟨a + 1, by omega, by go_num, hbe2, trivial⟩
              case measure => simp [intOf]; omega
            · have hge : ∀ h : a < xs.length, Op.bytesLess (xs[a]).toList SV.toList = false := fun h => by
                cases hb : Op.bytesLess (xs[a]).toList SV.toList with
                | false => rfl
                | true => exact absurd ⟨h, hb⟩ hgo
              have HRIS := Lib.hid (ins_rises hris.out hbe.out hge)
              have a0 : (0 : Int) ≤ (a : Int) := by omega
              have a1 : (a : Int) ≤ (xs.length : Int) := by omega
              clear hgo
              have hws := t1.size
              have HBR : Hid (∀ w3, Below wr.heap.size wr w3 → Below w1'.heap.size w1' w3) := Lib.hid fun w3 h => t0.trans ((t1.trans (h.mono hws)).mono t0.size)
              have hbase : w1'.heap.size ≤ wr.heap.size := Nat.le_trans t0.size hws
              have HNN : Hid (xs.take a ++ [SV] ++ xs.drop a = [] → ∀ v3 : Value, v3 = .slice none 0 0) := Lib.hid fun h => by simp at h
              have HLL : Hid ((xs.take a ++ [SV] ++ xs.drop a).length ≤ i + 1) := Lib.hid (by simp; omega)
              have HMM : Hid (∀ x : ByteArray, x ∈ xs.take a ++ [SV] ++ xs.drop a ↔ ∃ r, r ∈ S.take (i + 1) ∧ x.data.toList = c :: pickT t r) := Lib.hid fun x => by
                rw [ins_mem, hmem.out x, HMEM2.out x]
              by_cases hz : xs = []
              · have hnl := hnil.out hz
                have hv1 : NA = none ∧ xs.length = 0 ∧ nc = 0 := by
                  injection hnl with h1 h2 h3
                  exact ⟨h1, h2, h3⟩
                obtain ⟨rfl, hx0, rfl⟩ := hv1
                have ha0 : a = 0 := by omega
                have HOWN : Hid (∀ v3 w3, World.ownsRow w3 wr.heap.size 9 1 v3 (0 + 0 + 1 + 0) (([] ++ [] ++ [Value.string SV] ++ [] : List Value)) → World.ownsRow w3 w1'.heap.size 9 1 v3 (xs.take a ++ [SV] ++ xs.drop a).length ((xs.take a ++ [SV] ++ xs.drop a).map Value.string)) := Lib.hid fun v3 w3 h => by
                  rw [hz, ha0]
                  exact h.mono hbase
                rw [hx0]
                rw [hx0] at a1
                subst ha0
                clear hz hx0 hge hbe ho2 hnl hnil hris hmem
                have T0 : Below wr.heap.size wr wr.drew := drewB _ _
                go_wp2_with fail
                go_region_law (first
                  | (refine step_append_read rfl _ _ 22 rfl wr.heap.size 9 si (.string ByteArray.empty) 16 Tryz.underlying22 hi hz0 hz1 hz2 rfl _ 0 [] rfl (by first | exact World.ownsRow_lit wr.drew #[] 0 (Nat.le_refl _) (by unfold maxLen; omega) rfl | exact (World.ownsRow_lit wr.drew #[] 0 (Nat.le_refl _) (by unfold maxLen; omega) rfl).alloc _ | (have hq := World.ownsRow_lit (base := wr.heap.size) (e := 9) (size := 1) (wr.drew.alloc (.cells #[.string SV] 9)) #[] 0 (by simp) (by unfold maxLen; omega) rfl; rw [World.size_alloc] at hq; exact hq) | fail "no") _ 0 _ ([] : List Value) rfl rfl (fun _ => rfl) (fun i hi => absurd hi (by simp)) (fun y hy => absurd hy (by simp)) (by unfold maxLen; omega) (by omega) (by first | (simp; done) | (simp; omega) | fail "no") ?_; intro v1 w1 hv1 hg1; have hb1 : Below wr.heap.size wr w1 := Below.grown (by first | exact T0.alloc (Nat.le_refl _) _ | exact (T0.alloc (Nat.le_refl _) _).alloc (by simp) _ | fail "no") hg1 (by first | (simp; done) | (simp; omega) | fail "no") (fun k hk => by cases hk; simp); have hs1 := hb1.size)
                  | (refine step_append_read rfl _ _ 22 rfl wr.heap.size 9 si (.string ByteArray.empty) 16 Tryz.underlying22 hi hz0 hz1 hz2 rfl _ (0 + 0) ([] ++ [] : List Value) rfl (by first | exact hv1 | exact hv1.alloc _ | fail "no") _ 1 1 [Value.string SV] rfl rfl (by intro h; cases h) (by first | exact cells_lit w1 #[.string SV] 9 1 rfl (by unfold maxLen; omega) | (have hq := cells_own ((World.ownsRow_lit (base := wr.heap.size) (e := 9) (size := 1) (wr.drew.alloc (.cells #[] 9)) #[.string SV] 1 (by simp) (by unfold maxLen; omega) rfl).kept hg1 (.inr (by intro h; injection h with h; simp at h))); rw [World.size_alloc] at hq; exact hq) | exact cells_own (((World.ownsRow_lit (base := wr.heap.size) (e := 9) (size := 1) wr.drew #[.string SV] 1 (Nat.le_refl _) (by unfold maxLen; omega) rfl).alloc (.cells #[] 9)).kept hg1 (.inr (by intro h; injection h with h; simp at h))) | fail "no") (by simp [Value.oneCell']) (by unfold maxLen; omega) (by omega) (by first | exact hs1 | (simp; omega) | fail "no") ?_; intro v2 w2 hv2 hg2; have hb2 : Below wr.heap.size wr w2 := Below.grown (by first | exact hb1 | exact hb1.alloc hs1 _ | fail "no") hg2 (by first | exact hs1 | (simp; omega) | fail "no") (fun k hk => (hv1.lt k hk).1); have hs2 := hb2.size)
                  | (refine step_append_read rfl _ _ 22 rfl wr.heap.size 9 si (.string ByteArray.empty) 16 Tryz.underlying22 hi hz0 hz1 hz2 rfl _ (0 + 0 + 1) ([] ++ [] ++ [Value.string SV] : List Value) rfl hv2 _ 0 _ ([] : List Value) rfl rfl (fun _ => rfl) (fun i hi => absurd hi (by simp)) (fun y hy => absurd hy (by simp)) (by unfold maxLen; omega) (by omega) hs2 ?_; intro v3 w3 hv3 hg3; have hb3 : Below wr.heap.size wr w3 := Below.grown hb2 hg3 hs2 (fun k hk => (hv2.lt k hk).1))
                  | fail "no")
                all_goals
                  have hvR := HOWN.out v3 w3 hv3
                  have hbR := HBR.out w3 hb3
                  clear hv1 hv2 hv3 hg1 hg2 hg3 hb1 hb2 hb3
                  go_wp2_with fail
                  go_roundw
                  case rel => exact ⟨i + 1, xs.take 0 ++ [SV] ++ xs.drop 0, by omega, by go_num, hvR, Lib.hid fun h => HNN.out h _, HRIS, HMM, HLL.out, hbR⟩
                  case measure => simp [intOf]; omega
              · obtain ⟨z, hz1⟩ : ∃ z, xs.length = z + 1 := ⟨xs.length - 1, by have := List.length_pos_iff.2 hz; omega⟩
                have ho3 := ho2
                rw [hz1] at ho3
                obtain ⟨G, cG, hv⟩ := own_head ho3
                injection hv with hv1 hv2 hv3
                subst hv1 hv3
                have hcap := own_cap ho2
                have a5 : a ≤ nc := by omega
                have HT : Hid (∀ W, Below wr.heap.size wr W → Cells W (some ⟨G, 0, none⟩) ((xs.take a).map Value.string)) := Lib.hid fun W hW => cells_take ((cells_own ho2).below hW) a
                have HDR : Hid (∀ W, Below wr.heap.size wr W → Cells W (if nc = a then some ⟨G, 0, none⟩ else some ⟨G, a, none⟩) ((xs.drop a).map Value.string)) := Lib.hid fun W hW => cells_dropI ((cells_own ho2).below hW) a hcap
                have HOWN : Hid (∀ v3 w3, World.ownsRow w3 wr.heap.size 9 1 v3 (0 + a + 1 + (xs.length - a)) ([] ++ (xs.take a).map Value.string ++ [Value.string SV] ++ (xs.drop a).map Value.string) → World.ownsRow w3 w1'.heap.size 9 1 v3 (xs.take a ++ [SV] ++ xs.drop a).length ((xs.take a ++ [SV] ++ xs.drop a).map Value.string)) := Lib.hid fun v3 w3 h => by
                  have e1 : (xs.take a ++ [SV] ++ xs.drop a).length = 0 + a + 1 + (xs.length - a) := by simp; omega
                  rw [e1, List.map_append, List.map_append]
                  exact h.mono hbase
                by_cases hal : a < xs.length
                · obtain ⟨q1, q2, hv, ca⟩ := (cells_own ho2).str a hal
                  injection hv with hv
                  injection hv with hv1 hv2
                  subst hv1 hv2
                  rw [Nat.zero_add] at ca
                  have hb := hge hal
                  have a2 : (a : Int) < (xs.length : Int) := by omega
                  generalize xs[a] = Y at *
                  clear ho2 ho3 hz hz1 hge hbe hnil hris hmem
                  have T0 : Below wr.heap.size wr wr.drew := drewB _ _
                  go_wp2_with fail
                  go_region_law (first
                    | (refine step_append_read rfl _ _ 22 rfl wr.heap.size 9 si (.string ByteArray.empty) 16 Tryz.underlying22 hi hz0 hz1 hz2 rfl _ 0 [] rfl (by first | exact World.ownsRow_lit wr.drew #[] 0 (Nat.le_refl _) (by unfold maxLen; omega) rfl | exact (World.ownsRow_lit wr.drew #[] 0 (Nat.le_refl _) (by unfold maxLen; omega) rfl).alloc _ | (have hq := World.ownsRow_lit (base := wr.heap.size) (e := 9) (size := 1) (wr.drew.alloc (.cells #[.string SV] 9)) #[] 0 (by simp) (by unfold maxLen; omega) rfl; rw [World.size_alloc] at hq; exact hq) | fail "no") _ a _ ((xs.take a).map Value.string) rfl (by simp; omega) (by intro h; cases h) (HT.out _ (by first | exact T0.alloc (Nat.le_refl _) _ | exact (T0.alloc (Nat.le_refl _) _).alloc (by simp) _ | fail "no")) (strs_one _) (by unfold maxLen; omega) (by omega) (by first | (simp; done) | (simp; omega) | fail "no") ?_; intro v1 w1 hv1 hg1; have hb1 : Below wr.heap.size wr w1 := Below.grown (by first | exact T0.alloc (Nat.le_refl _) _ | exact (T0.alloc (Nat.le_refl _) _).alloc (by simp) _ | fail "no") hg1 (by first | (simp; done) | (simp; omega) | fail "no") (fun k hk => by cases hk; simp); have hs1 := hb1.size)
                    | (refine step_append_read rfl _ _ 22 rfl wr.heap.size 9 si (.string ByteArray.empty) 16 Tryz.underlying22 hi hz0 hz1 hz2 rfl _ (0 + a) ([] ++ (xs.take a).map Value.string) rfl (by first | exact hv1 | exact hv1.alloc _ | fail "no") _ 1 1 [Value.string SV] rfl rfl (by intro h; cases h) (by first | exact cells_lit w1 #[.string SV] 9 1 rfl (by unfold maxLen; omega) | (have hq := cells_own ((World.ownsRow_lit (base := wr.heap.size) (e := 9) (size := 1) (wr.drew.alloc (.cells #[] 9)) #[.string SV] 1 (by simp) (by unfold maxLen; omega) rfl).kept hg1 (.inr (by intro h; injection h with h; simp at h))); rw [World.size_alloc] at hq; exact hq) | exact cells_own (((World.ownsRow_lit (base := wr.heap.size) (e := 9) (size := 1) wr.drew #[.string SV] 1 (Nat.le_refl _) (by unfold maxLen; omega) rfl).alloc (.cells #[] 9)).kept hg1 (.inr (by intro h; injection h with h; simp at h))) | fail "no") (by simp [Value.oneCell']) (by unfold maxLen; omega) (by omega) (by first | exact hs1 | (simp; omega) | fail "no") ?_; intro v2 w2 hv2 hg2; have hb2 : Below wr.heap.size wr w2 := Below.grown (by first | exact hb1 | exact hb1.alloc hs1 _ | fail "no") hg2 (by first | exact hs1 | (simp; omega) | fail "no") (fun k hk => (hv1.lt k hk).1); have hs2 := hb2.size)
                    | (refine step_append_read rfl _ _ 22 rfl wr.heap.size 9 si (.string ByteArray.empty) 16 Tryz.underlying22 hi hz0 hz1 hz2 rfl _ (0 + a + 1) ([] ++ (xs.take a).map Value.string ++ [Value.string SV]) rfl hv2 _ (xs.length - a) _ ((xs.drop a).map Value.string) rfl (by simp) (by intro h; split at h <;> cases h) (HDR.out _ hb2) (strs_one _) (by unfold maxLen; omega) (by omega) hs2 ?_; intro v3 w3 hv3 hg3; have hb3 : Below wr.heap.size wr w3 := Below.grown hb2 hg3 hs2 (fun k hk => (hv2.lt k hk).1))
                    | fail "no")
                  all_goals
                    have hvR := HOWN.out v3 w3 hv3
                    have hbR := HBR.out w3 hb3
                    clear hv1 hv2 hv3 hg1 hg2 hg3 hb1 hb2 hb3
                    go_wp2_with fail
                    go_roundw
                    case rel => exact ⟨i + 1, xs.take a ++ [SV] ++ xs.drop a, by omega, by go_num, hvR, Lib.hid fun h => HNN.out h _, HRIS, HMM, HLL.out, hbR⟩
                    case measure => simp [intOf]; omega
                · have a2 : ¬ ((a : Int) < (xs.length : Int)) := by omega
                  clear ho2 ho3 hz hz1 hge hbe hal hnil hris hmem
                  have T0 : Below wr.heap.size wr wr.drew := drewB _ _
                  go_wp2_with fail
                  go_region_law (first
                    | (refine step_append_read rfl _ _ 22 rfl wr.heap.size 9 si (.string ByteArray.empty) 16 Tryz.underlying22 hi hz0 hz1 hz2 rfl _ 0 [] rfl (by first | exact World.ownsRow_lit wr.drew #[] 0 (Nat.le_refl _) (by unfold maxLen; omega) rfl | exact (World.ownsRow_lit wr.drew #[] 0 (Nat.le_refl _) (by unfold maxLen; omega) rfl).alloc _ | (have hq := World.ownsRow_lit (base := wr.heap.size) (e := 9) (size := 1) (wr.drew.alloc (.cells #[.string SV] 9)) #[] 0 (by simp) (by unfold maxLen; omega) rfl; rw [World.size_alloc] at hq; exact hq) | fail "no") _ a _ ((xs.take a).map Value.string) rfl (by simp; omega) (by intro h; cases h) (HT.out _ (by first | exact T0.alloc (Nat.le_refl _) _ | exact (T0.alloc (Nat.le_refl _) _).alloc (by simp) _ | fail "no")) (strs_one _) (by unfold maxLen; omega) (by omega) (by first | (simp; done) | (simp; omega) | fail "no") ?_; intro v1 w1 hv1 hg1; have hb1 : Below wr.heap.size wr w1 := Below.grown (by first | exact T0.alloc (Nat.le_refl _) _ | exact (T0.alloc (Nat.le_refl _) _).alloc (by simp) _ | fail "no") hg1 (by first | (simp; done) | (simp; omega) | fail "no") (fun k hk => by cases hk; simp); have hs1 := hb1.size)
                    | (refine step_append_read rfl _ _ 22 rfl wr.heap.size 9 si (.string ByteArray.empty) 16 Tryz.underlying22 hi hz0 hz1 hz2 rfl _ (0 + a) ([] ++ (xs.take a).map Value.string) rfl (by first | exact hv1 | exact hv1.alloc _ | fail "no") _ 1 1 [Value.string SV] rfl rfl (by intro h; cases h) (by first | exact cells_lit w1 #[.string SV] 9 1 rfl (by unfold maxLen; omega) | (have hq := cells_own ((World.ownsRow_lit (base := wr.heap.size) (e := 9) (size := 1) (wr.drew.alloc (.cells #[] 9)) #[.string SV] 1 (by simp) (by unfold maxLen; omega) rfl).kept hg1 (.inr (by intro h; injection h with h; simp at h))); rw [World.size_alloc] at hq; exact hq) | exact cells_own (((World.ownsRow_lit (base := wr.heap.size) (e := 9) (size := 1) wr.drew #[.string SV] 1 (Nat.le_refl _) (by unfold maxLen; omega) rfl).alloc (.cells #[] 9)).kept hg1 (.inr (by intro h; injection h with h; simp at h))) | fail "no") (by simp [Value.oneCell']) (by unfold maxLen; omega) (by omega) (by first | exact hs1 | (simp; omega) | fail "no") ?_; intro v2 w2 hv2 hg2; have hb2 : Below wr.heap.size wr w2 := Below.grown (by first | exact hb1 | exact hb1.alloc hs1 _ | fail "no") hg2 (by first | exact hs1 | (simp; omega) | fail "no") (fun k hk => (hv1.lt k hk).1); have hs2 := hb2.size)
                    | (refine step_append_read rfl _ _ 22 rfl wr.heap.size 9 si (.string ByteArray.empty) 16 Tryz.underlying22 hi hz0 hz1 hz2 rfl _ (0 + a + 1) ([] ++ (xs.take a).map Value.string ++ [Value.string SV]) rfl hv2 _ (xs.length - a) _ ((xs.drop a).map Value.string) rfl (by simp) (by intro h; split at h <;> cases h) (HDR.out _ hb2) (strs_one _) (by unfold maxLen; omega) (by omega) hs2 ?_; intro v3 w3 hv3 hg3; have hb3 : Below wr.heap.size wr w3 := Below.grown hb2 hg3 hs2 (fun k hk => (hv2.lt k hk).1))
                    | fail "no")
                  all_goals
                    have hvR := HOWN.out v3 w3 hv3
                    have hbR := HBR.out w3 hb3
                    clear hv1 hv2 hv3 hg1 hg2 hg3 hb1 hb2 hb3
                    go_wp2_with fail
                    go_roundw
                    case rel => exact ⟨i + 1, xs.take a ++ [SV] ++ xs.drop a, by omega, by go_num, hvR, Lib.hid fun h => HNN.out h _, HRIS, HMM, HLL.out, hbR⟩
                    case measure => simp [intOf]; omega
    · have hie : i = S.length := by omega
      have HFIN : Hid (∀ x : ByteArray, x ∈ xs ↔ x.data.toList ∈ cutsG k.data.toList (m + 1)) := Lib.hid fun x => by
        rw [hmem.out x, hie, List.take_length, HC.out]
      have HRI := hris
      have hb9 := hb1.trans (t0.mono hb1s)
      have hown9 := hown.mono hb1s
      have hx9 : xs.length ≤ 4096 := by omega
      clear hmem hnil hris hown CL
      go_wp2_with fail
      go_ret
      exact ⟨_, xs, rfl, hown9, HRI.out, HFIN.out, hx9, hb9⟩
end Go.Proofs.YtlhiekeolmgilaaGreatDoor
