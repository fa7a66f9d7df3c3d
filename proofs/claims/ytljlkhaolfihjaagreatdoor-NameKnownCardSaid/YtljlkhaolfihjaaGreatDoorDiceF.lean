/- Dice: lists of names, of which some are variants of others. -/
import Derived.Test.YtljlkhaolfihjaaGreatDoorDiceC
import Derived.Deep.AppendLies
namespace Go.Proofs.YtljlkhaolfihjaaGreatDoor
open Go.RowKit

theorem infoStr : (Tryz.prog.info? 9).map (fun i => (i.zero, i.size, i.bytes)) = some (some (.string ByteArray.empty), 1, 16) := by kernel_rfl

/-- A name of at most so many letters, of one alphabet. -/
def Like (s : ByteArray) (most : Int) : Prop := 1 ≤ s.size ∧ (s.size : Int) ≤ most ∧ Letters s.data.toList

theorem own_kept {w w' : World} {base d n size : Nat} {e : TypeId} {o : Value} {xs : List Value} (h : w.ownsRow base e size o n xs) (hg : w.grownBy w' (some d)) (hd : d < base) :
    w'.ownsRow base e size o n xs := by
  refine h.kept hg (.inr ?_)
  intro he
  have := (h.lt d he).1
  omega

theorem own_str {w : World} {base n : Nat} {e : TypeId} {o : Value} {ss : List ByteArray} (h : w.ownsRow base e 1 o n (ss.map Value.string)) (k : Nat) (hk : k < ss.length) :
    ∃ g cap, o = .slice (some ⟨g, 0, none⟩) n cap ∧ w.cell? ⟨g, k, none⟩ = some (.string ss[k]) := by
  have hl := h.1
  rw [List.length_map, Nat.mul_one] at hl
  obtain ⟨g, cap, rfl, _, _⟩ := h.form (by omega)
  refine ⟨g, cap, rfl, ?_⟩
  rw [h.cellAt k (by omega), List.getElem?_map, List.getElem?_eq_getElem hk]; rfl

theorem own_form {w : World} {base n size : Nat} {e : TypeId} {o : Value} {xs : List Value} (h : w.ownsRow base e size o n xs) : ∃ A cap, o = .slice A n cap := by
  rcases h.2 with ⟨rfl, rfl⟩ | ⟨g, cap, _, rfl, _⟩
  · exact ⟨_, _, rfl⟩
  · exact ⟨_, _, rfl⟩

/-- Behind an append to a row of the call's own dice are as they were, and still nothing else has turned. -/
theorem own_append {w wl wn : World} {d n size : Nat} {e : TypeId} {o v : Value} {xs : List Value} {ob : Obj} (hown : wl.ownsRow w.heap.size e size o n xs) (hd : d < w.heap.size)
    (hg : w.grownBy wl (some d)) (hdl : Dice wl d v) (hn : (wl.alloc ob).grownBy wn o.ownBlock) : Dice wn d v ∧ w.grownBy wn (some d) := by
  have hb : Below w.heap.size wl wn := ((Below.refl _ _).alloc hg.size ob).grown hn (by simp; have := hg.size; omega) fun k hk => (hown.lt k hk).1
  refine ⟨hdl.under hb hd, hb.os.trans hg.os, hb.tape.trans hg.tape, hb.output.trans hg.output, Nat.le_trans hg.size hb.size, fun k hk hne => (hb.block k hk).trans (hg.block k hk hne)⟩

theorem own_append2 {w wl wa wn : World} {d n size : Nat} {e : TypeId} {o v : Value} {xs : List Value} (hown : wa.ownsRow w.heap.size e size o n xs) (hd : d < w.heap.size)
    (hg : w.grownBy wl (some d)) (hdl : Dice wl d v) (ha : Below wl.heap.size wl wa) (hn : wa.grownBy wn o.ownBlock) : Dice wn d v ∧ w.grownBy wn (some d) := by
  have hb : Below w.heap.size wl wn := (ha.mono hg.size).grown hn (Nat.le_trans hg.size ha.size) fun k hk => (hown.lt k hk).1
  refine ⟨hdl.under hb hd, hb.os.trans hg.os, hb.tape.trans hg.tape, hb.output.trans hg.output, Nat.le_trans hg.size hb.size, fun k hk hne => (hb.block k hk).trans (hg.block k hk hne)⟩

theorem own_drew {w : World} {base n size : Nat} {e : TypeId} {o : Value} {xs : List Value} (h : w.ownsRow base e size o n xs) : w.drew.ownsRow base e size o n xs := h
theorem cells_drew {w : World} {ad : Addr} {news : List Value} (h : ∀ j u, news[j]? = some u → w.cell? (ad.add j) = some u) : ∀ j u, news[j]? = some u → w.drew.cell? (ad.add j) = some u := h
theorem grown_drew {w w' : World} {row : Option Nat} (h : w.drew.grownBy w' row) : w.grownBy w' row := ⟨h.os, h.tape, h.output, h.size, h.block⟩

theorem mem_extract {s : ByteArray} {i j : Nat} {c : UInt8} (h : c ∈ (s.extract i j).data.toList) : c ∈ s.data.toList := by
  rw [ByteArray.data_extract, Array.toList_extract, List.extract_eq_take_drop] at h
  exact List.mem_of_mem_drop (List.mem_of_mem_take h)

theorem drop_like {s : ByteArray} {most : Int} (h : Like s most) (j : Nat) (hj : j < s.size) (h1 : 1 < s.size) : Like (s.extract 0 j ++ s.extract (j + 1) s.size) most := by
  obtain ⟨a, b, c⟩ := h
  have hs : (s.extract 0 j ++ s.extract (j + 1) s.size).size = s.size - 1 := by
    rw [ByteArray.size_append, ByteArray.size_extract, ByteArray.size_extract]; omega
  have hm : ∀ c, c ∈ (s.extract 0 j ++ s.extract (j + 1) s.size).data.toList → c ∈ s.data.toList := fun c hc => by
    rw [ByteArray.data_append, Array.toList_append] at hc
    rcases List.mem_append.1 hc with hc | hc
    · exact mem_extract hc
    · exact mem_extract hc
  refine ⟨by omega, by omega, ?_⟩
  rcases c with c | c
  · exact .inl fun x hx => c x (hm x hx)
  · exact .inr fun x hx => c x (hm x hx)

def NamesOfPost (d : Nat) (v : Value) (many most : Int) (w : World) (e : Ending) (w' : World) : Prop :=
  ∃ (o : Value) (ss : List ByteArray), e = .returned o ∧ (ss.length : Int) ≤ many ∧ w'.ownsRow w.heap.size 9 1 o ss.length (ss.map Value.string) ∧
    (∀ s, s ∈ ss → Like s most) ∧ Dice w' d v ∧ w.grownBy w' (some d)

set_option maxRecDepth 100000 in
set_option maxHeartbeats 1000000 in
theorem NamesOf_any (d : Nat) (v : Value) (many most : Int) (w : World) (h : Dice w d v) (h1 : 1 ≤ most) (h6 : most ≤ 6) (m0 : 0 ≤ many) (m1 : many ≤ 20) :
    Calls Tryz.prog 10 #[.pointer (some ⟨d, 0, none⟩), .int .i64 many, .int .i64 most] w (NamesOfPost d v many most w) := by
  obtain ⟨si, hi, hz0, hz1, hz2⟩ := info_parts infoStr
  have hdw := h.lt
  go_enter Tryz.func10, Tryz.ntmps10
  go_wp2_with fail
  refine (To_any _ _ _ _ h (by omega)).mono ?_
  rintro e W1 ⟨i0, rfl, q1, q2, q3, hd1, hg1⟩
  have q4 : i0 ≤ many := by
    by_cases h0 : 1 ≤ many
    · exact q2 h0
    · have := q3 (by omega); omega
  clear q2 q3 h
  go_wp2_with fail
  go_loopw [7, 8, 9, 10] (fun o i _ _ wr => ∃ (m : Int) (ss : List ByteArray), 0 ≤ m ∧ (ss.length : Int) + m ≤ i0 ∧ i = .int .i64 m ∧ wr.ownsRow w.heap.size 9 1 o ss.length (ss.map Value.string) ∧ (∀ s, s ∈ ss → Like s most) ∧ Dice wr d v ∧ w.grownBy wr (some d)) (fun _ i _ _ _ => (intOf i).toNat)
  case atStart => exact ⟨i0, [], by omega, by simp, rfl, World.ownsRow_nil _ _ _ _, by simp, hd1, hg1⟩
  case round =>
    obtain ⟨m, ss, r0, r1, rfl, hown, hl, hdr, hgr⟩ := hrel
    obtain ⟨A, cap, rfl⟩ := own_form hown
    have HL := Lib.hid hl
    clear hl hd1 hg1
    by_cases hm : 0 < m
    · go_wp2_with fail
      refine (NameOf_any _ _ _ _ hdr h1 h6).mono ?_
      rintro e w2 ⟨s, rfl, s1, s2, s3, hd2, hg2⟩
      have hS : Hid (Like s most) := Lib.hid ⟨s1, s2, s3⟩
      have hown2 := own_kept hown hg2 hdw
      have hgr2 := grownBy_trans hgr hg2
      clear s3 hown hgr hdr hg2
      by_cases h0 : 0 < ss.length
      · go_wp2_with fail
        refine (Once_any _ _ _ _ hd2 (by omega) (by omega)).mono ?_
        rintro e w3 ⟨x, rfl, hd3, hg3⟩
        have hown3 := own_kept hown2 hg3 hdw
        have hgr3 := grownBy_trans hgr2 hg3
        clear hd2 hg3 hown2 hgr2
        cases x
        · obtain ⟨T, rfl⟩ : ∃ T, T = s := ⟨_, rfl⟩
          obtain ⟨WL, rfl⟩ : ∃ W, W = w3 := ⟨_, rfl⟩
          have hownL := hown3
          have hgrL := hgr3
          have hdL := hd3
          clear hown3 hgr3 hd3
          have hLw := hgrL.size
          go_wp2_with (at_builtin; refine wpList_append_own _ rfl _ _ 22 rfl w.heap.size 9 si (.string ByteArray.empty) 1 16 Tryz.underlying22 hi hz0 hz1 hz2 rfl (by decide) _ _ _ rfl (hownL.alloc _) ⟨WL.heap.size, 0, none⟩ 1 1 [.string T] rfl rfl (cell_one_new _ _ _) (by simp [Value.oneCell']) (by unfold maxLen; omega) (by omega) (by simp; omega) ?_; intro v' wn hownN hgN _)
          have hgA := own_append hownL hdw hgrL hdL hgN
          go_wp2
          go_roundw
          case rel => exact ⟨m - 1, ss ++ [T], by omega, by simp; omega, rfl, by simpa using hownN, fun s hs => by
            rcases List.mem_append.1 hs with hs | hs
            · exact HL.out s hs
            · rw [List.mem_singleton.1 hs]; exact hS.out, hgA.1, hgA.2⟩
          case measure => simp [intOf]; omega
        · go_wp2_with fail
          refine (To_any _ _ _ _ hd3 (by omega)).mono ?_
          rintro e w4 ⟨x, rfl, k0, k1, k2, hd4, hg4⟩
          obtain ⟨k, rfl⟩ := Int.eq_ofNat_of_zero_le k0
          have hk : k < ss.length := by
            by_cases h3 : ss.length = 1
            · have := k2 (by omega); omega
            · have := k1 (by omega); omega
          clear k0 k1 k2
          have hown4 := own_kept hown3 hg4 hdw
          have hgr4 := grownBy_trans hgr3 hg4
          clear hd3 hg4 hown3 hgr3
          obtain ⟨g, cap', hv, hc⟩ := own_str hown4 k hk
          injection hv with hv1 hv2 hv3
          subst hv1 hv3
          have hLk := HL.out ss[k] (List.getElem_mem _)
          generalize hX : ss[k] = X at *
          have HX := Lib.hid hX
          clear hX hv2
          have x1 : 1 ≤ X.size := hLk.1
          have x6 : (X.size : Int) ≤ most := hLk.2.1
          have HLX := Lib.hid hLk
          clear hLk
          by_cases ha : 97 ≤ (X[0].toNat : Int)
          · by_cases hb : 1 < X.size
            · go_wp2_with fail
              refine (Once_any _ _ _ _ hd4 (by omega) (by omega)).mono ?_
              rintro e w5 ⟨y, rfl, hd5, hg5⟩
              have hown5 := own_kept hown4 hg5 hdw
              have hgr5 := grownBy_trans hgr4 hg5
              clear hd4 hg5 hown4 hgr4
              cases y
              · obtain ⟨T, rfl⟩ : ∃ T, T = X := ⟨_, rfl⟩
                obtain ⟨WL, rfl⟩ : ∃ W, W = w5 := ⟨_, rfl⟩
                have hownL := hown5
                have hgrL := hgr5
                have hdL := hd5
                clear hown5 hgr5 hd5
                have hLw := hgrL.size
                go_wp2_with (at_builtin; refine wpList_append_own _ rfl _ _ 22 rfl w.heap.size 9 si (.string ByteArray.empty) 1 16 Tryz.underlying22 hi hz0 hz1 hz2 rfl (by decide) _ _ _ rfl (hownL.alloc _) ⟨WL.heap.size, 0, none⟩ 1 1 [.string T] rfl rfl (cell_one_new _ _ _) (by simp [Value.oneCell']) (by unfold maxLen; omega) (by omega) (by simp; omega) ?_; intro v' wn hownN hgN _)
                have hgA := own_append hownL hdw hgrL hdL hgN
                go_wp2
                go_roundw
                case rel => exact ⟨m - 1, ss ++ [T], by omega, by simp; omega, rfl, by simpa using hownN, fun s hs => by
                  rcases List.mem_append.1 hs with hs | hs
                  · exact HL.out s hs
                  · rw [List.mem_singleton.1 hs]; exact HLX.out, hgA.1, hgA.2⟩
                case measure => simp [intOf]; omega
              · go_wp2_with fail
                refine (To_any _ _ _ _ hd5 (by omega)).mono ?_
                rintro e w6 ⟨z, rfl, z0, z1, z2, hd6, hg6⟩
                obtain ⟨j, rfl⟩ := Int.eq_ofNat_of_zero_le z0
                have hj : j < X.size := by have := z1 (by omega); omega
                clear z0 z1 z2
                have hown6 := own_kept hown5 hg6 hdw
                have hgr6 := grownBy_trans hgr5 hg6
                clear hd5 hg6 hown5 hgr5
                have j1 : IntKind.i64.wrap ((j : Int) + 1) = (j : Int) + 1 := IntWalk.i64_in _ (by omega)
                have j2 : ((j : Int) + 1).toNat = j + 1 := by omega
                have j3 : (0 : Int) ≤ (j : Int) + 1 := by omega
                have j4 : (j : Int) + 1 ≤ (X.size : Int) := by omega
                have j5 : (j : Int) ≤ (X.size : Int) := by omega
                have j6 : j ≤ X.size := by omega
                have j7 : j + 1 ≤ X.size := by omega
                go_wp2_with fail
                go_region
                have hT : Hid (Like (X.extract 0 j ++ X.extract (j + 1) X.size) most) := Lib.hid (drop_like HLX.out j hj hb)
                generalize hTT : X.extract 0 j ++ X.extract (j + 1) X.size = T at *
                clear hTT
                have hLw := hgr6.size
                go_wp2_with (at_builtin; refine wpList_append_own _ rfl _ _ 22 rfl w.heap.size 9 si (.string ByteArray.empty) 1 16 Tryz.underlying22 hi hz0 hz1 hz2 rfl (by decide) _ _ _ rfl (own_drew (hown6.alloc _)) ⟨w6.heap.size, 0, none⟩ 1 1 [.string T] rfl rfl (cells_drew (cell_one_new _ _ _)) (by simp [Value.oneCell']) (by unfold maxLen; omega) (by omega) (by simp; omega) ?_; intro v' wn hownN hgN _)
                have hgA := own_append hown6 hdw hgr6 hd6 (grown_drew hgN)
                go_wp2
                go_roundw
                case rel => exact ⟨m - 1, ss ++ [T], by omega, by simp; omega, rfl, by simpa using hownN, fun s hs => by
                  rcases List.mem_append.1 hs with hs | hs
                  · exact HL.out s hs
                  · rw [List.mem_singleton.1 hs]; exact hT.out, hgA.1, hgA.2⟩
                case measure => simp [intOf]; omega
            · obtain ⟨T, rfl⟩ : ∃ T, T = X := ⟨_, rfl⟩
              obtain ⟨WL, rfl⟩ : ∃ W, W = w4 := ⟨_, rfl⟩
              have hownL := hown4
              have hgrL := hgr4
              have hdL := hd4
              clear hown4 hgr4 hd4
              have hLw := hgrL.size
              go_wp2_with (at_builtin; refine wpList_append_own _ rfl _ _ 22 rfl w.heap.size 9 si (.string ByteArray.empty) 1 16 Tryz.underlying22 hi hz0 hz1 hz2 rfl (by decide) _ _ _ rfl (hownL.alloc _) ⟨WL.heap.size, 0, none⟩ 1 1 [.string T] rfl rfl (cell_one_new _ _ _) (by simp [Value.oneCell']) (by unfold maxLen; omega) (by omega) (by simp; omega) ?_; intro v' wn hownN hgN _)
              have hgA := own_append hownL hdw hgrL hdL hgN
              go_wp2
              go_roundw
              case rel => exact ⟨m - 1, ss ++ [T], by omega, by simp; omega, rfl, by simpa using hownN, fun s hs => by
                rcases List.mem_append.1 hs with hs | hs
                · exact HL.out s hs
                · rw [List.mem_singleton.1 hs]; exact HLX.out, hgA.1, hgA.2⟩
              case measure => simp [intOf]; omega
          · obtain ⟨T, rfl⟩ : ∃ T, T = X := ⟨_, rfl⟩
            obtain ⟨WL, rfl⟩ : ∃ W, W = w4 := ⟨_, rfl⟩
            have hownL := hown4
            have hgrL := hgr4
            have hdL := hd4
            clear hown4 hgr4 hd4
            have hLw := hgrL.size
            go_wp2_with (at_builtin; refine wpList_append_own _ rfl _ _ 22 rfl w.heap.size 9 si (.string ByteArray.empty) 1 16 Tryz.underlying22 hi hz0 hz1 hz2 rfl (by decide) _ _ _ rfl (hownL.alloc _) ⟨WL.heap.size, 0, none⟩ 1 1 [.string T] rfl rfl (cell_one_new _ _ _) (by simp [Value.oneCell']) (by unfold maxLen; omega) (by omega) (by simp; omega) ?_; intro v' wn hownN hgN _)
            have hgA := own_append hownL hdw hgrL hdL hgN
            go_wp2
            go_roundw
            case rel => exact ⟨m - 1, ss ++ [T], by omega, by simp; omega, rfl, by simpa using hownN, fun s hs => by
              rcases List.mem_append.1 hs with hs | hs
              · exact HL.out s hs
              · rw [List.mem_singleton.1 hs]; exact HLX.out, hgA.1, hgA.2⟩
            case measure => simp [intOf]; omega
      · have h00 : ss = [] := by cases ss with | nil => rfl | cons _ _ => simp at h0
        subst h00
        obtain ⟨T, rfl⟩ : ∃ T, T = s := ⟨_, rfl⟩
        obtain ⟨WL, rfl⟩ : ∃ W, W = w2 := ⟨_, rfl⟩
        have hownL := hown2
        have hgrL := hgr2
        have hdL := hd2
        clear hown2 hgr2 hd2
        have hLw := hgrL.size
        go_wp2_with (at_builtin; refine wpList_append_own _ rfl _ _ 22 rfl w.heap.size 9 si (.string ByteArray.empty) 1 16 Tryz.underlying22 hi hz0 hz1 hz2 rfl (by decide) _ _ _ rfl (hownL.alloc _) ⟨WL.heap.size, 0, none⟩ 1 1 [.string T] rfl rfl (cell_one_new _ _ _) (by simp [Value.oneCell']) (by unfold maxLen; omega) (by omega) (by simp; omega) ?_; intro v' wn hownN hgN _)
        have hgA := own_append hownL hdw hgrL hdL hgN
        go_wp2
        go_roundw
        case rel => exact ⟨m - 1, [T], by omega, by simp; omega, rfl, by simpa using hownN, fun s hs => by
          rw [List.mem_singleton.1 hs]; exact hS.out, hgA.1, hgA.2⟩
        case measure => simp [intOf]; omega
    · go_wp2
      go_ret
      exact ⟨_, ss, rfl, by omega, hown, HL.out, hdr, hgr⟩
end Go.Proofs.YtljlkhaolfihjaaGreatDoor

/- Dice: rules. -/
namespace Go.Proofs.YtljlkhaolfihjaaGreatDoor
open Go.RowKit

theorem infoRule : (Tryz.prog.info? 64).map (fun i => (i.zero, i.size, i.bytes)) = some (some (.agg #[.string ByteArray.empty, .string ByteArray.empty]), 2, 32) := by kernel_rfl

def froms : List ByteArray := [⟨#[101]⟩, ⟨#[121]⟩, ⟨#[115, 104]⟩, ⟨#[97]⟩, ⟨#[110, 110]⟩, ⟨#[116, 104]⟩, ⟨#[109]⟩]
def tos : List ByteArray := [⟨#[]⟩, ⟨#[105]⟩, ⟨#[115]⟩, ⟨#[116]⟩, ⟨#[97, 101]⟩, ⟨#[106]⟩, ⟨#[110]⟩]

/-- Rules as they lie in memory. -/
def ruleCells (rs : List (ByteArray × ByteArray)) : List Value := rs.flatMap fun r => [.string r.1, .string r.2]
theorem ruleCells_snoc (rs : List (ByteArray × ByteArray)) (a b : ByteArray) : ruleCells (rs ++ [(a, b)]) = ruleCells rs ++ [.string a, .string b] := by
  simp [ruleCells]

theorem two_new (w : World) (a b : Value) (t : TypeId) (g : Nat) (hg : g = w.heap.size) : ∀ j u, [a, b][j]? = some u → (w.alloc (.cells #[a, b] t)).cell? ((⟨g, 0, none⟩ : Addr).add j) = some u := by
  subst hg
  intro j u h
  match j, h with
  | 0, h => simp at h; subst h; simp [Addr.add]
  | 1, h => simp at h; subst h; simp [Addr.add]
  | j + 2, h => simp at h

def RulesOfPost (d : Nat) (v : Value) (many : Int) (w : World) (e : Ending) (w' : World) : Prop :=
  ∃ (o : Value) (rs : List (ByteArray × ByteArray)), e = .returned o ∧ (rs.length : Int) ≤ many ∧ w'.ownsRow w.heap.size 64 2 o rs.length (ruleCells rs) ∧
    (∀ r, r ∈ rs → r.1 ∈ froms ∧ r.2 ∈ tos) ∧ Dice w' d v ∧ w.grownBy w' (some d)

end Go.Proofs.YtljlkhaolfihjaaGreatDoor
