/- The first abbreviation that is good. -/
import Derived.Test.YtljlkhaolfihjaaGreatDoorPgO
import Derived.Scope
import Derived.RangeFuncCalls
namespace Go.Proofs.YtljlkhaolfihjaaGreatDoor
open Go.RowKit Go.Shelf

attribute [local go_sem] Oper.semAt_some

/-- A loop whose rounds are counted down. -/
theorem loop_act {F : Fence} {n : Nat} {P : Program} {c : Code} {Q : Exit → Act → World → Prop} (I : Nat → Act → World → Prop)
    (hs : ∀ r a w, I r a w → c.wpIn F n P (Exit.then (fun a' w' => ∃ r', r = r' + 1 ∧ I r' a' w') Q) a w) (r : Nat) (a : Act) (w : World) (h : I r a w) : (Code.loop c).wpIn F n P Q a w := by
  refine wpIn_loop_rounds (r + 1) ?_
  induction r generalizing a w with
  | zero =>
    refine wpIn_mono (hs 0 a w h) ?_
    intro e a' w' hq
    cases e <;> first | exact hq | (obtain ⟨r', h1, _⟩ := hq; omega)
  | succ r ih =>
    refine wpIn_mono (hs (r + 1) a w h) ?_
    intro e a' w' hq
    cases e <;> first | exact hq | (obtain ⟨r', h1, h2⟩ := hq; cases h1; exact ih a' w' h2)

def marks (Ds : List Nat) : List Deferred := Ds.map fun D => { target := .collected D, args := #[] }
/-- The marks of ranges that are over go away. -/
theorem leaves_marks {F : Fence} {n : Nat} {P : Program} {fn : Func} {tm : Array Value} {R : Ending → World → Prop} : ∀ (Ds : List Nat) (W : World), Ds.Nodup → (∀ D, D ∈ Ds → W.heap[D]? = some (.deferred (some []))) →
    (∀ W', W'.os = W.os → W'.tape = W.tape → W'.output = W.output → W'.heap.size = W.heap.size → (∀ k, k ∉ Ds → W'.heap[k]? = W.heap[k]?) → LeavesInM F n P fn tm R [] .returning W') → LeavesInM F n P fn tm R (marks Ds) .returning W
  | [], W, _, _, h => h W rfl rfl rfl rfl (fun _ _ => rfl)
  | D :: Ds, W, hn, hd, h => by
    have hg := grownBy_putObj' W D (.deferred none)
    have hnd := List.nodup_cons.1 hn
    refine ⟨by simp, .inl ⟨D, _, rfl, run_takeDeferred (hd D (by simp)), ?_⟩⟩
    refine leaves_marks Ds _ hnd.2 (fun E hE => ?_) (fun W' h1 h2 h3 h4 h5 => ?_)
    · have hE2 := hd E (by simp [hE])
      exact (hg.block E (Array.getElem?_eq_some_iff.1 hE2).1 (fun e => by injection e with e; subst e; exact hnd.1 hE)).trans hE2
    · refine h W' h1 h2 h3 (h4.trans (by simp [World.putObj])) (fun k hk => ?_)
      rw [h5 k (fun e => hk (by simp [e]))]
      exact World.putObj_heap_other (fun e => hk (by simp [e]))

structure FirI (w : World) (V : Value) (Ds : List Nat) (s : ByteArray) (b : Bool) (W : World) : Prop where
  v : W.heap[w.heap.size]? = some (.cells #[V] 116 (0, 0))
  r1 : W.heap[w.heap.size + 1]? = some (.cells #[.string s] 82 (0, 0))
  r2 : W.heap[w.heap.size + 2]? = some (.cells #[.bool b] 4 (0, 0))
  below : Below w.heap.size w W
  nd : Ds.Nodup
  lt : ∀ D, D ∈ Ds → w.heap.size + 3 ≤ D ∧ D < W.heap.size
  ds : ∀ D, D ∈ Ds → W.heap[D]? = some (.deferred (some []))

theorem FirI.own {w : World} {V : Value} {Ds : List Nat} {s : ByteArray} {b : Bool} {A C : World} {row : Option Nat} {base : Nat} (hs : FirI w V Ds s b A) (hbs : w.heap.size ≤ base) (hD : ∀ D, D ∈ Ds → D < base) (hg : A.grownBy C row) (hr : ∀ r, row = some r → base ≤ r ∧ ∃ o : Obj, A.heap[r]? = some o ∧ o.isCells = false) : FirI w V Ds s b C := by
  have hr2 : ∀ r, row = some r → ∃ o : Obj, A.heap[r]? = some o ∧ o.isCells = false := fun r e => (hr r e).2
  refine ⟨cells_turn hs.v hg hr2, cells_turn hs.r1 hg hr2, cells_turn hs.r2 hg hr2, hs.below.grown hg hs.below.size (fun k e => Nat.le_trans hbs (hr k e).1), hs.nd, fun D h => ⟨(hs.lt D h).1, Nat.lt_of_lt_of_le (hs.lt D h).2 hg.size⟩, fun D h => ?_⟩
  have hd := hs.ds D h
  exact (hg.block D (Array.getElem?_eq_some_iff.1 hd).1 (fun e => by have := (hr D e.symm).1; have := hD D h; omega)).trans hd

theorem FirI.on {w : World} {V : Value} {Ds : List Nat} {s : ByteArray} {b : Bool} {A C : World} (hs : FirI w V Ds s b A) (hb : Below A.heap.size A C) : FirI w V Ds s b C :=
  ⟨(hb.block _ (Array.getElem?_eq_some_iff.1 hs.v).1).trans hs.v, (hb.block _ (Array.getElem?_eq_some_iff.1 hs.r1).1).trans hs.r1, (hb.block _ (Array.getElem?_eq_some_iff.1 hs.r2).1).trans hs.r2, hs.below.trans (hb.mono hs.below.size), hs.nd,
    fun D h => ⟨(hs.lt D h).1, Nat.lt_of_lt_of_le (hs.lt D h).2 hb.size⟩, fun D h => (hb.block _ (Array.getElem?_eq_some_iff.1 (hs.ds D h)).1).trans (hs.ds D h)⟩
theorem FirI.lt3 {w : World} {V : Value} {Ds : List Nat} {s : ByteArray} {b : Bool} {A : World} (hs : FirI w V Ds s b A) : w.heap.size + 3 ≤ A.heap.size := by
  have := (Array.getElem?_eq_some_iff.1 hs.r2).1
  omega
theorem FirI.set {w : World} {V : Value} {Ds : List Nat} {s : ByteArray} {b : Bool} {W : World} (h : FirI w V Ds s b W) (u1 : ByteArray) (u2 : Bool) :
    FirI w V Ds u1 u2 ((W.setCell ⟨w.heap.size + 1, 0, none⟩ (.string u1)).setCell ⟨w.heap.size + 2, 0, none⟩ (.bool u2)) := by
  have k1 := (Below.heap_setCell W ⟨w.heap.size + 1, 0, none⟩ (.string u1) (w.heap.size + 2) (by simp)).trans h.r2
  refine ⟨(Below.heap_setCell _ _ _ _ (by simp)).trans ((Below.heap_setCell _ _ _ _ (by simp)).trans h.v), (Below.heap_setCell _ _ _ _ (by simp)).trans (Boxed.set _ h.r1), Boxed.set _ k1, (h.below.setCell (by simp) _).setCell (by simp) _, h.nd, fun D hD => ?_, fun D hD => ?_⟩
  · have := h.lt D hD
    simpa [World.setCell] using this
  · have := h.lt D hD
    exact (Below.heap_setCell _ _ _ _ (by simp; omega)).trans ((Below.heap_setCell _ _ _ _ (by simp; omega)).trans (h.ds D hD))
theorem FirI.more {w : World} {V : Value} {Ds : List Nat} {s : ByteArray} {b : Bool} {W : World} {D : Nat} (h : FirI w V Ds s b W) (hK : W.heap[D]? = some (.deferred (some []))) (h3 : w.heap.size + 3 ≤ D) (hD : ∀ E, E ∈ Ds → E < D) : FirI w V (D :: Ds) s b W :=
  ⟨h.v, h.r1, h.r2, h.below, List.nodup_cons.2 ⟨fun e => by have := hD D e; omega, h.nd⟩, fun E hE => by
    rcases List.mem_cons.1 hE with rfl | hE
    · exact ⟨h3, (Array.getElem?_eq_some_iff.1 hK).1⟩
    · exact h.lt E hE, fun E hE => by
    rcases List.mem_cons.1 hE with rfl | hE
    · exact hK
    · exact h.ds E hE⟩
theorem packL_find (p : List UInt8 → Bool) (L : List (List UInt8)) : (packL L).find? (fun x => p x.data.toList) = (L.find? p).map fun x => ⟨x.toArray⟩ := by
  unfold packL
  rw [List.find?_map]
  rfl

/-- Sequences of abbreviations of one key as they lie in memory. -/
def SeqsAt (w : World) (A : Option Addr) (k : ByteArray) (ns : List Nat) : Prop :=
  ∀ (i : Nat) (h : i < ns.length), ∃ b off Bn Bk : Nat, A = some ⟨b, off, none⟩ ∧ w.cell? ⟨b, off + i, none⟩ = some (.func (.func 103) #[] #[.pointer (some ⟨Bn, 0, none⟩), .pointer (some ⟨Bk, 0, none⟩)]) ∧
    w.heap[Bn]? = some (.cells #[.int .i64 (ns[i] : Nat)] 3 (0, 0)) ∧ w.cell? ⟨Bk, 0, none⟩ = some (.string k)

def goodV (key : ByteArray) (A : Option Addr) (n c : Nat) : Value := .func (.func 107) #[.agg #[.string key, .slice A n c]] #[]
def FirstPost (os : List (List UInt8)) (k : ByteArray) (ns : List Nat) (w : World) (e : Ending) (w' : World) : Prop :=
  ∃ (s : ByteArray) (b : Bool), e = .returned (.tuple #[.string s, .bool b]) ∧ s.size ≤ 12 ∧ (b = true → ((ns.map (cutsG k.data.toList)).flatten).find? (fineG os) = some s.data.toList) ∧ (b = false → s = ⟨#[]⟩ ∧ ((ns.map (cutsG k.data.toList)).flatten).find? (fineG os) = Option.none) ∧ Below w.heap.size w w'

def valsL (xs : List KL) : List ByteArray := xs.map (·.1)
theorem valsL_snoc (xs : List KL) (x : KL) : valsL (xs ++ [x]) = valsL xs ++ [x.1] := by unfold valsL; rw [List.map_append]; rfl
def doneG (k : ByteArray) (ns : List Nat) (j : Nat) : List (List UInt8) := ((ns.take j).map (cutsG k.data.toList)).flatten
/-- What holds between two rounds over the sequences. -/
def FirR (w : World) (A : Option Addr) (n c : Nat) (V : Value) (k : ByteArray) (ns : List Nat) (os : List (List UInt8)) (r : Nat) (a : Act) (W : World) : Prop :=
  ∃ (j : Nat) (Ds : List Nat) (u6 u7 u8 u12 u13 u14 u15 u16 u17 u18 u19 u20 u21 u22 u23 : Value), r + j = n ∧
    a = { tmps := #[V, .slice A n c, .pointer (some ⟨w.heap.size, 0, none⟩), undef, .pointer (some ⟨w.heap.size + 1, 0, none⟩), .pointer (some ⟨w.heap.size + 2, 0, none⟩), u6, u7, u8, .slice A n c, .int .i64 n, .int .i64 j, u12, u13, u14, u15, u16, u17, u18, u19, u20, u21, u22, u23], defers := marks Ds } ∧
    FirI w V Ds ⟨#[]⟩ false W ∧ (doneG k ns j).find? (fineG os) = Option.none

theorem first_end {os : List (List UInt8)} {k : ByteArray} {ns : List Nat} {w W : World} {V : Value} {Ds : List Nat} {s : ByteArray} {b : Bool} (h : FirI w V Ds s b W) (tm : Array Value) (h4 : tm.getD 4 undef = .pointer (some ⟨w.heap.size + 1, 0, none⟩)) (h5 : tm.getD 5 undef = .pointer (some ⟨w.heap.size + 2, 0, none⟩))
    (q0 : s.size ≤ 12) (q1 : b = true → ((ns.map (cutsG k.data.toList)).flatten).find? (fineG os) = some s.data.toList) (q2 : b = false → s = ⟨#[]⟩ ∧ ((ns.map (cutsG k.data.toList)).flatten).find? (fineG os) = Option.none) :
    LeavesInM Fence.wide 10 Tryz.prog Tryz.f106 tm (FirstPost os k ns w) (marks Ds) .returning W := by
  refine leaves_marks Ds W h.nd h.ds (fun W' e1 e2 e3 e4 e5 => ?_)
  have a1 := (cells_at ((e5 (w.heap.size + 1) (fun hD => by have := (h.lt _ hD).1; omega)).trans h.r1)).1
  have a2 := (cells_at ((e5 (w.heap.size + 2) (fun hD => by have := (h.lt _ hD).1; omega)).trans h.r2)).1
  have h4' : tm[4]?.getD undef = .pointer (some ⟨w.heap.size + 1, 0, none⟩) := by simpa using h4
  have h5' : tm[5]?.getD undef = .pointer (some ⟨w.heap.size + 2, 0, none⟩) := by simpa using h5
  exact ⟨.tuple #[.string s, .bool b], by simp [results, Tryz.results106, go_sem, h4', h5', a1, a2], s, b, rfl, q0, q1, q2,
    ⟨e1.trans h.below.os, e2.trans h.below.tape, e3.trans h.below.output, by rw [e4]; exact h.below.size, fun k hk => (e5 k (fun hD => by have := (h.lt _ hD).1; omega)).trans (h.below.block k hk)⟩⟩

set_option maxRecDepth 100000 in
set_option maxHeartbeats 4000000 in
theorem first_any (A A2 : Option Addr) (n c n2 c2 : Nat) (key k : ByteArray) (ns : List Nat) (os : List ByteArray) (w : World) (hn : n = ns.length) (hn12 : n ≤ 12) (hns : ∀ m, m ∈ ns → 1 ≤ m ∧ m ≤ 12) (h1 : 1 ≤ k.size) (h12 : k.size ≤ 12) (ha : Asc k)
    (hs : SeqsAt w A k ns) (hn2 : n2 = os.length) (hnb2 : n2 ≤ 1000) (ho : ∀ o, o ∈ os → o.size ≤ 1000) (hx : Cells w A2 (os.map Value.string)) :
    Calls Tryz.prog 106 #[goodV key A2 n2 c2, .slice A n c] w (FirstPost (os.map fun o => o.data.toList) k ns w) := by
  have HN := Lib.hid hn
  have HNS := Lib.hid hns
  have HA := Lib.hid ha
  have HSQ := Lib.hid hs
  have QU := Lib.hid (fun (x : ByteArray) W (hx1 : (1 ≤ x.size ∧ x.size ≤ 12) ∧ Asc x) (hW : Below w.heap.size w W) => unmistaken_any A2 n2 c2 os key x W hn2 hnb2 hx1.1.1 (by have := hx1.1.2; omega) hx1.2 ho (hx.below hW))
  generalize (os.map fun o => o.data.toList) = oss at *
  have hbV : Below w.heap.size w (((w.alloc (.cells #[goodV key A2 n2 c2] 116)).alloc (.cells #[.string ⟨#[]⟩] 82)).alloc (.cells #[.bool false] 4)) := (((Below.refl _ w).alloc (Nat.le_refl _) _).alloc (by simp) _).alloc (by simp; omega) _
  have hF0 : FirI w (goodV key A2 n2 c2) [] ⟨#[]⟩ false (((w.alloc (.cells #[goodV key A2 n2 c2] 116)).alloc (.cells #[.string ⟨#[]⟩] 82)).alloc (.cells #[.bool false] 4)) := by
    refine ⟨?_, ?_, ?_, hbV, List.nodup_nil, fun D h => by simp at h, fun D h => by simp at h⟩
    · exact (Below.heap_alloc _ _ _ (by simp; omega)).trans ((Below.heap_alloc _ _ _ (by simp)).trans (heap_alloc_new w _))
    · refine (Below.heap_alloc _ _ _ (by simp)).trans ?_
      have := heap_alloc_new (w.alloc (.cells #[goodV key A2 n2 c2] 116)) (.cells #[.string ⟨#[]⟩] 82)
      rwa [World.size_alloc] at this
    · have := heap_alloc_new ((w.alloc (.cells #[goodV key A2 n2 c2] 116)).alloc (.cells #[.string ⟨#[]⟩] 82)) (.cells #[.bool false] 4)
      rwa [World.size_alloc, World.size_alloc] at this
  have HF0 := Lib.hid hF0
  clear hn hns ha hs ho hx hF0 hbV hn2
  have hgv : goodV key A2 n2 c2 = .func (.func 107) #[.agg #[.string key, .slice A2 n2 c2]] #[] := rfl
  refine (callsIn_wide (n := 10)).1 (callsIn_of_wp_marks Tryz.func106 rfl trivial ?_ rfl)
  simp only [Tryz.ntmps106, List.size_toArray, List.length_cons, List.length_nil, Nat.reduceAdd, Nat.reduceSub, Array.replicate_succ, Array.replicate_zero, List.push_toArray, List.append_toArray, List.nil_append, List.cons_append]
  gi_wp2_with (fail)
  refine (wpIn_wide (n := 10)).2 (wp_scope_straight ((wpIn_wide (n := 10)).1 ?_))
  refine wpIn_seq (wpIn_label ?_)
  gi_wp2_with (fail)
  refine loop_act (FirR w A n c (goodV key A2 n2 c2) k ns oss) ?_ n _ _ ?_
  rotate_left
  · exact ⟨0, [], undef, undef, undef, undef, undef, undef, undef, undef, undef, undef, undef, undef, undef, undef, undef, by omega, rfl, HF0.out, rfl⟩
  · rintro r a W ⟨j, Ds, u6, u7, u8, u12, u13, u14, u15, u16, u17, u18, u19, u20, u21, u22, u23, hrj, rfl, hI, hno⟩
    have hj0 : (0 : Int) ≤ (j : Int) := by omega
    by_cases hlt : j < n
    · have hjs : j < ns.length := by rw [← HN.out]; exact hlt
      obtain ⟨b, off, Bn, Bk, rfl, c1, hBn, c2⟩ := HSQ.out j hjs
      have hlti : (j : Int) < (n : Int) := by omega
      have d1 := (hI.below.cell (World.block_lt_of_cell? w _ c1)).trans c1
      have d2 := (hI.below.cell (p := ⟨Bk, 0, none⟩) (World.block_lt_of_cell? w _ c2)).trans c2
      have d3 := (hI.below.block _ (Array.getElem?_eq_some_iff.1 hBn).1).trans hBn
      obtain ⟨m1, m12⟩ := HNS.out _ (List.getElem_mem hjs)
      have hdn : doneG k ns (j + 1) = doneG k ns j ++ cutsG k.data.toList ns[j] := by
        unfold doneG
        rw [List.take_succ_eq_append_getElem hjs, List.map_append, List.flatten_append]; simp
      have hdp : doneG k ns (j + 1) <+: (ns.map (cutsG k.data.toList)).flatten := by
        unfold doneG
        conv => rhs; rw [← List.take_append_drop (j + 1) ns, List.map_append, List.flatten_append]
        exact List.prefix_append _ _
      generalize ns[j] = m at *
      have HI := Lib.hid hI
      have HDN := Lib.hid hdn
      have HDP := Lib.hid hdp
      have HNO := Lib.hid hno
      have HD2 := Lib.hid d2
      have HD3 := Lib.hid d3
      clear hI hdn hdp hno c1 hBn c2 d2 d3
      gi_wp2_with (fail)
      refine wpIn_rangeFunc_ownG (α := KL) rfl (by decide) (gf := 103) (lb := #[.pointer (some ⟨Bn, 0, none⟩), .pointer (some ⟨Bk, 0, none⟩)]) rfl trivial (enters_of Tryz.func103 (by kernel_rfl) rfl)
        (cuts_stops _ m Bn Bk w.heap.size [] k W h1 h12 HA.out m1 m12 HD3.out HD2.out HI.out.below.size (fun b hb' => by simp at hb'))
        KpX.trans (fun W1 l o o' hl h ho _ => KpX.putObj (B := W.heap.size) HI.out.below.size (fun b hb' => by simp at hb') W1 l o o' hl h ho) (Below.refl _ _) (fun _ => rfl)
        (fun (xs : List KL) W1 => FirI w (goodV key A2 n2 c2) Ds ⟨#[]⟩ false W1 ∧ (valsL xs).find? (fun x => fineG oss x.data.toList) = Option.none ∧ W.heap.size ≤ W1.heap.size)
        (fun cd (xs : List KL) W1 => cd = .exit 0 ∧ ∃ s, s.size ≤ 12 ∧ FirI w (goodV key A2 n2 c2) Ds s true W1 ∧ (valsL xs).find? (fun x => fineG oss x.data.toList) = some s ∧ W.heap.size ≤ W1.heap.size)
        (fun (xs : List KL) A C row (hs : _ ∧ _) hg hr => ⟨FirI.own hs.1 HI.out.below.size (fun D h => (HI.out.lt D h).2) hg hr, hs.2.1, Nat.le_trans hs.2.2 hg.size⟩)
        (fun cd (xs : List KL) A C row (hs : _ ∧ _) hg hr => ⟨hs.1, by obtain ⟨s, q0, q1, q2, q3⟩ := hs.2; exact ⟨s, q0, q1.own HI.out.below.size (fun D h => (HI.out.lt D h).2) hg hr, q2, Nat.le_trans q3 hg.size⟩⟩)
        ⟨HI.out, rfl, Nat.le_refl _⟩ ?frame1 ?assign ?body ?done ?stop
      case assign =>
        intro l x W1 K hK
        gi_wp2
        exact hK
      case body =>
        rintro l pre x W1 ⟨hI1, hno1, hsz1⟩ hlt1
        obtain ⟨v0, _⟩ := cells_at hI1.v
        rw [hgv] at v0
        have q := QU.out x.1 W1 x.2 hI1.below
        obtain ⟨a1, a2⟩ := cells_at hI1.r1
        obtain ⟨b1, b2⟩ := cells_at hI1.r2
        cases hfx : fineG oss x.1.data.toList with
        | false =>
          rw [hfx] at q
          have Q := Lib.hid q
          have HI1 := Lib.hid hI1
          clear q hI1 a1 a2 b1 b2
          gi_wp2_with (fail)
          refine ⟨trivial, ?_⟩
          refine (CallsIn.inRound _ (callsIn_wide.2 Q.out)).mono ?_
          rintro e W2 ⟨rfl, hb2⟩
          gi_wp2_with (fail)
          refine ⟨KeepsFrom.of_grownBy (below_grown hb2) (fun j e => by cases e), KpX.of_below hb2 HI1.out.below.size (fun b hb' => by simp at hb'), HI1.out.on hb2, ?_, Nat.le_trans hsz1 hb2.size⟩
          rw [valsL_snoc, List.find?_append, hno1]
          simp [hfx]
        | true =>
          rw [hfx] at q
          have Q := Lib.hid q
          have HI1 := Lib.hid hI1
          clear q hI1 a1 a2 b1 b2
          gi_wp2_with (fail)
          refine ⟨trivial, ?_⟩
          refine (CallsIn.inRound _ (callsIn_wide.2 Q.out)).mono ?_
          rintro e W2 ⟨rfl, hb2⟩
          have hI2 := HI1.out.on hb2
          obtain ⟨a1, a2⟩ := cells_at hI2.r1
          obtain ⟨b1, b2⟩ := cells_at hI2.r2
          have HI2 := Lib.hid hI2
          clear hI2
          gi_wp2_with (fail)
          refine ⟨(KeepsFrom.of_grownBy (below_grown hb2) (fun j e => by cases e)).trans (((KeepsOthers.setCell W2 _ _).trans (KeepsOthers.setCell _ _ _)).from _), rfl, x.1, x.2.1.2, HI2.out.set x.1 true, ?_, ?_⟩
          · rw [valsL_snoc, List.find?_append, hno1]
            simp [hfx]
          · have := hb2.size
            simp [World.setCell]
            omega
      case done =>
        rintro D xs W1 hD hxs ⟨hI1, hno1, hsz1⟩ hK
        have hx2 : valsL xs = packL (cutsG k.data.toList m) := hxs
        rw [hx2] at hno1
        have hno2 : (doneG k ns (j + 1)).find? (fineG oss) = Option.none := by
          rw [HDN.out, List.find?_append, HNO.out]
          simpa [packL_find] using hno1
        have hI3 := hI1.more hK (Nat.le_trans HI.out.below.size hD |> fun h => by have := HI.out.lt3; omega) (fun E hE => by have := (HI.out.lt E hE).2; omega)
        have HI3 := Lib.hid hI3
        have HNO2 := Lib.hid hno2
        clear hI1 hno1 hxs hx2 hno2 hI3 hK
        gi_wp2_with (fail)
        exact ⟨r - 1, by omega, j + 1, D :: Ds, _, _, _, _, _, _, _, _, _, _, _, _, _, _, _, by omega, rfl, HI3.out, HNO2.out⟩
      case stop =>
        rintro D cd pre W1 hD hpre ⟨rfl, s, hs12, hI1, hfd, hsz1⟩ hK
        have hx2 : valsL pre <+: packL (cutsG k.data.toList m) := hpre
        have hf2 : ((ns.map (cutsG k.data.toList)).flatten).find? (fineG oss) = some s.data.toList := by
          obtain ⟨t1, ht1⟩ := HDP.out
          obtain ⟨t2, ht2⟩ := hx2
          have h3 : (packL (cutsG k.data.toList m)).find? (fun x => fineG oss x.data.toList) = some s := by
            rw [← ht2, List.find?_append, hfd]; rfl
          rw [packL_find] at h3
          cases hc : (cutsG k.data.toList m).find? (fineG oss) with
          | none => rw [hc] at h3; cases h3
          | some y =>
            rw [hc] at h3
            injection h3 with h3
            rw [← ht1, List.find?_append, HDN.out, List.find?_append, HNO.out, hc, ← h3]
            rfl
        have hI3 := hI1.more hK (Nat.le_trans HI.out.below.size hD |> fun h => by have := HI.out.lt3; omega) (fun E hE => by have := (HI.out.lt E hE).2; omega)
        have HI3 := Lib.hid hI3
        have HF2 := Lib.hid hf2
        obtain ⟨a1, a2⟩ := cells_at hI1.r1
        obtain ⟨b1, b2⟩ := cells_at hI1.r2
        clear hI1 hpre hx2 hfd hf2 hI3 hK
        gi_wp2_with (fail)
        refine (wpIn_wide (n := 10)).2 ?_
        go_region
        gi_wp2_with (fail)
        exact first_end (Ds := D :: Ds) ((HI3.out.set s true).on (drewB _ _)) _ rfl rfl hs12 (fun _ => HF2.out) (fun h => by cases h)
    · have hlti : ¬ ((j : Int) < (n : Int)) := by omega
      have hf2 : ((ns.map (cutsG k.data.toList)).flatten).find? (fineG oss) = Option.none := by
        have e : doneG k ns j = (ns.map (cutsG k.data.toList)).flatten := by unfold doneG; rw [List.take_of_length_le (by rw [← HN.out]; omega)]
        rw [← e]; exact hno
      obtain ⟨a1, a2⟩ := cells_at hI.r1
      obtain ⟨b1, b2⟩ := cells_at hI.r2
      have HI := Lib.hid hI
      have HF2 := Lib.hid hf2
      clear hI hno hf2
      gi_wp2_with (fail)
      refine (wpIn_wide (n := 10)).2 ?_
      go_region
      gi_wp2_with (fail)
      exact first_end (Ds := Ds) ((HI.out.set ⟨#[]⟩ false).on (drewB _ _)) _ rfl rfl (by decide) (fun h => by cases h) (fun _ => ⟨rfl, HF2.out⟩)
end Go.Proofs.YtljlkhaolfihjaaGreatDoor
