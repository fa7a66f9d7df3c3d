/- What goes through the abbreviations of a key. -/
import Derived.Test.YtljlkhaolfihjaaGreatDoorPgN
import Derived.Laws.EntriesVeiled
namespace Go.Proofs.YtljlkhaolfihjaaGreatDoor
open Go.RowKit Go.Shelf

theorem cuts_any (k : ByteArray) (nn : Nat) (w : World) : Calls Tryz.prog 73 #[.string k, .int .i64 nn] w fun e w' =>
    e = .returned (.func (.func 103) #[] #[.pointer (some ⟨w.heap.size + 1, 0, none⟩), .pointer (some ⟨w.heap.size, 0, none⟩)]) ∧ w' = (w.alloc (.cells #[.string k] 82)).alloc (.cells #[.int .i64 nn] 3) := by
  go_enter Tryz.func73, Tryz.ntmps73
  go_wp2_with fail
  go_ret
  exact ⟨rfl, rfl⟩

theorem ext_take1 (s : ByteArray) (_h : 1 ≤ s.size) : (s.extract 0 1).data.toList = s.data.toList.take 1 := by
  rw [ByteArray.data_extract, Array.toList_extract, List.extract_eq_take_drop]
  simp

set_option maxRecDepth 100000 in
set_option maxHeartbeats 1600000 in
theorem cuts1_any (l nn Bn Bk n₀ N : Nat) (Bs : List Nat) (k : ByteArray) (J Jx : List ByteArray → World → Prop) (hY : GrowY n₀ N l Bs J Jx) (hJw : ∀ pre A C, J pre A → Below A.heap.size A C → J pre C) (h1 : 1 ≤ k.size) (h12 : k.size ≤ 12) (ha : Asc k) (hn1 : 1 ≤ nn) (hn12 : nn ≤ 12)
    (W : World) (hBn : W.heap[Bn]? = some (.cells #[.int .i64 nn] 3 (0, 0))) (hBk : W.cell? ⟨Bk, 0, none⟩ = some (.string k)) (hJ : J [] W) (hN : (cutsG k.data.toList nn).length ≤ N) (hn0 : n₀ ≤ W.heap.size) (hBs : ∀ b, b ∈ Bs → b < W.heap.size) :
    Calls Tryz.prog 103 #[.func (.yield l) #[] #[], .pointer (some ⟨Bn, 0, none⟩), .pointer (some ⟨Bk, 0, none⟩)] W fun e W' => (∃ v, e = .returned v) ∧ (J (packL (cutsG k.data.toList nn)) W' ∨ ∃ q, q <+: packL (cutsG k.data.toList nn) ∧ Jx q W') := by
  obtain ⟨n0, _⟩ := cells_at hBn
  have hbW : Below W.heap.size W ((W.alloc (.cells #[.func (.yield l) #[] #[]] 116)).alloc (.cells #[.func (.func 104) #[] #[.pointer (some ⟨Bn, 0, none⟩), .pointer (some ⟨W.heap.size, 0, none⟩), .pointer (some ⟨W.heap.size + 1, 0, none⟩)]] 159)) :=
    ((Below.refl _ _).alloc (Nat.le_refl _) _).alloc (by simp) _
  have hcw : CutW Bn W.heap.size (W.heap.size + 1) l nn ((W.alloc (.cells #[.func (.yield l) #[] #[]] 116)).alloc (.cells #[.func (.func 104) #[] #[.pointer (some ⟨Bn, 0, none⟩), .pointer (some ⟨W.heap.size, 0, none⟩), .pointer (some ⟨W.heap.size + 1, 0, none⟩)]] 159)) := by
    refine ⟨(hbW.block _ (Array.getElem?_eq_some_iff.1 hBn).1).trans hBn, (Below.heap_alloc _ _ _ (by simp)).trans (heap_alloc_new W _), ?_⟩
    have := heap_alloc_new (W.alloc (.cells #[.func (.yield l) #[] #[]] 116)) (.cells #[.func (.func 104) #[] #[.pointer (some ⟨Bn, 0, none⟩), .pointer (some ⟨W.heap.size, 0, none⟩), .pointer (some ⟨W.heap.size + 1, 0, none⟩)]] 159)
    rwa [World.size_alloc] at this
  have hv0 := heap_alloc_new (W.alloc (.cells #[.func (.yield l) #[] #[]] 116)) (.cells #[.nilFunc] 159)
  rw [World.size_alloc] at hv0
  obtain ⟨v0, v1⟩ := cells_at hv0
  obtain ⟨m0, _⟩ := cells_at hcw.n
  obtain ⟨m1, _⟩ := cells_at hcw.g
  have m2 := (hbW.cell (p := ⟨Bk, 0, none⟩) (World.block_lt_of_cell? W _ hBk)).trans hBk
  clear n0 hv0 v0 v1
  have HCW := Lib.hid hcw
  have HBW := Lib.hid hbW
  have HJ := Lib.hid (hJw _ _ _ hJ hbW)
  have HS := Lib.hid (size_list k)
  by_cases hlt : nn < k.size
  · have ec : cutsG k.data.toList nn = growG (nn - 1) (k.data.toList.take 1) (k.data.toList.drop 1) := by
      unfold cutsG; rw [if_pos (by rw [HS.out]; exact hlt)]
    rw [ec] at hN ⊢
    clear hcw hJ hbW
    have hnlt : (nn : Int) < (k.size : Int) := by omega
    have hk1 : (1 : Int) ≤ (k.size : Int) := by omega
    have e1 := ext_take1 k h1
    have e2 := ext_drop k 1
    have q : ∀ V : World, V = (((W.alloc (.cells #[.func (.yield l) #[] #[]] 116)).alloc (.cells #[.func (.func 104) #[] #[.pointer (some ⟨Bn, 0, none⟩), .pointer (some ⟨W.heap.size, 0, none⟩), .pointer (some ⟨W.heap.size + 1, 0, none⟩)]] 159))).drew →
        Calls Tryz.prog 104 #[.string (k.extract 0 1), .string (k.extract 1 k.size), .pointer (some ⟨Bn, 0, none⟩), .pointer (some ⟨W.heap.size, 0, none⟩), .pointer (some ⟨W.heap.size + 1, 0, none⟩)] V
        (GrowPost n₀ Bs J Jx [] (growG (nn - 1) (k.data.toList.take 1) (k.data.toList.drop 1)) V) := by
      rintro V rfl
      have q := grow_any l nn Bn W.heap.size (W.heap.size + 1) n₀ N Bs J Jx hY hJw hn12 (nn - 1) (k.extract 0 1) (k.extract 1 k.size) [] (by rw [ByteArray.size_extract]; omega) (by rw [ByteArray.size_extract]; omega) (by rw [ByteArray.size_extract]; omega)
        (by unfold Asc; rw [e1]; exact fun b hb => ha b (List.mem_of_mem_take hb)) (by unfold Asc; rw [e2]; exact fun b hb => ha b (List.mem_of_mem_drop hb)) (W := (((W.alloc (.cells #[.func (.yield l) #[] #[]] 116)).alloc (.cells #[.func (.func 104) #[] #[.pointer (some ⟨Bn, 0, none⟩), .pointer (some ⟨W.heap.size, 0, none⟩), .pointer (some ⟨W.heap.size + 1, 0, none⟩)]] 159))).drew)
        ⟨HCW.out.n, HCW.out.y, HCW.out.g⟩ (hJw _ _ _ HJ.out (drewB _ _)) (by rw [e1, e2]; simpa using hN) (Nat.le_trans hn0 HBW.out.size) (fun b hb => Nat.lt_of_lt_of_le (hBs b hb) HBW.out.size)
      rw [e1, e2] at q
      exact q
    have Q := Lib.hid q
    clear q e1 e2 hN hJw hY
    go_enter Tryz.func103, Tryz.ntmps103
    go_wp2_with fail
    generalize (W.alloc (.cells #[.func (.yield l) #[] #[]] 116)).alloc (.cells #[.func (.func 104) #[] #[.pointer (some ⟨Bn, 0, none⟩), .pointer (some ⟨W.heap.size, 0, none⟩), .pointer (some ⟨W.heap.size + 1, 0, none⟩)]] 159) = V at *
    go_still_tail 5, (by kernel_rfl)
    change wpList _ _ _ _ _ V.drew
    go_wp2_with fail
    refine (Q.out _ rfl).mono ?_
    rintro e w3 (⟨rfl, hJ3, _⟩ | ⟨rfl, q, hq, hx⟩)
    · go_wp2_with fail
      go_end0
      exact ⟨⟨_, rfl⟩, .inl hJ3⟩
    · go_wp2_with fail
      go_end0
      exact ⟨⟨_, rfl⟩, .inr ⟨q, hq, hx⟩⟩
  · have ec : cutsG k.data.toList nn = [] := by unfold cutsG; rw [if_neg (by rw [HS.out]; exact hlt)]
    rw [ec]
    have hnlt : ¬ ((nn : Int) < (k.size : Int)) := by omega
    clear hcw hJ hbW hN
    go_enter Tryz.func103, Tryz.ntmps103
    go_wp2_with fail
    go_end0
    exact ⟨⟨_, rfl⟩, .inl HJ.out⟩

theorem cuts_stops (n nn Bn Bk n₀ : Nat) (Bs : List Nat) (k : ByteArray) (w : World) (h1 : 1 ≤ k.size) (h12 : k.size ≤ 12) (ha : Asc k) (hn1 : 1 ≤ nn) (hn12 : nn ≤ 12)
    (hBn : w.heap[Bn]? = some (.cells #[.int .i64 nn] 3 (0, 0))) (hBk : w.cell? ⟨Bk, 0, none⟩ = some (.string k)) (hn0 : n₀ ≤ w.heap.size) (hBs : ∀ b, b ∈ Bs → b < w.heap.size) :
    SeqStopsK Fence.wide n Tryz.prog 103 #[.pointer (some ⟨Bn, 0, none⟩), .pointer (some ⟨Bk, 0, none⟩)] (fun x : KL => #[Value.string x.1]) (KpX n₀ Bs cutTs)
      (fun ys => ys.map (·.1) = packL (cutsG k.data.toList nn)) (fun pre => pre.map (·.1) <+: packL (cutsG k.data.toList nn)) (cutsG k.data.toList nn).length w := by
  intro l J Jx W hW hJ _ hY h0
  have q := cuts1_any l nn Bn Bk n₀ (cutsG k.data.toList nn).length Bs k (fun L W => ∃ L' : List KL, L'.map (·.1) = L ∧ J L' W) (fun L W => ∃ L' : List KL, L'.map (·.1) = L ∧ Jx L' W) ?_ ?_ h1 h12 ha hn1 hn12 W
    ((hW.block _ (Array.getElem?_eq_some_iff.1 hBn).1).trans hBn) ((hW.cell (p := ⟨Bk, 0, none⟩) (World.block_lt_of_cell? w _ hBk)).trans hBk) ⟨[], rfl, h0⟩ (Nat.le_refl _) (Nat.le_trans hn0 hW.size) (fun b hb => Nat.lt_of_lt_of_le (hBs b hb) hW.size)
  · refine (callsIn_wide.2 q).mono ?_
    rintro e W' ⟨hv, ⟨L', e', hj⟩ | ⟨pre, hp, L', e', hj⟩⟩
    · exact ⟨hv, .inl ⟨L', e', hj⟩⟩
    · exact ⟨hv, .inr ⟨L', by show L'.map (·.1) <+: _; rw [e']; exact hp, hj⟩⟩
  · rintro m pre x W1 hx ⟨pre', rfl, hj⟩ hl
    obtain ⟨fn, tmps, assign, body, hy, hR⟩ := YieldAt.deep m (hY pre' ⟨x, hx⟩ W1 hj (by simpa using hl))
    refine ⟨fn, tmps, assign, body, hy, hR.mono fun e w' hr => ?_⟩
    rcases hr with ⟨he, hj', hk'⟩ | ⟨he, hx'⟩
    · exact .inl ⟨he, ⟨pre' ++ [⟨x, hx⟩], by simp, hj'⟩, hk'⟩
    · exact .inr ⟨he, ⟨pre' ++ [⟨x, hx⟩], by simp, hx'⟩⟩
  · rintro pre A C ⟨L', e, hj⟩ hb
    exact ⟨L', e, hJ L' A C none hj (below_grown hb) (fun r e => by cases e)⟩
end Go.Proofs.YtljlkhaolfihjaaGreatDoor
