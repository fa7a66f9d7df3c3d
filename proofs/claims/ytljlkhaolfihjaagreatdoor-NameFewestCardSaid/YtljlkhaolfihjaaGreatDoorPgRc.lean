/- The iterator of ascending lists of numbers. -/
import Derived.Test.YtljlkhaolfihjaaGreatDoorPgRb
namespace Go.Proofs.YtljlkhaolfihjaaGreatDoor
open Go.RowKit Go.Shelf

theorem choices_any (nn size : Nat) (w : World) : Calls Tryz.prog 58 #[.int .i64 nn, .int .i64 size] w fun e w' =>
    e = .returned (.func (.func 91) #[] #[.pointer (some ⟨w.heap.size + 1, 0, none⟩), .pointer (some ⟨w.heap.size, 0, none⟩)]) ∧ w' = (w.alloc (.cells #[.int .i64 nn] 3)).alloc (.cells #[.int .i64 size] 3) := by
  go_enter Tryz.func58, Tryz.ntmps58
  go_wp2_with fail
  go_ret
  exact ⟨rfl, rfl⟩

set_option maxRecDepth 100000 in
set_option maxHeartbeats 1600000 in
theorem choices1_any (l nn size Bs Bn n₀ N : Nat) (J Jx : List (List Int) → World → Prop) (W : World) (hY : GrowIY n₀ N l J Jx) (hJw : ∀ pre A C, J pre A → OwnStep W.heap.size A C → J pre C) (hs : size ≤ 6) (hnn : nn ≤ 6)
    (hBs : W.heap[Bs]? = some (.cells #[.int .i64 size] 3 (0, 0))) (hBn : W.heap[Bn]? = some (.cells #[.int .i64 nn] 3 (0, 0))) (hJ : J [] W) (hN : (subsL size 0 nn).length ≤ N) (hn0 : n₀ ≤ W.heap.size) :
    Calls Tryz.prog 91 #[.func (.yield l) #[] #[], .pointer (some ⟨Bs, 0, none⟩), .pointer (some ⟨Bn, 0, none⟩)] W fun e W' => (∃ v, e = .returned v) ∧ (J (subsL size 0 nn) W' ∨ ∃ q, q <+: subsL size 0 nn ∧ Jx q W') := by
  have hV : ∃ V : World, V = (W.alloc (.cells #[.func (.yield l) #[] #[]] 57)).alloc (.cells #[.func (.func 92) #[] #[.pointer (some ⟨Bs, 0, none⟩), .pointer (some ⟨W.heap.size, 0, none⟩), .pointer (some ⟨Bn, 0, none⟩), .pointer (some ⟨W.heap.size + 1, 0, none⟩)]] 151) := ⟨_, rfl⟩
  obtain ⟨V, hV⟩ := hV
  have hbV : Below W.heap.size W V := by rw [hV]; exact ((Below.refl _ _).alloc (Nat.le_refl _) _).alloc (by simp) _
  have hVs : V.heap.size = W.heap.size + 2 := by rw [hV]; simp
  have l1 := (Array.getElem?_eq_some_iff.1 hBs).1
  have l2 := (Array.getElem?_eq_some_iff.1 hBn).1
  have hcw : GrowW Bs W.heap.size Bn (W.heap.size + 1) l nn size V := by
    refine ⟨(hbV.block _ l1).trans hBs, ?_, (hbV.block _ l2).trans hBn, ?_⟩
    · rw [hV]; exact (Below.heap_alloc _ _ _ (by simp)).trans (heap_alloc_new W _)
    · have := heap_alloc_new (W.alloc (.cells #[.func (.yield l) #[] #[]] 57)) (.cells #[.func (.func 92) #[] #[.pointer (some ⟨Bs, 0, none⟩), .pointer (some ⟨W.heap.size, 0, none⟩), .pointer (some ⟨Bn, 0, none⟩), .pointer (some ⟨W.heap.size + 1, 0, none⟩)]] 151)
      rw [World.size_alloc] at this
      rw [hV]; exact this
  have hv0 := heap_alloc_new (W.alloc (.cells #[.func (.yield l) #[] #[]] 57)) (.cells #[.nilFunc] 151)
  rw [World.size_alloc] at hv0
  obtain ⟨v0, v1⟩ := cells_at hv0
  obtain ⟨m1, _⟩ := cells_at hcw.g
  have hbase : V.heap.size = W.heap.size + 2 := hVs
  have q := growI_any l nn size Bs W.heap.size Bn (W.heap.size + 1) n₀ W.heap.size (W.heap.size + 2) N J Jx hY hJw hn0 (by omega) hs hnn ⟨by omega, by omega, by omega, by omega⟩ size 0 [] (.slice none 0 0) [] V (by simp) (Nat.zero_le _) (World.ownsRow_nil _ _ _ _) hcw
    (hJw _ _ _ hJ (OwnStep.of_below hbV (Nat.le_refl _))) (by rw [growI_all]; simpa using hN) (by omega)
  rw [growI_all] at q
  unfold GrowIPost at q
  have Q := Lib.hid q
  clear q hY hJw hBs hBn hJ hN hv0 hcw
  generalize subsL size 0 nn = L at *
  go_enter Tryz.func91, Tryz.ntmps91
  go_wp2_with fail
  rw [← hV]
  go_wp2_with fail
  refine Q.out.mono ?_
  rintro e w3 ⟨b, rfl, h1, h2⟩
  go_wp2_with fail
  go_end0
  refine ⟨⟨_, rfl⟩, ?_⟩
  cases b with
  | true => exact .inl (h1 rfl).1
  | false =>
    obtain ⟨q, hq, hx⟩ := h2 rfl
    exact .inr ⟨q, hq, hx⟩

/-- What the iterator hands out. -/
abbrev Item := Value × List Int
def ItemOk (n₀ : Nat) (x : Item) (W : World) : Prop := W.ownsRow n₀ 3 1 x.1 x.2.length (x.2.map (Value.int .i64)) ∧ x.2.length ≤ 6
theorem ItemOk.kept {n₀ : Nat} {x : Item} {A C : World} (h : ItemOk n₀ x A) (k : CellsKept n₀ A C) : ItemOk n₀ x C := ⟨own_but h.1 (k.but none) (fun g _ => by simp), h.2⟩

theorem choices_writes (n nn size Bs Bn n₀ : Nat) (w : World) (hs : size ≤ 6) (hnn : nn ≤ 6)
    (hBs : w.heap[Bs]? = some (.cells #[.int .i64 size] 3 (0, 0))) (hBn : w.heap[Bn]? = some (.cells #[.int .i64 nn] 3 (0, 0))) :
    SeqWrites n Tryz.prog 91 #[.pointer (some ⟨Bs, 0, none⟩), .pointer (some ⟨Bn, 0, none⟩)] (fun x : Item => #[x.1]) (ItemOk n₀) n₀
      (fun ys => ys.map (·.2) = subsL size 0 nn) (fun pre => pre.map (·.2) <+: subsL size 0 nn) (subsL size 0 nn).length w := by
  intro l J Jx W hW hn0 hJ hY h0
  have q := choices1_any l nn size Bs Bn n₀ (subsL size 0 nn).length (fun L W => ∃ L' : List Item, L'.map (·.2) = L ∧ J L' W) (fun L W => ∃ L' : List Item, L'.map (·.2) = L ∧ Jx L' W) W ?_ ?_ hs hnn
    ((hW.block _ (Array.getElem?_eq_some_iff.1 hBs).1).trans hBs) ((hW.block _ (Array.getElem?_eq_some_iff.1 hBn).1).trans hBn) ⟨[], rfl, h0⟩ (Nat.le_refl _) hn0
  · refine (callsIn_wide.2 q).mono ?_
    rintro e W' ⟨hv, ⟨L', e', hj⟩ | ⟨pre, hp, L', e', hj⟩⟩
    · exact ⟨hv, .inl ⟨L', e', hj⟩⟩
    · exact ⟨hv, .inr ⟨L', by show L'.map (·.2) <+: _; rw [e']; exact hp, hj⟩⟩
  · rintro m pre v x W1 ho hx ⟨pre', rfl, hj⟩ hl
    obtain ⟨fn, tmps, assign, body, hy, hR⟩ := YieldAt.deep m (hY pre' ⟨v, x⟩ W1 hj ⟨ho, hx⟩ (by simpa using hl))
    refine ⟨fn, tmps, assign, body, hy, hR.mono fun e w' hr => ?_⟩
    rcases hr with ⟨he, hj', hk'⟩ | ⟨he, hx'⟩
    · exact .inl ⟨he, ⟨pre' ++ [⟨v, x⟩], by simp, hj'⟩, hk'⟩
    · exact .inr ⟨he, ⟨pre' ++ [⟨v, x⟩], by simp, hx'⟩⟩
  · rintro pre A C ⟨L', e, hj⟩ hb
    exact ⟨L', e, hJ L' A C hj hb⟩
end Go.Proofs.YtljlkhaolfihjaaGreatDoor
