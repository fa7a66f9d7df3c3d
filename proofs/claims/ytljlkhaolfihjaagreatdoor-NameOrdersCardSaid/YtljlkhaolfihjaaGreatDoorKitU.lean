/- All abbreviations of a key with so many letters, as a law lists them: the plain part, and an append of what can be read. -/
import Derived.Test.YtljlkhaolfihjaaGreatDoorKitP
import Derived.Test.YtljlkhaolfihjaaGreatDoorSpecC
import Derived.Test.YtljlkhaolfihjaaGreatDoorPgE
namespace Go.Proofs.YtljlkhaolfihjaaGreatDoor
open Go.RowKit

/-- Rows of numbers inside a row, as they are read. -/
def IntLists (w : World) (A : Option Addr) (L : List (List Int)) : Prop :=
  ∀ i (h : i < L.length), ∃ (b off : Nat) (Ai : Option Addr) (ci : Nat), A = some ⟨b, off, none⟩ ∧ w.cell? ⟨b, off + i, none⟩ = some (.slice Ai (L[i]).length ci) ∧ Cells w Ai ((L[i]).map (Value.int .i64))
theorem IntLists.below {w w' : World} {A : Option Addr} {L : List (List Int)} (h : IntLists w A L) (hb : Below w.heap.size w w') : IntLists w' A L := fun i hi => by
  obtain ⟨b, off, Ai, ci, e, h1, h2⟩ := h i hi
  exact ⟨b, off, Ai, ci, e, (hb.cell (World.block_lt_of_cell? _ _ h1)).trans h1, h2.below hb⟩
theorem IntLists.of {w : World} {base n cap : Nat} {G : Option Nat} {A : Option Addr} {vs : List Value} {L : List (List Int)} (h : w.ownsRow base 23 1 (.slice A n cap) n vs) (hr : IntRows w base G vs L) : IntLists w A L := fun i hi => by
  obtain ⟨b, off, e, hc⟩ := cells_own h i (by rw [hr.1]; exact hi)
  obtain ⟨ho, _⟩ := hr.2 i hi
  obtain ⟨Ai, ci, hv⟩ := own_form ho
  rw [hv] at hc ho
  exact ⟨b, off, Ai, ci, e, hc, cells_own ho⟩

theorem run_append_read {P : Program} (w : World) (base : Nat) (t ty e : TypeId) (i : TypeInfo) (z : Value) (bytes : Nat) (ht : P.underlying t = some (.slice e)) (hi : P.info? e = some i) (hz : i.zero = some z)
    (hsize : i.size = 1) (hby : i.bytes = bytes) (hzs : z.cells.size = 1)
    (v : Value) (n : Nat) (xs : List Value) (hown : w.ownsRow base e 1 v n xs)
    (A : Option Addr) (m c : Nat) (news : List Value) (hl : news.length = m) (hA : A = none → c = 0) (hsrc : Cells w A news) (h1 : ∀ y ∈ news, y.oneCell' = true)
    (h63 : n + m ≤ maxLen) (hbytes : (n + m) * bytes ≤ 140737488355328) (hbase : base ≤ w.heap.size) :
    ∃ v' w', (Builtin.append_ #[t, t] ty #[v, .slice A m c]).run P w = .ok v' w' ∧ w'.ownsRow base e 1 v' (n + m) (xs ++ news) ∧ w.grownBy w' v.ownBlock := by
  cases A with
  | none =>
    have hm : m = 0 := by
      rcases Nat.eq_zero_or_pos m with h | h
      · exact h
      · obtain ⟨b, off, e, _⟩ := hsrc 0 (by omega)
        cases e
    subst hm
    have hn : news = [] := List.eq_nil_of_length_eq_zero hl
    subst hn
    rw [hA rfl]
    exact ⟨v, w, run_append_owned_none w base t ty e i 1 ht hi v n xs hown, by simpa using hown, rfl, rfl, rfl, Nat.le_refl _, fun _ _ _ => rfl⟩
  | some ad =>
    have hnews : ∀ j y, news[j]? = some y → w.cell? (ad.add j) = some y := by
      intro j y hy
      have hj : j < news.length := by
        rcases Nat.lt_or_ge j news.length with h | h
        · exact h
        · rw [List.getElem?_eq_none h] at hy; cases hy
      obtain ⟨b, off, e, hc⟩ := hsrc j hj
      injection e with e
      subst e
      rw [List.getD_eq_getElem?_getD, hy] at hc
      have ea : ((⟨b, off, none⟩ : Addr).add j) = ⟨b, off + j, none⟩ := by
        unfold Addr.add
        split
        · rename_i h0; subst h0; rfl
        · simp
      rw [ea, hc]
      rfl
    obtain ⟨v', w', q1, q2, q3, _⟩ := run_append_own (P := P) w base t ty e i z 1 bytes ht hi hz hsize hby hzs (by decide) v n xs hown ad m c news (by omega) hnews h1 h63 hbytes hbase
    exact ⟨v', w', q1, q2, q3⟩
theorem step_append_read {P : Program} {w : World} {ops : Array Oper} {o : Oper} {a : Act} {K : Act → World → Prop} {Q : Exit → Act → World → Prop} {E : Prop} (hgd : o.guard = none) (s x : Operand) (t : TypeId)
    (ho : o.op = .call { callee := .builtin .append, args := #[s, x], argTypes := #[t, t] })
    (base : Nat) (e : TypeId) (i : TypeInfo) (z : Value) (bytes : Nat) (ht : P.underlying t = some (.slice e)) (hi : P.info? e = some i) (hz : i.zero = some z)
    (hsize : i.size = 1) (hby : i.bytes = bytes) (hzs : z.cells.size = 1)
    (v : Value) (n : Nat) (xs : List Value) (hs : a.eval s = v) (hown : w.ownsRow base e 1 v n xs)
    (A : Option Addr) (m c : Nat) (news : List Value) (hx : a.eval x = .slice A m c) (hl : news.length = m) (hA : A = none → c = 0) (hsrc : Cells w A news) (h1 : ∀ y ∈ news, y.oneCell' = true)
    (h63 : n + m ≤ maxLen) (hbytes : (n + m) * bytes ≤ 140737488355328) (hbase : base ≤ w.heap.size)
    (h : ∀ v' w', w'.ownsRow base e 1 v' (n + m) (xs ++ news) → w.grownBy w' v.ownBlock → K (a.put o.dst v') w') :
    if Region.wanted o (yielded ops a.tmps) = true then Oper.wp P o a w K Q else E := by
  have hw : Region.wanted o (yielded ops a.tmps) = true := by simp [Region.wanted, hgd]
  rw [if_pos hw]
  obtain ⟨v', w', hr, h2, h3⟩ := run_append_read (P := P) w base t o.type e i z bytes ht hi hz hsize hby hzs v n xs hown A m c news hl hA hsrc h1 h63 hbytes hbase
  unfold Oper.wp execOp
  simp only [ho, resolve, invoke, builtin, Sem.run_bind, Sem.run_pure, Result.andThen_ok, List.map_toArray, List.map_cons, List.map_nil, hs, hx, hr]
  exact h v' w' h2 h3

/-! ### What they are -/

theorem subsL_mem (m : Nat) : ∀ f n r, r ∈ subsL m f n → ∀ x, x ∈ r → (f : Int) ≤ x ∧ x < (n : Int) := by
  induction m with
  | zero => intro f n r h x hx; rw [List.mem_singleton.1 h] at hx; cases hx
  | succ m ih =>
    intro f n r h x hx
    obtain ⟨d, hd, h⟩ := List.mem_flatMap.1 h
    obtain ⟨y, hy, rfl⟩ := List.mem_map.1 h
    have hd2 := List.mem_range.1 hd
    rcases List.mem_cons.1 hx with rfl | hx
    · omega
    · have := ih _ _ _ hy x hx
      omega
/-- The letters at some places. -/
def pickT (t : List UInt8) (r : List Int) : List UInt8 := r.map fun x => t.getD x.toNat 0
theorem flatMap_eq {α β : Type} {l : List α} {f g : α → List β} (h : ∀ d, d ∈ l → f d = g d) : l.flatMap f = l.flatMap g := by
  induction l with
  | nil => rfl
  | cons a t ih => rw [List.flatMap_cons, List.flatMap_cons, h a (by simp), ih fun d hd => h d (by simp [hd])]
theorem pick_parts (t : List UInt8) (m : Nat) : ∀ f, (subsL m f t.length).map (pickT t) = (partsL m ⟨(t.drop f).toArray⟩).map fun s => s.data.toList := by
  induction m with
  | zero => intro f; rfl
  | succ m ih =>
    intro f
    have hz : (⟨(t.drop f).toArray⟩ : ByteArray).size = t.length - f := by show (t.drop f).toArray.size = _; simp
    unfold subsL partsL
    rw [hz, List.map_flatMap, List.map_flatMap, show t.length - f - m = t.length - m - f from by omega]
    refine flatMap_eq fun d hd => ?_
    have hd2 := List.mem_range.1 hd
    have e1 : ((⟨(t.drop f).toArray⟩ : ByteArray).extract (d + 1) (t.length - f)) = ⟨(t.drop (f + d + 1)).toArray⟩ := bz_inj (by
      rw [ext_list]
      show ((t.drop f).drop (d + 1)).take (t.length - f - (d + 1)) = t.drop (f + d + 1)
      rw [List.drop_drop, show f + (d + 1) = f + d + 1 from by omega]
      exact List.take_of_length_le (by simp; omega))
    have e2 : ((⟨(t.drop f).toArray⟩ : ByteArray).extract d (d + 1)).data.toList = [t.getD (f + d) 0] := by
      rw [ext_list]
      show ((t.drop f).drop d).take (d + 1 - d) = _
      rw [List.drop_drop, show d + 1 - d = 1 from by omega, List.drop_eq_getElem_cons (by omega), List.getD_eq_getElem?_getD, List.getElem?_eq_getElem (by omega)]
      rfl
    rw [e1, List.map_map, List.map_map]
    have h := ih (f + d + 1)
    have h2 : ∀ l : List (List Int), l.map (pickT t ∘ fun x => ((f + d : Nat) : Int) :: x) = (l.map (pickT t)).map (t.getD (f + d) 0 :: ·) := fun l => by
      rw [List.map_map]
      refine List.map_congr_left fun r _ => ?_
      show pickT t (((f + d : Nat) : Int) :: r) = _
      unfold pickT
      rw [List.map_cons, Int.toNat_natCast]
      rfl
    rw [h2, h, List.map_map]
    refine List.map_congr_left fun s _ => ?_
    show t.getD (f + d) 0 :: s.data.toList = (((⟨(t.drop f).toArray⟩ : ByteArray).extract d (d + 1)) ++ s).data.toList
    rw [ByteArray.data_append, Array.toList_append, e2]
    rfl
/-- They are the abbreviations of so many letters. -/
theorem pick_cuts (c : UInt8) (t : List UInt8) (m : Nat) (hm : m < t.length) (x : List UInt8) : x ∈ cutsG (c :: t) (m + 1) ↔ ∃ r, r ∈ subsL m 0 t.length ∧ x = c :: pickT t r := by
  have h := pick_parts t m 0
  rw [List.drop_zero] at h
  rw [cuts_mem c t (m + 1) (by omega)]
  constructor
  · rintro ⟨_, y, rfl, h1, h2⟩
    have hy : y ∈ (partsL m ⟨t.toArray⟩).map fun s => s.data.toList := List.mem_map.2 ⟨⟨y.toArray⟩, (parts_mem m _ _).2 ⟨by simp; omega, h2⟩, rfl⟩
    rw [← h] at hy
    obtain ⟨r, hr, rfl⟩ := List.mem_map.1 hy
    exact ⟨r, hr, rfl⟩
  · rintro ⟨r, hr, rfl⟩
    have hy : pickT t r ∈ (subsL m 0 t.length).map (pickT t) := List.mem_map.2 ⟨r, hr, rfl⟩
    rw [h] at hy
    obtain ⟨s, hs, e⟩ := List.mem_map.1 hy
    obtain ⟨h1, h2⟩ := (parts_mem m _ _).1 hs
    refine ⟨by rw [List.length_cons]; omega, pickT t r, rfl, ?_, ?_⟩
    · rw [← e, h1]
    · rw [← e]; exact h2

/-! ### In their order -/

def Rises (xs : List ByteArray) : Prop := xs.Pairwise fun u v => Op.bytesLess v.toList u.toList = false
theorem less_lt_le {y s x : List UInt8} (h : Op.bytesLess y s = true) (k : Op.bytesLess x s = false) : Op.bytesLess y x = true := by
  cases hs : Op.bytesLess s x with
  | true =>
    rw [less_cmp] at *
    exact decide_eq_true (cmpB_trans _ _ _ (of_decide_eq_true h) (of_decide_eq_true hs))
  | false => rw [less_none k hs]; exact h
theorem ins_rises {xs : List ByteArray} {s : ByteArray} {a : Nat} (hx : Rises xs) (h1 : ∀ y, y ∈ xs.take a → Op.bytesLess y.toList s.toList = true) (h2 : ∀ h : a < xs.length, Op.bytesLess (xs[a]).toList s.toList = false) : Rises (xs.take a ++ [s] ++ xs.drop a) := by
  unfold Rises at *
  have hx0 := hx
  rw [← List.take_append_drop a xs, List.pairwise_append] at hx
  obtain ⟨p1, p2, p3⟩ := hx
  rw [List.append_assoc, List.pairwise_append]
  have hd : ∀ y, y ∈ xs.drop a → Op.bytesLess y.toList s.toList = false := fun y hy => by
    by_cases ha : a < xs.length
    · have hq := h2 ha
      rw [List.drop_eq_getElem_cons ha] at hy p2
      rcases List.mem_cons.1 hy with rfl | hy
      · exact hq
      · have h3 := (List.pairwise_cons.1 p2).1 y hy
        cases hb : Op.bytesLess y.toList s.toList with
        | false => rfl
        | true => rw [less_lt_le hb hq] at h3; cases h3
    · rw [List.drop_eq_nil_of_le (by omega)] at hy; cases hy
  refine ⟨p1, ?_, fun u hu v hv => ?_⟩
  · show List.Pairwise _ (s :: xs.drop a)
    exact List.pairwise_cons.2 ⟨hd, p2⟩
  · have hv2 : v ∈ s :: xs.drop a := hv
    rcases List.mem_cons.1 hv2 with rfl | hv
    · exact less_anti (h1 u hu)
    · exact p3 u hu v hv
theorem ins_mem {xs : List ByteArray} {s : ByteArray} {a : Nat} (x : ByteArray) : x ∈ xs.take a ++ [s] ++ xs.drop a ↔ x ∈ xs ∨ x = s := by
  rw [List.mem_append, List.mem_append, List.mem_singleton]
  have h : x ∈ xs ↔ x ∈ xs.take a ∨ x ∈ xs.drop a := by rw [← List.mem_append, List.take_append_drop]
  rw [h]
  constructor
  · rintro ((h | h) | h)
    · exact .inl (.inl h)
    · exact .inr h
    · exact .inl (.inr h)
  · rintro ((h | h) | h)
    · exact .inl (.inl h)
    · exact .inr h
    · exact .inl (.inr h)

/-- The first fine one of a rising list is the first fine one of all. -/
theorem rises_first {xs : List ByteArray} {k : List UInt8} {n i : Nat} {q : List UInt8 → Bool} (hx : Rises xs) (hm : ∀ x : ByteArray, x ∈ xs ↔ x.data.toList ∈ cutsG k n) (hi : i < xs.length) (hb : ∀ y, y ∈ xs.take i → q y.data.toList = false) (hq : q (xs[i]).data.toList = true) :
    (cutsG k n).find? q = some (xs[i]).data.toList := by
  obtain ⟨g1, g2⟩ := find_first (q := q) (cutsG k n) (cuts_up _ _)
  have hmi := (hm xs[i]).1 (List.getElem_mem hi)
  cases hf : (cutsG k n).find? q with
  | none => rw [g1 hf _ hmi] at hq; cases hq
  | some a =>
    obtain ⟨a1, a2, a3⟩ := g2 a hf
    have h4 := a3 _ hmi hq
    have ha : (⟨a.toArray⟩ : ByteArray) ∈ xs := (hm _).2 a1
    obtain ⟨j, hj, e⟩ := List.mem_iff_getElem.1 ha
    have e2 : (xs[j]).data.toList = a := by rw [e]
    congr 1
    by_cases hij : j < i
    · have := hb xs[j] (List.mem_take_iff_getElem.2 ⟨j, by omega, rfl⟩)
      rw [e2, a2] at this
      cases this
    · by_cases h5 : j = i
      · subst h5; exact e2.symm
      · have h6 := (List.pairwise_iff_getElem.1 hx) i j hi hj (by omega)
        rw [ByteArray.toList_eq, ByteArray.toList_eq, e2] at h6
        exact less_none h6 h4
theorem rises_none {xs : List ByteArray} {k : List UInt8} {n : Nat} {q : List UInt8 → Bool} (hm : ∀ x : ByteArray, x ∈ xs ↔ x.data.toList ∈ cutsG k n) (hb : ∀ y, y ∈ xs → q y.data.toList = false) : (cutsG k n).find? q = none := by
  rw [List.find?_eq_none]
  intro a ha
  have := hb ⟨a.toArray⟩ ((hm _).2 ha)
  rw [Bool.not_eq_true]
  exact this
end Go.Proofs.YtljlkhaolfihjaaGreatDoor
