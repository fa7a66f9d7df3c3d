/- errors.As at the program's own error: it is found, and its code comes back. -/
import Derived.Test.YtljlkhaolfihjaaGreatDoorPgC
import Derived.LaidEql
import Derived.Stop.Asserts
import Derived.RowKitTokens
import Derived.Test.YtljlkhaolfihjaaGreatDoorPgI
import Derived.Test.YtljlkhaolfihjaaGreatDoorPgD
namespace Go.Proofs.YtljlkhaolfihjaaGreatDoor
open Go.RowKit Go.Extern.Stop Go.Stop Go.Extern

/-! Closed facts on the model's entries for internal/reflectlite, at this program's types. -/
theorem reP_valueOf (t : Addr) (w : World) : (ReflectliteValue.unpack (.iface 135 (.pointer (some t)))).run Tryz.prog w
    = .ok (.agg #[.pointer (some ⟨2, 135, none⟩), .pointer (some ⟨w.heap.size, 0, none⟩), .int .u64 150]) (w.alloc (.cells #[.pointer (some t)] 135)) := by kernel_rfl
theorem reP_type (a : Addr) (w : World) : (ReflectliteValue.methodAny (ReflectliteValue.valueError "reflectlite.Value.Type" 0) (fun t _ _ _ => ReflectliteType.toType t) #[.agg #[.pointer (some ⟨2, 135, none⟩), .pointer (some a), .int .u64 150]]).run Tryz.prog w
    = .ok (.iface 186 (.agg #[.pointer (some ⟨2, 135, none⟩)])) w := by kernel_rfl
theorem reP_kind (w : World) : ((ReflectliteType.abiMethod fun t => (fun a : Nat => Value.int IntKind.u8 (a : Int)) <$> Rtype.kind t) #[.pointer (some ⟨2, 135, none⟩)]).run Tryz.prog w = .ok (.int .u8 22) w := by kernel_rfl
theorem reE_kind (w : World) : ((ReflectliteType.abiMethod fun t => (fun a : Nat => Value.int IntKind.u8 (a : Int)) <$> Rtype.kind t) #[.pointer (some ⟨2, 133, none⟩)]).run Tryz.prog w = .ok (.int .u8 25) w := by kernel_rfl
theorem re_rlm (z : Sem Value) (f : TypeId → Addr → Nat → Nat → Sem Value) (v : Value) :
    ReflectliteValue.method z f #[v] = (do match ← ReflectliteValue.parts v with | none => z | some (t, a, fl) => f t a fl (fl % 32)) := rfl
theorem reP_parts (a : Addr) (w : World) : (ReflectliteValue.parts (.agg #[.pointer (some ⟨2, 135, none⟩), .pointer (some a), .int .u64 150])).run Tryz.prog w = .ok (some (135, a, 150)) w := by kernel_rfl
theorem reP_isNil (a p : Addr) (W : World) (ha : W.cell? a = some (.pointer (some p))) :
    (ReflectliteValue.method (ReflectliteValue.valueError "reflectlite.Value.IsNil" 0) ReflectliteValue.isNil #[.agg #[.pointer (some ⟨2, 135, none⟩), .pointer (some a), .int .u64 150]]).run Tryz.prog W = .ok (.bool false) W := by
  rw [re_rlm]
  simp only [Sem.run_bind, reP_parts, Result.andThen]
  simp [ReflectliteValue.isNil, loadVar, isAgg, underlying, Tryz.underlying135, ha, Result.andThen]
theorem reP_elem (w : World) : (ReflectliteType.method ReflectliteType.elem #[.agg #[.pointer (some ⟨2, 135, none⟩)]]).run Tryz.prog w = .ok (.iface 186 (.agg #[.pointer (some ⟨2, 133, none⟩)])) w := by kernel_rfl
theorem reE_implements (w : World) : (ReflectliteType.relation "Implements" ReflectliteType.implements_ #[.agg #[.pointer (some ⟨2, 133, none⟩)], .iface 186 (.agg #[.pointer (some ⟨2, 78, none⟩)])]).run Tryz.prog w = .ok (.bool true) w := by kernel_rfl
theorem reE_typeOf (v : Value) (w : World) : (ReflectliteType.typeOf #[.iface 133 v]).run Tryz.prog w = .ok (.iface 186 (.agg #[.pointer (some ⟨2, 133, none⟩)])) w := by kernel_rfl
theorem reE_assignable (w : World) : (ReflectliteType.relation "AssignableTo" ReflectliteType.assignableTo #[.agg #[.pointer (some ⟨2, 133, none⟩)], .iface 186 (.agg #[.pointer (some ⟨2, 133, none⟩)])]).run Tryz.prog w = .ok (.bool true) w := by kernel_rfl
theorem reE_valueOf (c : Int) (w : World) : (ReflectliteValue.unpack (.iface 133 (.agg #[.int .i64 c]))).run Tryz.prog w
    = .ok (.agg #[.pointer (some ⟨2, 133, none⟩), .pointer (some ⟨w.heap.size, 0, none⟩), .int .u64 153]) (w.alloc (.cells #[.int .i64 c] 133)) := by kernel_rfl
theorem reP_elemOf (w : World) : (Rtype.elem? 135).run Tryz.prog w = .ok (some 133) w := by kernel_rfl
theorem reE_mk (p : Addr) (w : World) : (ReflectliteValue.mk 133 p ReflectliteValue.flagAddr).run Tryz.prog w = .ok (.agg #[.pointer (some ⟨2, 133, none⟩), .pointer (some p), .int .u64 409]) w := by kernel_rfl
theorem reP_elemV (a p : Addr) (W : World) (ha : W.cell? a = some (.pointer (some p))) :
    (ReflectliteValue.method (ReflectliteValue.valueError "reflectlite.Value.Elem" 0) ReflectliteValue.elem #[.agg #[.pointer (some ⟨2, 135, none⟩), .pointer (some a), .int .u64 150]]).run Tryz.prog W
      = .ok (.agg #[.pointer (some ⟨2, 133, none⟩), .pointer (some p), .int .u64 409]) W := by
  rw [re_rlm]
  simp only [Sem.run_bind, reP_parts, Result.andThen]
  simp [ReflectliteValue.elem, loadVar, isAgg, underlying, Tryz.underlying135, ha, Result.andThen, reP_elemOf, reE_mk]
theorem re_rls (v x : Value) : ReflectliteValue.set #[v, x] = (do
    let (some (dst, a, fl), some (src, b, _)) := (← ReflectliteValue.parts v, ← ReflectliteValue.parts x)
      | unsupported (.noEntry "extern/(internal/reflectlite.Value).Set.zeroValue")
    if fl / ReflectliteValue.flagAddr % 2 == 0 then unsupported (.noEntry "extern/(internal/reflectlite.Value).Set.unaddressable")
    let val ← loadVar src b
    if ← Rtype.directlyAssignable dst src then storeVar dst a val
    else if ← Rtype.implements dst src then
      if (← Rtype.kind src) == 20 then
        match val with
        | .nilIface => unsupported (.noEntry "extern/reflectlite: a nil value of one interface type handed on as a value of another")
        | _ => storeVar dst a val
      else storeVar dst a (.iface src val)
    else panicString ("reflectlite.Set: value of type " ++ (← Rtype.spelt src) ++ " is not assignable to type " ++ (← Rtype.spelt dst))
    pure (.tuple #[])) := rfl
theorem reE_partsA (a : Addr) (w : World) : (ReflectliteValue.parts (.agg #[.pointer (some ⟨2, 133, none⟩), .pointer (some a), .int .u64 409])).run Tryz.prog w = .ok (some (133, a, 409)) w := by kernel_rfl
theorem reE_parts (a : Addr) (w : World) : (ReflectliteValue.parts (.agg #[.pointer (some ⟨2, 133, none⟩), .pointer (some a), .int .u64 153])).run Tryz.prog w = .ok (some (133, a, 153)) w := by kernel_rfl
theorem reE_direct (w : World) : (Rtype.directlyAssignable 133 133).run Tryz.prog w = .ok true w := by kernel_rfl
theorem reE_size (w : World) : (sizeOf 133).run Tryz.prog w = .ok 1 w := by kernel_rfl
theorem reE_load (b : Addr) (c : Int) (W : World) (hb : W.cell? b = some (.int .i64 c)) : (loadVar 133 b).run Tryz.prog W = .ok (.agg #[.int .i64 c]) W := by
  simp [loadVar, Sem.run_bind, Result.andThen, loadCells, loadCellsFrom, Addr.add, hb]
/-- (Value).Set: the variable at 'ta' gets what the Value's own variable 'b' holds. -/
theorem reE_set (ta b : Addr) (c : Int) (old : Value) (W : World) (hb : W.cell? b = some (.int .i64 c)) (ht : W.cell? ta = some old) (hf : W.frozen? ta = false) :
    (ReflectliteValue.set #[.agg #[.pointer (some ⟨2, 133, none⟩), .pointer (some ta), .int .u64 409], .agg #[.pointer (some ⟨2, 133, none⟩), .pointer (some b), .int .u64 153]]).run Tryz.prog W
      = .ok (.tuple #[]) (W.setCell ta (.int .i64 c)) := by
  rw [re_rls]
  simp only [Sem.run_bind, reE_partsA, reE_parts, Result.andThen]
  simp [ReflectliteValue.flagAddr, Result.andThen, reE_load b c W hb, reE_direct, storeVar, Value.cells, storeCells, Addr.add]
  rw [run_store Tryz.prog W ta _ _ (by rfl)]
  simp [ht, hf]
theorem re_mKind (h : Value) (w : World) : (Go.method 347 186 (.agg #[h]) "Kind").run Tryz.prog w = .ok (180, h) w := by kernel_rfl
theorem re_mElem (h : Value) (w : World) : (Go.method 347 186 (.agg #[h]) "Elem").run Tryz.prog w = .ok (192, .agg #[h]) w := by kernel_rfl
theorem re_mImplements (h : Value) (w : World) : (Go.method 347 186 (.agg #[h]) "Implements").run Tryz.prog w = .ok (193, .agg #[h]) w := by kernel_rfl
theorem re_mAssignable (h : Value) (w : World) : (Go.method 347 186 (.agg #[h]) "AssignableTo").run Tryz.prog w = .ok (190, .agg #[h]) w := by kernel_rfl

/-- The one listed variable of the library, as it is laid. -/
def LaidErr (w : World) : Prop := w.cell? ⟨0, 0, none⟩ = some (.iface 186 (.agg #[.pointer (some ⟨2, 78, none⟩)]))
theorem LaidErr.below {w w' : World} (h : LaidErr w) (hb : Below w.heap.size w w') : LaidErr w' := (hb.cell (World.block_lt_of_cell? _ _ h)).trans h

set_option maxHeartbeats 4000000 in
theorem as_hit (c : Int) (t : Addr) (old : Value) (w : World) (hg : LaidErr w) (ht0 : w.cell? t = some old) (hf0 : w.frozen? t = false) :
    Calls Tryz.prog 80 #[.iface 133 (.agg #[.int .i64 c]), .iface 135 (.pointer (some t))] w fun ev w' => ev = .returned (.bool true) ∧ w' = ((((w.alloc (.cells #[.pointer (some t)] 135)).alloc (.cells #[.pointer (some ⟨2, 135, none⟩), .pointer (some ⟨w.heap.size, 0, none⟩), .int .u64 150] 168)).alloc (.cells #[.pointer (some ⟨2, 135, none⟩), .pointer (some ⟨w.heap.size, 0, none⟩), .int .u64 150] 168)).alloc (.cells #[.int .i64 c] 133)).setCell t (.int .i64 c) := by
  have h6 := @run_callFunc_extern Tryz.prog 109 _ (fun args => ReflectliteValue.unpack (args.getD 0 (.tuple #[]))) Tryz.func109 (by kernel_rfl) (by kernel_rfl) (by kernel_rfl) (by kernel_rfl)
  have h7 := @run_callFunc_extern Tryz.prog 110 _ (ReflectliteValue.methodAny (ReflectliteValue.valueError "reflectlite.Value.Type" 0) (fun t _ _ _ => ReflectliteType.toType t)) Tryz.func110 (by kernel_rfl) (by kernel_rfl) (by kernel_rfl) (by kernel_rfl)
  have h8 := @run_callFunc_extern Tryz.prog 111 _ (ReflectliteValue.method (ReflectliteValue.valueError "reflectlite.Value.IsNil" 0) ReflectliteValue.isNil) Tryz.func111 (by kernel_rfl) (by kernel_rfl) (by kernel_rfl) (by kernel_rfl)
  have h27 := @run_callFunc_extern Tryz.prog 180 _ (ReflectliteType.abiMethod fun t => do pure (.int .u8 (← Rtype.kind t))) Tryz.func180 (by kernel_rfl) (by kernel_rfl) (by kernel_rfl) (by kernel_rfl)
  have h37 := @run_callFunc_extern Tryz.prog 192 _ (ReflectliteType.method ReflectliteType.elem) Tryz.func192 (by kernel_rfl) (by kernel_rfl) (by kernel_rfl) (by kernel_rfl)
  have h38 := @run_callFunc_extern Tryz.prog 193 _ (ReflectliteType.relation "Implements" ReflectliteType.implements_) Tryz.func193 (by kernel_rfl) (by kernel_rfl) (by kernel_rfl) (by kernel_rfl)
  have h10 := @run_callFunc_extern Tryz.prog 133 _ ReflectliteType.typeOf Tryz.func133 (by kernel_rfl) (by kernel_rfl) (by kernel_rfl) (by kernel_rfl)
  have h35 := @run_callFunc_extern Tryz.prog 190 _ (ReflectliteType.relation "AssignableTo" ReflectliteType.assignableTo) Tryz.func190 (by kernel_rfl) (by kernel_rfl) (by kernel_rfl) (by kernel_rfl)
  have h11 := @run_callFunc_extern Tryz.prog 134 _ (ReflectliteValue.method (ReflectliteValue.valueError "reflectlite.Value.Elem" 0) ReflectliteValue.elem) Tryz.func134 (by kernel_rfl) (by kernel_rfl) (by kernel_rfl) (by kernel_rfl)
  have h12 := @run_callFunc_extern Tryz.prog 135 _ ReflectliteValue.set Tryz.func135 (by kernel_rfl) (by kernel_rfl) (by kernel_rfl) (by kernel_rfl)
  have tO := reE_typeOf
  have mA := re_mAssignable
  have a25 := reE_assignable
  have v25 := reE_valueOf
  have f6 := reP_valueOf
  have f7 := reP_type
  have mK := re_mKind
  have mE := re_mElem
  have mI := re_mImplements
  have k27 := reP_kind
  have k25 := reE_kind
  have e27 := reP_elem
  have i25 := reE_implements
  have n8 := reP_isNil ⟨w.heap.size, 0, none⟩ t ((w.alloc (.cells #[.pointer (some t)] 135)).alloc (.cells #[.pointer (some ⟨2, 135, none⟩), .pointer (some ⟨w.heap.size, 0, none⟩), .int .u64 150] 168)) (by simp)
  have hlt : 0 < w.heap.size := World.block_lt_of_cell? w _ hg
  unfold LaidErr at hg
  have hg2 : ((w.alloc (.cells #[.pointer (some t)] 135)).alloc (.cells #[.pointer (some ⟨2, 135, none⟩), .pointer (some ⟨w.heap.size, 0, none⟩), .int .u64 150] 168)).cell? ⟨0, 0, none⟩ = some (.iface 186 (.agg #[.pointer (some ⟨2, 78, none⟩)])) := by
    rw [World.cell?_alloc_lt _ _ ⟨0, 0, none⟩ (by simp), World.cell?_alloc_lt _ _ ⟨0, 0, none⟩ hlt]; exact hg
  have htl : t.block < w.heap.size := World.block_lt_of_cell? w _ ht0
  have el := reP_elemV ⟨w.heap.size, 0, none⟩ t (((w.alloc (.cells #[.pointer (some t)] 135)).alloc (.cells #[.pointer (some ⟨2, 135, none⟩), .pointer (some ⟨w.heap.size, 0, none⟩), .int .u64 150] 168)).alloc (.cells #[.pointer (some ⟨2, 135, none⟩), .pointer (some ⟨w.heap.size, 0, none⟩), .int .u64 150] 168)) (by rw [World.cell?_alloc_lt _ _ ⟨w.heap.size, 0, none⟩ (by simp; omega)]; simp)
  have st := reE_set t ⟨w.heap.size + 1 + 1 + 1, 0, none⟩ c old ((((w.alloc (.cells #[.pointer (some t)] 135)).alloc (.cells #[.pointer (some ⟨2, 135, none⟩), .pointer (some ⟨w.heap.size, 0, none⟩), .int .u64 150] 168)).alloc (.cells #[.pointer (some ⟨2, 135, none⟩), .pointer (some ⟨w.heap.size, 0, none⟩), .int .u64 150] 168)).alloc (.cells #[.int .i64 c] 133))
    (by rw [World.cell?_alloc_at _ _ _ _ (by simp)]; rfl)
    (by rw [World.cell?_alloc_lt _ _ t (by simp; omega), World.cell?_alloc_lt _ _ t (by simp; omega), World.cell?_alloc_lt _ _ t (by simp; omega), World.cell?_alloc_lt _ _ t htl]; exact ht0)
    (by rw [World.frozen?_alloc_old _ _ t (by simp; omega), World.frozen?_alloc_old _ _ t (by simp; omega), World.frozen?_alloc_old _ _ t (by simp; omega), World.frozen?_alloc_old _ _ t (Nat.ne_of_lt htl)]; exact hf0)
  go_enter Tryz.func80, Tryz.ntmps80
  go_wp2
  refine wp_loop_rounds 1 ?_
  rw [rounds_succ]
  go_wp2
  go_ret
  exact ⟨rfl, rfl⟩
end Go.Proofs.YtljlkhaolfihjaaGreatDoor

/- Strings that are no names: their error. -/
namespace Go.Proofs.YtljlkhaolfihjaaGreatDoor
open Go.RowKit

set_option maxRecDepth 100000 in
set_option maxHeartbeats 1600000 in
theorem codeOf_err (c : Int) (w : World) (hL : LaidErr w) : Calls Tryz.prog 47 #[.iface 133 (.agg #[.int .i64 c])] w fun e w' => e = .returned (.int .i64 c) ∧ Below w.heap.size w w' := by
  have h0 : LaidErr (w.alloc (.cells #[.int .i64 0] 133)) := hL.below ((Below.refl _ _).alloc (Nat.le_refl _) _)
  have hb0 : Below w.heap.size w (w.alloc (.cells #[.int .i64 0] 133)) := (Below.refl _ _).alloc (Nat.le_refl _) _
  have hv := heap_alloc_new w (.cells #[.int .i64 0] 133)
  have c0 : (w.alloc (.cells #[.int .i64 0] 133)).cell? ⟨w.heap.size, 0, none⟩ = some (.int .i64 0) := by rw [Lib.cell_of_heap hv]; rfl
  have f0 : (w.alloc (.cells #[.int .i64 0] 133)).frozen? ⟨w.heap.size, 0, none⟩ = false := Lib.frozen_of_heap hv 0
  have Q := Lib.hid (as_hit c ⟨w.heap.size, 0, none⟩ (.int .i64 0) _ h0 c0 f0)
  have hsz : (w.alloc (.cells #[.int .i64 0] 133)).heap.size = w.heap.size + 1 := by simp
  have HV := Lib.hid hv
  clear h0 c0 f0 hL hv
  go_enter Tryz.func47, Tryz.ntmps47
  go_wp2_with fail
  generalize w.alloc (.cells #[.int .i64 0] 133) = W at *
  refine Q.out.mono ?_
  rintro e w1 ⟨rfl, rfl⟩
  have hbN := ((((hb0.alloc hb0.size (.cells #[.pointer (some ⟨w.heap.size, 0, none⟩)] 135)).alloc (by simp; omega) (.cells #[.pointer (some ⟨2, 135, none⟩), .pointer (some ⟨W.heap.size, 0, none⟩), .int .u64 150] 168)).alloc (by simp; omega) (.cells #[.pointer (some ⟨2, 135, none⟩), .pointer (some ⟨W.heap.size, 0, none⟩), .int .u64 150] 168)).alloc (by simp; omega) (.cells #[.int .i64 c] 133)).setCell (p := ⟨w.heap.size, 0, none⟩) (Nat.le_refl _) (.int .i64 c)
  have hcell : (((((W.alloc (.cells #[.pointer (some ⟨w.heap.size, 0, none⟩)] 135)).alloc (.cells #[.pointer (some ⟨2, 135, none⟩), .pointer (some ⟨W.heap.size, 0, none⟩), .int .u64 150] 168)).alloc (.cells #[.pointer (some ⟨2, 135, none⟩), .pointer (some ⟨W.heap.size, 0, none⟩), .int .u64 150] 168)).alloc (.cells #[.int .i64 c] 133)).setCell ⟨w.heap.size, 0, none⟩ (.int .i64 c)).cell? ⟨w.heap.size, 0, none⟩ = some (.int .i64 c) := by
    have h1 := (Below.heap_alloc W (.cells #[.pointer (some ⟨w.heap.size, 0, none⟩)] 135) w.heap.size (by omega)).trans HV.out
    have h2 := (Below.heap_alloc _ (.cells #[.pointer (some ⟨2, 135, none⟩), .pointer (some ⟨W.heap.size, 0, none⟩), .int .u64 150] 168) w.heap.size (by simp; omega)).trans h1
    have h3 := (Below.heap_alloc _ (.cells #[.pointer (some ⟨2, 135, none⟩), .pointer (some ⟨W.heap.size, 0, none⟩), .int .u64 150] 168) w.heap.size (by simp; omega)).trans h2
    have h4 := (Below.heap_alloc _ (.cells #[.int .i64 c] 133) w.heap.size (by simp; omega)).trans h3
    exact (cells_at (Boxed.set (.int .i64 c) h4)).1
  generalize (((((W.alloc (.cells #[.pointer (some ⟨w.heap.size, 0, none⟩)] 135)).alloc (.cells #[.pointer (some ⟨2, 135, none⟩), .pointer (some ⟨W.heap.size, 0, none⟩), .int .u64 150] 168)).alloc (.cells #[.pointer (some ⟨2, 135, none⟩), .pointer (some ⟨W.heap.size, 0, none⟩), .int .u64 150] 168)).alloc (.cells #[.int .i64 c] 133)).setCell ⟨w.heap.size, 0, none⟩ (.int .i64 c)) = V at *
  clear hb0 HV Q
  go_wp2_with fail
  go_ret
  exact ⟨rfl, hbN⟩

/-- What read gives of a string that is no name. -/
def ReadErr (code : Int) (w : World) (e : Ending) (w' : World) : Prop :=
  e = .returned (.tuple #[.agg #[.string ⟨#[]⟩, .int .i64 0], .iface 133 (.agg #[.int .i64 code])]) ∧ Below w.heap.size w w'

set_option maxRecDepth 100000 in
set_option maxHeartbeats 1600000 in
theorem read_short (s : ByteArray) (w : World) (h : s.size = 0) : Calls Tryz.prog 54 #[.string s] w (ReadErr 7 w) := by
  have hz0 : ((s.size : Int) == 0) = true := by rw [beq_iff_eq]; omega
  have hbW : Below w.heap.size w (w.alloc (.cells #[.string ⟨#[]⟩, .int .i64 0] 84)) := (Below.refl _ _).alloc (Nat.le_refl _) _
  clear h
  go_enter Tryz.func54, Tryz.ntmps54
  go_wp2_with fail
  exact bodyPost_ret (v := .tuple #[.agg #[.string ⟨#[]⟩, .int .i64 0], .iface 133 (.agg #[.int .i64 7])]) (by simp [results, Tryz.results54, go_sem]) rfl ⟨rfl, hbW⟩

set_option maxRecDepth 100000 in
set_option maxHeartbeats 1600000 in
theorem read_long (s : ByteArray) (w : World) (h : 6 < s.size) : Calls Tryz.prog 54 #[.string s] w (ReadErr 10 w) := by
  have hz0 : ((s.size : Int) == 0) = false := by rw [beq_eq_false_iff_ne]; omega
  have hz6 : decide ((s.size : Int) > 6) = true := decide_eq_true (by omega)
  have hbW : Below w.heap.size w (w.alloc (.cells #[.string ⟨#[]⟩, .int .i64 0] 84)) := (Below.refl _ _).alloc (Nat.le_refl _) _
  go_enter Tryz.func54, Tryz.ntmps54
  go_wp2_with fail
  exact bodyPost_ret (v := .tuple #[.agg #[.string ⟨#[]⟩, .int .i64 0], .iface 133 (.agg #[.int .i64 10])]) (by simp [results, Tryz.results54, go_sem]) rfl ⟨rfl, hbW⟩

/-- The first letter that a name can't have there. -/
theorem bad_place {l : List UInt8} (h : Sp.check l = 2) : ∃ p, ∃ hp : p < l.length, (∀ i (hi : i < p), alphaP (l[i]'(by omega)).toNat = alphaP (l[0]'(by omega)).toNat ∧ alphaP (l[0]'(by omega)).toNat ≠ 0) ∧
    (alphaP l[p].toNat = 0 ∨ (0 < p ∧ alphaP l[p].toNat ≠ alphaP (l[0]'(by omega)).toNat)) := by
  have hne : l ≠ [] := by
    intro e
    subst e
    revert h
    decide
  obtain ⟨c0, t, rfl⟩ := List.exists_cons_of_ne_nil hne
  let bad : UInt8 → Bool := fun c => !(alphaP c.toNat == alphaP c0.toNat) || alphaP c0.toNat == 0
  have hex : ∃ c, c ∈ (c0 :: t) ∧ bad c = true := by
    refine Classical.byContradiction fun hno => ?_
    have hall : ∀ c, c ∈ (c0 :: t) → alphaP c.toNat = alphaP c0.toNat ∧ alphaP c0.toNat ≠ 0 := by
      intro c hc
      have hb : bad c = false := by
        cases hb : bad c with
        | false => rfl
        | true => exact absurd ⟨c, hc, hb⟩ hno
      simp only [bad, Bool.or_eq_false_iff, Bool.not_eq_false', beq_iff_eq, beq_eq_false_iff_ne] at hb
      exact hb
    unfold Sp.check at h
    split at h
    · cases h
    · split at h
      · cases h
      · split at h
        · rename_i h2
          have h3 : Sp.own (c0 :: t) < (c0 :: t).length ∧ Sp.other (c0 :: t) < (c0 :: t).length := h2
          rcases (alpha_lat c0).2.2 with e | e | e
          · exact (hall c0 (by simp)).2 e
          · have : Sp.own (c0 :: t) = (c0 :: t).length := by
              unfold Sp.own
              rw [List.filter_eq_self.2 fun c hc => (alpha_lat c).1.1 ((hall c hc).1.trans e)]
            omega
          · have : Sp.other (c0 :: t) = (c0 :: t).length := by
              unfold Sp.other
              rw [List.filter_eq_self.2 fun c hc => by
                have := ((alpha_lat c).2.1.1 ((hall c hc).1.trans e)).2
                simpa using this]
            omega
        · cases h
  have hlt : (c0 :: t).findIdx bad < (c0 :: t).length := List.findIdx_lt_length_of_exists hex
  obtain ⟨k, hlt, hbk, hgd⟩ : ∃ k, ∃ hlt : k < (c0 :: t).length, bad (c0 :: t)[k] = true ∧ ∀ i (hi : i < k), bad ((c0 :: t)[i]'(Nat.lt_trans hi hlt)) = false :=
    ⟨(c0 :: t).findIdx bad, hlt, List.findIdx_getElem (w := hlt), fun i hi => by
      have h1 := List.not_of_lt_findIdx hi
      simpa using h1⟩
  refine ⟨k, hlt, fun i hi => ?_, ?_⟩
  · have h1 := hgd i hi
    simp only [bad, Bool.or_eq_false_iff, Bool.not_eq_false', beq_iff_eq, beq_eq_false_iff_ne] at h1
    exact h1
  · simp only [bad, Bool.or_eq_true, Bool.not_eq_true', beq_eq_false_iff_ne, beq_iff_eq] at hbk
    cases k with
    | zero =>
      refine .inl ?_
      rcases hbk with h1 | h1
      · exact absurd rfl h1
      · exact h1
    | succ k =>
      rcases hbk with h1 | h1
      · exact .inr ⟨by omega, h1⟩
      · have h2 := hgd 0 (by omega)
        simp only [bad, Bool.or_eq_false_iff, beq_eq_false_iff_ne] at h2
        exact absurd h1 h2.2

/-- The alphabet of the letters that were read, of any string. -/
def alE (l : List UInt8) (k : Nat) : Int := if k = 0 then 0 else alphaP (l.getD 0 0).toNat
theorem alpha_ascii {c : UInt8} (h : alphaP c.toNat ≠ 0) : c.toNat < 128 := by
  by_cases hh : c.toNat < 128
  · exact hh
  · exfalso
    apply h
    unfold alphaP kindP
    have a : ¬ (97 ≤ (c.toNat : Int) ∧ (c.toNat : Int) ≤ 122) := by omega
    have b : (c.toNat : Int) < 65 ∨ 90 < (c.toNat : Int) := by omega
    rw [if_neg a, if_pos b]
    simp
theorem alpha_far {r : Int} (h : 128 ≤ r) : alphaP r = 0 := by
  unfold alphaP kindP
  have a : ¬ (97 ≤ r ∧ r ≤ 122) := by omega
  have b : r < 65 ∨ 90 < r := by omega
  rw [if_neg a, if_pos b]
  simp

set_option maxRecDepth 100000 in
set_option maxHeartbeats 1600000 in
theorem read_bad (s : ByteArray) (w : World) (h1 : 1 ≤ s.size) (h6 : s.size ≤ 6) (h : Sp.check s.data.toList = 2) : Calls Tryz.prog 54 #[.string s] w (ReadErr 2 w) := by
  have hsl := size_list s
  obtain ⟨p, hp, hgood, hbad⟩ := bad_place h
  have hps : p < s.size := by omega
  have hz0 : ((s.size : Int) == 0) = false := by rw [beq_eq_false_iff_ne]; omega
  have hz6 : decide ((s.size : Int) > 6) = false := decide_eq_false (by omega)
  have he0 : s.data.toList.getD 0 0 = s.data.toList[0]'(by omega) := by rw [List.getD_eq_getElem?_getD, List.getElem?_eq_getElem (by omega)]; rfl
  have hlong := latP_flat_le s.data.toList
  have hgood' : ∀ i (hi : i < p), alphaP (s[i]'(by omega)).toNat = alphaP (s.data.toList.getD 0 0).toNat ∧ alphaP (s.data.toList.getD 0 0).toNat ≠ 0 := fun i hi => by
    have := hgood i hi
    rw [he0]
    exact this
  have hbad' : alphaP (Utf8.decode s p).1 = 0 ∨ (0 < p ∧ alphaP (Utf8.decode s p).1 ≠ alphaP (s.data.toList.getD 0 0).toNat) := by
    by_cases ha : (s[p]'hps).toNat < 128
    · rw [decode_ascii s p hps ha, he0]
      exact hbad
    · exact .inl (alpha_far (by have := (decode_high s p hps (by omega)).1; omega))
  have HG := Lib.hid hgood'
  have HB := Lib.hid hbad'
  have HSL := Lib.hid hsl
  clear hgood hbad hgood' hbad' he0 h hlong
  go_enter Tryz.func54, Tryz.ntmps54
  go_wp2_with fail
  go_loopw [5] (fun al wr => ∃ k : Nat, k ≤ p ∧ al = .int .i64 (alE s.data.toList k) ∧ IsBld (w.heap.size + 1) (w.heap.size + 1) ((s.data.toList.take k).flatMap latP) wr ∧ wr.heap[w.heap.size + 1 + 1]? = some (.stringIter s k) ∧
    wr.heap[w.heap.size]? = some (.cells #[.string ⟨#[]⟩, .int .i64 0] 84 (0, 0)) ∧ Below w.heap.size w wr) (fun _ wr => s.size - wr.iterPos (w.heap.size + 1 + 1))
  case atStart =>
    refine ⟨0, Nat.zero_le _, rfl, ?_, ?_, ?_, (((Below.refl _ w).alloc (Nat.le_refl _) _).alloc (by simp) _).alloc (by simp; omega) _⟩
    · have := (Lib.IsBuilderF.of (Lib.fresh_isBuilder 144 5 (w.alloc (.cells #[.string ⟨#[]⟩, .int .i64 0] 84)))).alloc (.stringIter s 0)
      simp only [World.size_alloc] at this
      exact this
    · have := World.iter_heap ((w.alloc (.cells #[.string ⟨#[]⟩, .int .i64 0] 84)).alloc (.cells #[.pointer none, .slice none 0 0] 144)) s 0
      simpa using this
    · have h1 := heap_alloc_new w (.cells #[.string ⟨#[]⟩, .int .i64 0] 84)
      exact (Below.heap_alloc _ _ _ (by simp; omega)).trans ((Below.heap_alloc _ _ _ (by simp)).trans h1)
  case round =>
    obtain ⟨k, hk, rfl, hI, hit, hres, hb⟩ := hrel
    have hsz : w.heap.size + 1 + 1 < wr.heap.size := bld_lt hit
    have hle := latP_flat_le (s.data.toList.take k)
    have hle2 := List.length_take_le k s.data.toList
    have hle3 : ((s.data.toList.take k).flatMap latP).length ≤ 12 := by omega
    clear hle hle2
    by_cases hlt : k < p
    · have hks : k < s.size := by omega
      obtain ⟨hc1, hc0⟩ := HG.out k hlt
      have hc2 : (s[k]'hks).toNat < 128 := alpha_ascii (by rw [hc1]; exact hc0)
      have hal := alpha_call ((s[k]'hks).toNat : Int) _ hc1
      have hnx : ∀ ty, (Instr.next (.pointer (some ⟨w.heap.size + 1 + 1, 0, none⟩)) true ty).run Tryz.prog wr = _ := fun ty => Lib.run_next_ascii_at wr (w.heap.size + 1 + 1) s k ty hit hks hc2
      have hI2 := hI.iterAt hit (k + 1)
      have hit2 := Lib.iterAt_heap wr (w.heap.size + 1 + 1) s k (k + 1) hit
      have hb2 := Lib.below_iterAt hb (k := w.heap.size + 1 + 1) (by omega) s (k + 1)
      have hsz2 : w.heap.size + 1 ≤ (wr.iterAt (w.heap.size + 1 + 1) s (k + 1)).heap.size := by rw [Lib.iterAt_size]; omega
      have hres2 : (wr.iterAt (w.heap.size + 1 + 1) s (k + 1)).heap[w.heap.size]? = some (.cells #[.string ⟨#[]⟩, .int .i64 0] 84 (0, 0)) := (Lib.iterAt_other wr _ _ s (k + 1) (by omega)).trans hres
      have hts := take_snoc s k hks
      have hll := latP_le (s[k]'hks)
      have hlat := fun W => latinP_any (s[k]'hks) W hc2
      have hbl : (Lib.byteCells ((s.data.toList.take k).flatMap latP)).length + (⟨(latP (s[k]'hks)).toArray⟩ : ByteArray).size ≤ 1000000 := by
        rw [Lib.byteCells_length]
        show _ + (latP (s[k]'hks)).toArray.size ≤ _
        rw [List.size_toArray]
        omega
      have HBL := Lib.hid hbl
      have HLAT := Lib.hid hlat
      have HTS := Lib.hid hts
      have HAL := Lib.hid hal
      clear hc1 hal hlat hts hbl
      generalize hC : (s[k]'hks) = C at *
      have HC := Lib.hid hC
      clear hC
      obtain ⟨v, a, hv, ha, hva⟩ : ∃ v a : Int, alE s.data.toList k = v ∧ alphaP (s.data.toList.getD 0 0).toNat = a ∧ ((a = 1 ∧ v = 0) ∨ (a = 1 ∧ v = 1) ∨ (a = 2 ∧ v = 0) ∨ (a = 2 ∧ v = 2)) := by
        refine ⟨_, _, rfl, rfl, ?_⟩
        unfold alE
        rcases (alpha_lat (s.data.toList.getD 0 0)).2.2 with h | h | h
        · exact absurd h hc0
        all_goals
          by_cases h0 : k = 0
          · rw [if_pos h0, h]; simp
          · rw [if_neg h0, h]; simp
      have HAL2 : Hid (∀ W : World, Calls Tryz.prog 86 #[.int .i32 (C.toNat : Int)] W fun e w' => e = .returned (.int .i64 a) ∧ W = w') := by
        have := HAL.out; rw [ha] at this; exact this
      have hal1 : alE s.data.toList (k + 1) = a := by unfold alE; rw [if_neg (by omega), ha]
      have HAL1 := Lib.hid hal1
      rw [hv]
      clear hv ha HAL hal1 hc0
      rcases hva with ⟨rfl, rfl⟩ | ⟨rfl, rfl⟩ | ⟨rfl, rfl⟩ | ⟨rfl, rfl⟩
      all_goals
        go_wp2_with fail
        refine (HAL2.out _).mono ?_
        rintro e w' ⟨rfl, rfl⟩
        go_wp2_with fail
        refine (HLAT.out _).mono ?_
        rintro e w' ⟨rfl, rfl⟩
        go_wp2_with fail
        refine (bld_string (w.heap.size + 1) (w.heap.size + 1) _ _ _ hI2 HBL.out hsz2).mono ?_
        rintro e W1 ⟨rfl, h1, b1, k1⟩
        have hit3 := k1.iter hit2 (by omega)
        have hres3 := (b1.block w.heap.size (by omega)).trans hres2
        have hb3 := hb2.trans (b1.mono (by omega))
        go_wp2
        go_roundw
        case rel =>
          refine ⟨k + 1, by omega, by rw [HAL1.out], ?_, hit3, hres3, hb3⟩
          have h2 : Lib.IsBuilderF 144 5 (w.heap.size + 1) (w.heap.size + 1) _ W1 := Or.inr h1
          have h3 : Lib.byteCells ((s.data.toList.take (k + 1)).flatMap latP) = Lib.byteCells ((s.data.toList.take k).flatMap latP) ++ Lib.strCells (⟨(latP C).toArray⟩ : ByteArray) := by
            rw [HTS.out, List.flatMap_append, Lib.byteCells_append, bytes_str]
            simp
          show Lib.IsBuilderF 144 5 (w.heap.size + 1) (w.heap.size + 1) (Lib.byteCells ((s.data.toList.take (k + 1)).flatMap latP)) W1
          rw [h3]
          exact h2
        case measure =>
          simp only [World.iterPos, hit3, hit]
          omega
    · obtain rfl : k = p := by omega
      have hnx : ∀ ty, (Instr.next (.pointer (some ⟨w.heap.size + 1 + 1, 0, none⟩)) true ty).run Tryz.prog wr = _ := fun ty => Lib.run_next_any_at wr (w.heap.size + 1 + 1) s k ty hit hps
      have hb2 := Lib.below_iterAt hb (k := w.heap.size + 1 + 1) (by omega) s (k + (Utf8.decode s k).2)
      have hres2 : (wr.iterAt (w.heap.size + 1 + 1) s (k + (Utf8.decode s k).2)).heap[w.heap.size]? = some (.cells #[.string ⟨#[]⟩, .int .i64 0] 84 (0, 0)) := (Lib.iterAt_other wr _ _ s _ (by omega)).trans hres
      obtain ⟨q, hq⟩ : ∃ q, alphaP (Utf8.decode s k).1 = q := ⟨_, rfl⟩
      have hal := alpha_call (Utf8.decode s k).1 _ hq
      obtain ⟨v, hv, hva⟩ : ∃ v : Int, alE s.data.toList k = v ∧ ((q == 0) = true ∨ ((q == 0) = false ∧ (v != 0) = true ∧ (v != q) = true)) := by
        refine ⟨_, rfl, ?_⟩
        have hbb := HB.out
        rw [hq] at hbb
        by_cases h0 : q = 0
        · exact .inl (by simp [h0])
        · rcases hbb with hbb | ⟨hb1, hb2⟩
          · exact absurd hbb h0
          · refine .inr ⟨by simp [h0], ?_, ?_⟩
            · unfold alE
              rw [if_neg (by omega)]
              have := (HG.out 0 hb1).2
              simpa using this
            · unfold alE
              rw [if_neg (by omega), bne_iff_ne]
              exact fun h => hb2 h.symm
      have HAL := Lib.hid hal
      rw [hv]
      clear hal hq hv hI hle3
      generalize (Utf8.decode s k).1 = r at *
      generalize (Utf8.decode s k).2 = d at *
      obtain ⟨c0, c1, f0, f1⟩ := block2_cells hres2
      obtain ⟨z0, z1, _, _⟩ := block2_cells (block2 hres2 (.string ⟨#[]⟩) (.int .i64 0))
      have hbb := (hb2.setCell (p := ⟨w.heap.size, 0, none⟩) (Nat.le_refl _) (.string ⟨#[]⟩)).setCell (p := ⟨w.heap.size, 1, none⟩) (Nat.le_refl _) (.int .i64 0)
      have Z0 := Lib.hid z0
      have Z1 := Lib.hid z1
      clear z0 z1
      rcases hva with m1 | ⟨m1, m2, m3⟩
      all_goals
        go_wp2_with fail
        refine (HAL.out _).mono ?_
        rintro e w' ⟨rfl, rfl⟩
        go_wp2_with fail
        have z0 := Z0.out
        have z1 := Z1.out
        exact bodyPost_ret (v := .tuple #[.agg #[.string ⟨#[]⟩, .int .i64 0], .iface 133 (.agg #[.int .i64 2])]) (by simp [results, Tryz.results54, go_sem, z0, z1]) rfl ⟨rfl, hbb⟩
end Go.Proofs.YtljlkhaolfihjaaGreatDoor

/- Check, Key and Other of any string. -/
namespace Go.Proofs.YtljlkhaolfihjaaGreatDoor
open Go.RowKit

theorem check_cases (l : List UInt8) (h : Sp.check l ≠ 0) : (l.length = 0 ∧ Sp.check l = 7) ∨ (6 < l.length ∧ Sp.check l = 10) ∨ (1 ≤ l.length ∧ l.length ≤ 6 ∧ Sp.check l = 2) := by
  unfold Sp.check at *
  by_cases h0 : l.length = 0
  · rw [if_pos h0]; exact .inl ⟨h0, rfl⟩
  · rw [if_neg h0] at *
    by_cases h6 : 6 < l.length
    · rw [if_pos h6]; exact .inr (.inl ⟨h6, rfl⟩)
    · rw [if_neg h6] at *
      split at h
      · rename_i h2
        rw [if_pos h2]
        exact .inr (.inr ⟨by omega, by omega, rfl⟩)
      · exact absurd rfl h
theorem read_err (s : ByteArray) (w : World) (h : Sp.check s.data.toList ≠ 0) : Calls Tryz.prog 54 #[.string s] w (ReadErr (Sp.check s.data.toList) w) := by
  have hl : s.data.toList.length = s.size := by simp
  rcases check_cases _ h with ⟨h1, e⟩ | ⟨h1, e⟩ | ⟨h1, h2, e⟩
  · rw [e]; exact read_short s w (by omega)
  · rw [e]; exact read_long s w (by omega)
  · rw [e]; exact read_bad s w (by omega) (by omega) e

def CheckAns (s : ByteArray) (w : World) (e : Ending) (w' : World) : Prop := e = .returned (.int .i64 (Sp.check s.data.toList)) ∧ Below w.heap.size w w'
set_option maxRecDepth 100000 in
set_option maxHeartbeats 400000 in
theorem Check_err (s : ByteArray) (w : World) (hL : LaidErr w) (h : Sp.check s.data.toList ≠ 0) : Calls Tryz.prog 23 #[.string s] w (CheckAns s w) := by
  have Q := Lib.hid (fun W => read_err s W h)
  unfold CheckAns
  generalize Sp.check s.data.toList = c at *
  have HL := Lib.hid hL
  clear h hL
  go_enter Tryz.func23, Tryz.ntmps23
  go_wp2_with fail
  refine (Q.out _).mono ?_
  rintro e w1 ⟨rfl, hb1⟩
  go_wp2_with fail
  refine (codeOf_err c _ ((HL.out.below hb1).below ((Below.refl _ _).alloc (Nat.le_refl _) _))).mono ?_
  rintro e w2 ⟨rfl, hb2⟩
  go_wp2_with fail
  go_ret
  exact ⟨rfl, (hb1.alloc hb1.size _).trans (hb2.mono (by have := hb1.size; simp; omega))⟩
theorem pCheck_any (s : ByteArray) (w : World) (hL : LaidErr w) : Calls Tryz.prog 23 #[.string s] w (CheckAns s w) := by
  by_cases h : Sp.check s.data.toList = 0
  · unfold CheckAns
    rw [h]
    exact Check_ok s w h
  · exact Check_err s w hL h

set_option maxRecDepth 100000 in
set_option maxHeartbeats 400000 in
theorem Key_err (s : ByteArray) (w : World) (hL : LaidErr w) (h : Sp.check s.data.toList ≠ 0) : Calls Tryz.prog 24 #[.string s] w fun e w' => e = .returned (.tuple #[.string ⟨#[]⟩, .int .i64 (Sp.check s.data.toList)]) ∧ Below w.heap.size w w' := by
  have Q := Lib.hid (fun W => read_err s W h)
  generalize Sp.check s.data.toList = c at *
  have HL := Lib.hid hL
  clear h hL
  go_enter Tryz.func24, Tryz.ntmps24
  go_wp2_with fail
  refine (Q.out _).mono ?_
  rintro e w1 ⟨rfl, hb1⟩
  go_wp2_with fail
  have hb2 := hb1.alloc (o := .cells #[.string ⟨#[]⟩, .int .i64 0] 84) hb1.size
  have c0 : (w1.alloc (.cells #[.string ⟨#[]⟩, .int .i64 0] 84)).cell? ⟨w1.heap.size, 0, none⟩ = some (.string ⟨#[]⟩) := by rw [Lib.cell_of_heap (heap_alloc_new w1 _)]; rfl
  generalize w1.alloc (.cells #[.string ⟨#[]⟩, .int .i64 0] 84) = W at *
  obtain ⟨T, g, hg0, hgb, hgx, hT⟩ : ∃ (T : Type) (g : T → World), (∃ x, W.drew = g x) ∧ (∀ x, Below W.heap.size W (g x)) ∧ (∀ x, (g x).cell? ⟨w1.heap.size, 0, none⟩ = some (.string ⟨#[]⟩)) ∧
      (∀ x, Calls Tryz.prog 47 #[.iface 133 (.agg #[.int .i64 c])] (g x) fun e w' => e = .returned (.int .i64 c) ∧ ∃ y, w' = g y) :=
    ⟨Since W, Subtype.val, Since.here W, fun x => x.property, fun x => x.cell c0, fun x => x.calls (codeOf_err c _ ((HL.out.below hb2).below x.property))⟩
  have hTne : Nonempty T := let ⟨x, _⟩ := hg0; ⟨x⟩
  have HT1 := Lib.hid hT
  clear hT c0
  refine wp_region_class g hg0 (by kernel_rfl) (by kernel_rfl) ?_
  repeat (go_big_quiet_step (fail))
  go_big_quiet_step (exact HT1.out _)
  repeat (go_big_quiet_step (fail))
  refine wpQuiet_nil ?_
  rintro _ ⟨xq, rfl⟩
  have hbq := hgb xq
  have t5 := hb2.trans (hbq.mono hb2.size)
  clear hgb hgx hg0
  go_wp2_with fail
  go_ret2
  exact ⟨rfl, t5⟩
theorem pKey_any (s : ByteArray) (w : World) (hL : LaidErr w) : Calls Tryz.prog 24 #[.string s] w (KeyPost s w) := by
  by_cases h : Sp.check s.data.toList = 0
  · refine (Key_ok s w h).mono ?_
    rintro e w' ⟨rfl, hb⟩
    refine ⟨?_, hb⟩
    rw [h]
    unfold Sp.keyR
    rw [if_pos h]
    rfl
  · refine (Key_err s w hL h).mono ?_
    rintro e w' ⟨rfl, hb⟩
    refine ⟨?_, hb⟩
    unfold Sp.keyR
    rw [if_neg h]

set_option maxRecDepth 100000 in
set_option maxHeartbeats 400000 in
theorem Other_err (s : ByteArray) (w : World) (hL : LaidErr w) (h : Sp.check s.data.toList ≠ 0) : Calls Tryz.prog 25 #[.string s] w fun e w' => e = .returned (.tuple #[.string ByteArray.empty, .int .i64 (Sp.check s.data.toList)]) ∧ Below w.heap.size w w' := by
  have Q := Lib.hid (fun W => read_err s W h)
  generalize Sp.check s.data.toList = c at *
  have HL := Lib.hid hL
  clear h hL
  go_enter Tryz.func25, Tryz.ntmps25
  go_wp2_with fail
  refine (Q.out _).mono ?_
  rintro e w1 ⟨rfl, hb1⟩
  go_wp2_with fail
  refine (codeOf_err c _ ((HL.out.below hb1).below ((Below.refl _ _).alloc (Nat.le_refl _) _))).mono ?_
  rintro e w2 ⟨rfl, hb2⟩
  go_wp2_with fail
  go_ret2
  exact ⟨rfl, (hb1.alloc hb1.size _).trans (hb2.mono (by have := hb1.size; simp; omega))⟩
theorem pOther_any (s : ByteArray) (w : World) (hL : LaidErr w) : Calls Tryz.prog 25 #[.string s] w (StrErrPost (otherP s) w) := by
  by_cases h : Sp.check s.data.toList = 0
  · exact Other_ok s w h
  · have e : otherP s = (ByteArray.empty, Sp.check s.data.toList) := by unfold otherP; rw [if_neg h]
    rw [e]
    exact Other_err s w hL h
end Go.Proofs.YtljlkhaolfihjaaGreatDoor
