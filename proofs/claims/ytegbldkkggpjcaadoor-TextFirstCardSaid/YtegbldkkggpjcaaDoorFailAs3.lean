/- The contracts of errors.As at the targets *api.Errno and **fail.Fault, upon those of errors.as; of errors.Is at two numbers. -/
import Derived.Test.YtegbldkkggpjcaaDoorFailAs2
import Derived.Lib.IfaceEq
namespace Go.Proofs.YtegbldkkggpjcaaDoor
open Go.RowKit Go.Extern.Stop Go.Stop Go.Extern

/-- The library's one variable: the type error. -/
def Laid (w : World) : Prop := w.cell? ⟨0, 0, none⟩ = some (.iface 143 (.agg #[.pointer (some ⟨2, 47, none⟩)]))
theorem Laid.pos {w : World} (h : Laid w) : 0 < w.heap.size := World.block_lt_of_cell? _ _ h
theorem Laid.alloc {w : World} (h : Laid w) (o : Obj) : Laid (w.alloc o) := by
  unfold Laid; rw [World.cell?_alloc_lt _ _ ⟨0, 0, none⟩ h.pos]; exact h
theorem Laid.below {w w' : World} {B : Nat} (h : Laid w) (hb : RowKit.Below B w w') (hB : 0 < B) : Laid w' := by
  unfold Laid; rw [hb.cell (p := ⟨0, 0, none⟩) hB]; exact h

theorem As_nil (t : Value) (w : World) : Calls Tryd.prog 59 #[.nilIface, t] w fun e w' => e = .returned (.bool false) ∧ w = w' := by
  go_enter Tryd.func59, Tryd.ntmps59
  go_wp2
  go_ret
  exact ⟨rfl, rfl⟩


set_option maxRecDepth 100000 in
set_option maxHeartbeats 4000000 in
theorem As_N (d : TypeId) (x : Value) (t : Addr) (r : Bool) (w W2 : World) (hg : Laid w)
    (hc : Calls Tryd.prog 76 #[.iface d x, .iface 103 (.pointer (some t)), .agg #[.pointer (some ⟨2, 103, none⟩), .pointer (some ⟨w.heap.size, 0, none⟩), .int .u64 150], .iface 143 (.agg #[.pointer (some ⟨2, 33, none⟩)])] ((w.alloc (.cells #[.pointer (some t)] 103)).alloc (.cells #[.pointer (some ⟨2, 103, none⟩), .pointer (some ⟨w.heap.size, 0, none⟩), .int .u64 150] 125)) fun e w' => e = .returned (.bool r) ∧ w' = W2) :
    Calls Tryd.prog 59 #[.iface d x, .iface 103 (.pointer (some t))] w fun e w' => e = .returned (.bool r) ∧ w' = W2 := by
  have h6 := @run_callFunc_extern Tryd.prog 73 _ (fun args => ReflectliteValue.unpack (args.getD 0 (.tuple #[]))) Tryd.func73 (by kernel_rfl) (by kernel_rfl) (by kernel_rfl) (by kernel_rfl)
  have h7 := @run_callFunc_extern Tryd.prog 74 _ (ReflectliteValue.methodAny (ReflectliteValue.valueError "reflectlite.Value.Type" 0) (fun t _ _ _ => ReflectliteType.toType t)) Tryd.func74 (by kernel_rfl) (by kernel_rfl) (by kernel_rfl) (by kernel_rfl)
  have h8 := @run_callFunc_extern Tryd.prog 75 _ (ReflectliteValue.method (ReflectliteValue.valueError "reflectlite.Value.IsNil" 0) ReflectliteValue.isNil) Tryd.func75 (by kernel_rfl) (by kernel_rfl) (by kernel_rfl) (by kernel_rfl)
  have h27 := @run_callFunc_extern Tryd.prog 102 _ (ReflectliteType.abiMethod fun t => do pure (.int .u8 (← Rtype.kind t))) Tryd.func102 (by kernel_rfl) (by kernel_rfl) (by kernel_rfl) (by kernel_rfl)
  have h37 := @run_callFunc_extern Tryd.prog 114 _ (ReflectliteType.method ReflectliteType.elem) Tryd.func114 (by kernel_rfl) (by kernel_rfl) (by kernel_rfl) (by kernel_rfl)
  have h38 := @run_callFunc_extern Tryd.prog 115 _ (ReflectliteType.relation "Implements" ReflectliteType.implements_) Tryd.func115 (by kernel_rfl) (by kernel_rfl) (by kernel_rfl) (by kernel_rfl)
  have f6 := valueOfTN
  have f7 := typeTN
  have mK := methKind
  have mE := methElem
  have mI := methImplements
  have k27 := kindTN
  have k25 := kindEN
  have e27 := elemTN
  have i25 := implEN
  have n8 := isNilTN ⟨w.heap.size, 0, none⟩ t ((w.alloc (.cells #[.pointer (some t)] 103)).alloc (.cells #[.pointer (some ⟨2, 103, none⟩), .pointer (some ⟨w.heap.size, 0, none⟩), .int .u64 150] 125)) (by simp)
  have hg2 : ((w.alloc (.cells #[.pointer (some t)] 103)).alloc (.cells #[.pointer (some ⟨2, 103, none⟩), .pointer (some ⟨w.heap.size, 0, none⟩), .int .u64 150] 125)).cell? ⟨0, 0, none⟩ = some (.iface 143 (.agg #[.pointer (some ⟨2, 47, none⟩)])) := (hg.alloc _).alloc _
  have HC := Lib.hid hc
  clear hc hg
  go_enter Tryd.func59, Tryd.ntmps59
  go_wp2_with (go_at_call 76; refine HC.out.mono ?_; rintro e w' ⟨rfl, rfl⟩)
  go_ret
  exact ⟨rfl, rfl⟩


set_option maxRecDepth 100000 in
set_option maxHeartbeats 4000000 in
theorem As_F (d : TypeId) (x : Value) (t : Addr) (r : Bool) (w W2 : World) (hg : Laid w)
    (hc : Calls Tryd.prog 76 #[.iface d x, .iface 136 (.pointer (some t)), .agg #[.pointer (some ⟨2, 136, none⟩), .pointer (some ⟨w.heap.size, 0, none⟩), .int .u64 150], .iface 143 (.agg #[.pointer (some ⟨2, 104, none⟩)])] ((w.alloc (.cells #[.pointer (some t)] 136)).alloc (.cells #[.pointer (some ⟨2, 136, none⟩), .pointer (some ⟨w.heap.size, 0, none⟩), .int .u64 150] 125)) fun e w' => e = .returned (.bool r) ∧ w' = W2) :
    Calls Tryd.prog 59 #[.iface d x, .iface 136 (.pointer (some t))] w fun e w' => e = .returned (.bool r) ∧ w' = W2 := by
  have h6 := @run_callFunc_extern Tryd.prog 73 _ (fun args => ReflectliteValue.unpack (args.getD 0 (.tuple #[]))) Tryd.func73 (by kernel_rfl) (by kernel_rfl) (by kernel_rfl) (by kernel_rfl)
  have h7 := @run_callFunc_extern Tryd.prog 74 _ (ReflectliteValue.methodAny (ReflectliteValue.valueError "reflectlite.Value.Type" 0) (fun t _ _ _ => ReflectliteType.toType t)) Tryd.func74 (by kernel_rfl) (by kernel_rfl) (by kernel_rfl) (by kernel_rfl)
  have h8 := @run_callFunc_extern Tryd.prog 75 _ (ReflectliteValue.method (ReflectliteValue.valueError "reflectlite.Value.IsNil" 0) ReflectliteValue.isNil) Tryd.func75 (by kernel_rfl) (by kernel_rfl) (by kernel_rfl) (by kernel_rfl)
  have h27 := @run_callFunc_extern Tryd.prog 102 _ (ReflectliteType.abiMethod fun t => do pure (.int .u8 (← Rtype.kind t))) Tryd.func102 (by kernel_rfl) (by kernel_rfl) (by kernel_rfl) (by kernel_rfl)
  have h37 := @run_callFunc_extern Tryd.prog 114 _ (ReflectliteType.method ReflectliteType.elem) Tryd.func114 (by kernel_rfl) (by kernel_rfl) (by kernel_rfl) (by kernel_rfl)
  have h38 := @run_callFunc_extern Tryd.prog 115 _ (ReflectliteType.relation "Implements" ReflectliteType.implements_) Tryd.func115 (by kernel_rfl) (by kernel_rfl) (by kernel_rfl) (by kernel_rfl)
  have f6 := valueOfTF
  have f7 := typeTF
  have mK := methKind
  have mE := methElem
  have mI := methImplements
  have k27 := kindTF
  have k25 := kindEF
  have e27 := elemTF
  have i25 := implEF
  have n8 := isNilTF ⟨w.heap.size, 0, none⟩ t ((w.alloc (.cells #[.pointer (some t)] 136)).alloc (.cells #[.pointer (some ⟨2, 136, none⟩), .pointer (some ⟨w.heap.size, 0, none⟩), .int .u64 150] 125)) (by simp)
  have hg2 : ((w.alloc (.cells #[.pointer (some t)] 136)).alloc (.cells #[.pointer (some ⟨2, 136, none⟩), .pointer (some ⟨w.heap.size, 0, none⟩), .int .u64 150] 125)).cell? ⟨0, 0, none⟩ = some (.iface 143 (.agg #[.pointer (some ⟨2, 47, none⟩)])) := (hg.alloc _).alloc _
  have HC := Lib.hid hc
  clear hc hg
  go_enter Tryd.func59, Tryd.ntmps59
  go_wp2_with (go_at_call 76; refine HC.out.mono ?_; rintro e w' ⟨rfl, rfl⟩)
  go_ret
  exact ⟨rfl, rfl⟩


set_option maxRecDepth 100000 in
set_option maxHeartbeats 4000000 in
theorem compN (w : World) : (ReflectliteType.method (fun t => do Rtype.noPackHeld "Comparable" t; (fun a : TypeInfo => Value.bool a.comparable) <$> typeInfo t) #[.agg #[.pointer (some ⟨2, 33, none⟩)]]).run Tryd.prog w = .ok (.bool true) w := by kernel_rfl
set_option maxRecDepth 100000 in
set_option maxHeartbeats 4000000 in
theorem is_N (c d : Int) (w : World) : Calls Tryd.prog 83 #[.iface 33 (.int .i64 c), .iface 33 (.int .i64 d), .bool true] w fun e w' => e = .returned (.bool (decide (c = d))) ∧ w = w' := by
  have q := fun (a b : Int) (w : World) => Lib.run_eql_iface_int (P := Tryd.prog) w (t := 47) (tx := 33) (k := .i64) a b Tryd.underlying47 (by kernel_rfl) Tryd.underlying33
  have sA := assertIsN
  have sU := assertUnwN
  have sV := assertUnwsN
  by_cases h : c = d
  · have hb : (c == d) = true := by simp [h]
    have hd : decide (c = d) = true := by simp [h]
    rw [hd]
    clear h hd
    go_enter Tryd.func83, Tryd.ntmps83
    go_wp2
    refine wp_loop_rounds 1 ?_
    rw [rounds_succ]
    go_wp2
    go_ret
    exact ⟨rfl, rfl⟩
  · have hb : (c == d) = false := by simp [h]
    have hd : decide (c = d) = false := by simp [h]
    rw [hd]
    clear h hd
    go_enter Tryd.func83, Tryd.ntmps83
    go_wp2
    refine wp_loop_rounds 1 ?_
    rw [rounds_succ]
    go_wp2
    go_ret
    exact ⟨rfl, rfl⟩
set_option maxRecDepth 100000 in
set_option maxHeartbeats 4000000 in
theorem Is_N (c d : Int) (w : World) : Calls Tryd.prog 69 #[.iface 33 (.int .i64 c), .iface 33 (.int .i64 d)] w fun e w' => e = .returned (.bool (decide (c = d))) ∧ w = w' := by
  have h39 := @run_callFunc_extern Tryd.prog 82 _ ReflectliteType.typeOf Tryd.func82 (by kernel_rfl) (by kernel_rfl) (by kernel_rfl) (by kernel_rfl)
  have h75 := @run_callFunc_extern Tryd.prog 113 _ (ReflectliteType.method fun t => do Rtype.noPackHeld "Comparable" t; pure (.bool (← typeInfo t).comparable)) Tryd.func113 (by kernel_rfl) (by kernel_rfl) (by kernel_rfl) (by kernel_rfl)
  have tN := typeOfEN
  have mC := methComparable
  have cN := compN
  go_enter Tryd.func69, Tryd.ntmps69
  go_wp2_with (go_at_call 83; refine (is_N _ _ _).mono ?_; rintro e w' ⟨rfl, rfl⟩)
  go_ret
  exact ⟨rfl, rfl⟩
end Go.Proofs.YtegbldkkggpjcaaDoor
