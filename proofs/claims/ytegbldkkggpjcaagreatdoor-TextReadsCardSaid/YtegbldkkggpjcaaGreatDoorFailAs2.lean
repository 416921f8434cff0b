/- The contracts of errors.as where nothing is found, and at the target **fail.Fault. -/
import Derived.Test.YtegbldkkggpjcaaGreatDoorFailAs
namespace Go.Proofs.YtegbldkkggpjcaaGreatDoor
open Go.RowKit Go.Extern.Stop Go.Stop Go.Extern

set_option maxRecDepth 100000 in
set_option maxHeartbeats 4000000 in
theorem as_N_nil (l : List ByteArray) (v : Value) (B : Nat) (a t : Addr) (w : World) (hl : l ≠ [])
    (he : ErrAt B w v l .nilIface) (hB : B ≤ w.heap.size) :
    Calls Tryz.prog 85 #[v, .iface 117 (.pointer (some t)), .agg #[.pointer (some ⟨2, 117, none⟩), .pointer (some a), .int .u64 150], .iface 160 (.agg #[.pointer (some ⟨2, 41, none⟩)])] w fun e w' => e = .returned (.bool false) ∧ w' = w.alloc (.cells #[.pointer (some ⟨2, 117, none⟩), .pointer (some a), .int .u64 150] 143) := by
  have h39 := @run_callFunc_extern Tryz.prog 91 _ ReflectliteType.typeOf Tryz.func91 (by kernel_rfl) (by kernel_rfl) (by kernel_rfl) (by kernel_rfl)
  have h74 := @run_callFunc_extern Tryz.prog 122 _ (ReflectliteType.relation "AssignableTo" ReflectliteType.assignableTo) Tryz.func122 (by kernel_rfl) (by kernel_rfl) (by kernel_rfl) (by kernel_rfl)
  have tF := typeOfEF
  have mA := methAssignableTo
  have aFN := assignFN
  have sA := assertAsF
  have sU := assertUnwF
  have mU := methUnwrap
  have HE := Lib.hid he; clear he
  have HL := Lib.hid hl; clear hl
  go_enter Tryz.func85, Tryz.ntmps85
  go_wp2
  go_loopg [0] l.length (fun k u wr => (∃ l' : List ByteArray, l'.length = k ∧ l' ≠ [] ∧ ErrAt B w u l' .nilIface) ∧ wr = w.alloc (.cells #[.pointer (some ⟨2, 117, none⟩), .pointer (some a), .int .u64 150] 143))
  case atStart => exact ⟨⟨l, rfl, HL.out, HE.out⟩, rfl⟩
  case round =>
    obtain ⟨⟨l', hk, hn, he⟩, rfl⟩ := hrel
    have HK := Lib.hid hk; clear hk
    cases l' with
    | nil => exact absurd rfl hn
    | cons s l2 =>
      clear hn
      obtain ⟨b, y, hb, rfl, h0, h1, r⟩ := he
      have HR := Lib.hid r; clear r h0
      have h1' : (w.alloc (.cells #[.pointer (some ⟨2, 117, none⟩), .pointer (some a), .int .u64 150] 143)).cell? ⟨b, 1, none⟩ = some y := by rw [World.cell?_alloc_lt _ _ ⟨b, 1, none⟩ (Nat.lt_of_lt_of_le hb hB)]; exact h1
      have H1 := Lib.hid h1'; clear h1 h1'
      have hy : (y = .nilIface ∧ l2 = []) ∨ (∃ b', y = .iface 118 (.pointer (some ⟨b', 0, none⟩))) ∧ l2 ≠ [] := by
        cases l2 with
        | nil => exact .inl ⟨HR.out, rfl⟩
        | cons s2 l3 => obtain ⟨b', _, _, e, _⟩ := HR.out; exact .inr ⟨⟨b', e⟩, by simp⟩
      rcases hy with ⟨rfl, rfl⟩ | ⟨⟨b', rfl⟩, hn2⟩
      · go_wp2_with (go_at_call 116; refine (unwrap_any _ _ _ H1.out).mono ?_; rintro e w' ⟨rfl, rfl⟩)
        go_ret
        exact ⟨rfl, rfl⟩
      · have HN := Lib.hid hn2; clear hn2
        go_wp2_with (go_at_call 116; refine (unwrap_any _ _ _ H1.out).mono ?_; rintro e w' ⟨rfl, rfl⟩)
        go_roundg (gk - 1)
        case measure => have hq := HK.out; simp only [List.length_cons] at hq; omega
        case rel => exact ⟨⟨_, by have hq := HK.out; simp only [List.length_cons] at hq; omega, HN.out, HR.out⟩, rfl⟩

set_option maxRecDepth 100000 in
set_option maxHeartbeats 4000000 in
theorem as_F_hit (p : Addr) (a t : Addr) (old : Value) (w : World)
    (ha : w.cell? a = some (.pointer (some t))) (ht : w.cell? t = some old) (hf : w.frozen? t = false) :
    Calls Tryz.prog 85 #[.iface 118 (.pointer (some p)), .iface 154 (.pointer (some t)), .agg #[.pointer (some ⟨2, 154, none⟩), .pointer (some a), .int .u64 150], .iface 160 (.agg #[.pointer (some ⟨2, 118, none⟩)])] w fun e w' => e = .returned (.bool true) ∧ w' = ((w.alloc (.cells #[.pointer (some ⟨2, 154, none⟩), .pointer (some a), .int .u64 150] 143)).alloc (.cells #[.pointer (some p)] 118)).setCell t (.pointer (some p)) := by
  have h39 := @run_callFunc_extern Tryz.prog 91 _ ReflectliteType.typeOf Tryz.func91 (by kernel_rfl) (by kernel_rfl) (by kernel_rfl) (by kernel_rfl)
  have h74 := @run_callFunc_extern Tryz.prog 122 _ (ReflectliteType.relation "AssignableTo" ReflectliteType.assignableTo) Tryz.func122 (by kernel_rfl) (by kernel_rfl) (by kernel_rfl) (by kernel_rfl)
  have h48 := @run_callFunc_extern Tryz.prog 93 _ (ReflectliteValue.method (ReflectliteValue.valueError "reflectlite.Value.Elem" 0) ReflectliteValue.elem) Tryz.func93 (by kernel_rfl) (by kernel_rfl) (by kernel_rfl) (by kernel_rfl)
  have h49 := @run_callFunc_extern Tryz.prog 94 _ ReflectliteValue.set Tryz.func94 (by kernel_rfl) (by kernel_rfl) (by kernel_rfl) (by kernel_rfl)
  have h41 := @run_callFunc_extern Tryz.prog 82 _ (fun args => ReflectliteValue.unpack (args.getD 0 (.tuple #[]))) Tryz.func82 (by kernel_rfl) (by kernel_rfl) (by kernel_rfl) (by kernel_rfl)
  have tF := typeOfEF
  have mA := methAssignableTo
  have aFF := assignFF
  have vE := valueOfEF
  have hlt : ∀ p x, w.cell? p = some x → p.block < w.heap.size := fun p x h => World.block_lt_of_cell? _ _ h
  have hal : a.block < w.heap.size := hlt _ _ ha
  have htl : t.block < w.heap.size := hlt _ _ ht
  have el := elemVF a t (w.alloc (.cells #[.pointer (some ⟨2, 154, none⟩), .pointer (some a), .int .u64 150] 143)) (by rw [World.cell?_alloc_lt _ _ a hal]; exact ha)
  have st := setF t ⟨w.heap.size + 1, 0, none⟩ p old ((w.alloc (.cells #[.pointer (some ⟨2, 154, none⟩), .pointer (some a), .int .u64 150] 143)).alloc (.cells #[.pointer (some p)] 118)) (by rw [World.cell?_alloc_at _ _ _ _ (by simp)]; rfl)
    (by rw [World.cell?_alloc_lt _ _ t (by simp; omega), World.cell?_alloc_lt _ _ t htl]; exact ht)
    (by rw [World.frozen?_alloc_old _ _ t (by simp; omega), World.frozen?_alloc_old _ _ t (Nat.ne_of_lt htl)]; exact hf)
  clear hlt ha ht hf
  go_enter Tryz.func85, Tryz.ntmps85
  go_wp2
  refine wp_loop_rounds 1 ?_
  rw [rounds_succ]
  go_wp2
  go_ret
  exact ⟨rfl, rfl⟩

set_option maxRecDepth 100000 in
set_option maxHeartbeats 4000000 in
theorem as_F_no (c : Int) (a t : Addr) (w : World) :
    Calls Tryz.prog 85 #[.iface 41 (.int .i64 c), .iface 154 (.pointer (some t)), .agg #[.pointer (some ⟨2, 154, none⟩), .pointer (some a), .int .u64 150], .iface 160 (.agg #[.pointer (some ⟨2, 118, none⟩)])] w fun e w' => e = .returned (.bool false) ∧ w' = w.alloc (.cells #[.pointer (some ⟨2, 154, none⟩), .pointer (some a), .int .u64 150] 143) := by
  have h39 := @run_callFunc_extern Tryz.prog 91 _ ReflectliteType.typeOf Tryz.func91 (by kernel_rfl) (by kernel_rfl) (by kernel_rfl) (by kernel_rfl)
  have h74 := @run_callFunc_extern Tryz.prog 122 _ (ReflectliteType.relation "AssignableTo" ReflectliteType.assignableTo) Tryz.func122 (by kernel_rfl) (by kernel_rfl) (by kernel_rfl) (by kernel_rfl)
  have tN := typeOfEN
  have mA := methAssignableTo
  have aNF := assignNF
  have sA := assertAsN
  have sU := assertUnwN
  have sV := assertUnwsN
  go_enter Tryz.func85, Tryz.ntmps85
  go_wp2
  refine wp_loop_rounds 1 ?_
  rw [rounds_succ]
  go_wp2
  go_ret
  exact ⟨rfl, rfl⟩
end Go.Proofs.YtegbldkkggpjcaaGreatDoor
