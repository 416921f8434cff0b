/- The contracts of (*Fault).Unwrap and of errors.As at the targets *api.Errno and **fail.Fault: what lies within an error that package fail has made. -/
import Derived.Test.YtegbldkkggpjcaaGreatDoorFailFacts
import Derived.Deep.LoopGhost
namespace Go.Proofs.YtegbldkkggpjcaaGreatDoor
open Go.RowKit Go.Extern.Stop Go.Stop Go.Extern

/-- v is an error in the world w, all of whose faults lie below block B: their ops, the outermost first, are l; what lies innermost is x. -/
def ErrAt (B : Nat) (w : World) : Value → List ByteArray → Value → Prop
  | v, [], x => v = x
  | v, s :: l, x => ∃ b y, b < B ∧ v = .iface 118 (.pointer (some ⟨b, 0, none⟩)) ∧ w.cell? ⟨b, 0, none⟩ = some (.string s) ∧ w.cell? ⟨b, 1, none⟩ = some y ∧ ErrAt B w y l x
theorem ErrAt.later {B : Nat} {w w' : World} (h : ∀ b o, b < B → w'.cell? ⟨b, o, none⟩ = w.cell? ⟨b, o, none⟩) : ∀ {l : List ByteArray} {v x : Value}, ErrAt B w v l x → ErrAt B w' v l x
  | [], _, _, e => e
  | _ :: _, _, _, ⟨b, y, hb, e, h0, h1, r⟩ => ⟨b, y, hb, e, by rw [h _ _ hb]; exact h0, by rw [h _ _ hb]; exact h1, r.later h⟩
theorem ErrAt.wider {B B' : Nat} (h : B ≤ B') {w : World} : ∀ {l : List ByteArray} {v x : Value}, ErrAt B w v l x → ErrAt B' w v l x
  | [], _, _, e => e
  | _ :: _, _, _, ⟨b, y, hb, e, h0, h1, r⟩ => ⟨b, y, by omega, e, h0, h1, r.wider h⟩

theorem unwrap_any (b : Nat) (y : Value) (w : World) (hc : w.cell? ⟨b, 1, none⟩ = some y) :
    Calls Tryz.prog 116 #[.pointer (some ⟨b, 0, none⟩)] w fun e w' => e = .returned y ∧ w = w' := by
  go_enter Tryz.func116, Tryz.ntmps116
  go_wp2
  go_ret
  exact ⟨rfl, rfl⟩
set_option maxRecDepth 100000 in
set_option maxHeartbeats 4000000 in
theorem as_N_hit (c : Int) (l : List ByteArray) (v : Value) (B : Nat) (a t : Addr) (old : Value) (w : World)
    (he : ErrAt B w v l (.iface 41 (.int .i64 c))) (ha : w.cell? a = some (.pointer (some t))) (ht : w.cell? t = some old) (hf : w.frozen? t = false) (hB : B ≤ w.heap.size) :
    Calls Tryz.prog 85 #[v, .iface 117 (.pointer (some t)), .agg #[.pointer (some ⟨2, 117, none⟩), .pointer (some a), .int .u64 150], .iface 160 (.agg #[.pointer (some ⟨2, 41, none⟩)])] w fun e w' => e = .returned (.bool true) ∧ w' = ((w.alloc (.cells #[.pointer (some ⟨2, 117, none⟩), .pointer (some a), .int .u64 150] 143)).alloc (.cells #[.int .i64 c] 41)).setCell t (.int .i64 c) := by
  have h39 := @run_callFunc_extern Tryz.prog 91 _ ReflectliteType.typeOf Tryz.func91 (by kernel_rfl) (by kernel_rfl) (by kernel_rfl) (by kernel_rfl)
  have h74 := @run_callFunc_extern Tryz.prog 122 _ (ReflectliteType.relation "AssignableTo" ReflectliteType.assignableTo) Tryz.func122 (by kernel_rfl) (by kernel_rfl) (by kernel_rfl) (by kernel_rfl)
  have h48 := @run_callFunc_extern Tryz.prog 93 _ (ReflectliteValue.method (ReflectliteValue.valueError "reflectlite.Value.Elem" 0) ReflectliteValue.elem) Tryz.func93 (by kernel_rfl) (by kernel_rfl) (by kernel_rfl) (by kernel_rfl)
  have h49 := @run_callFunc_extern Tryz.prog 94 _ ReflectliteValue.set Tryz.func94 (by kernel_rfl) (by kernel_rfl) (by kernel_rfl) (by kernel_rfl)
  have h41 := @run_callFunc_extern Tryz.prog 82 _ (fun args => ReflectliteValue.unpack (args.getD 0 (.tuple #[]))) Tryz.func82 (by kernel_rfl) (by kernel_rfl) (by kernel_rfl) (by kernel_rfl)
  have tO := typeOfEN
  have tF := typeOfEF
  have mA := methAssignableTo
  have aNN := assignNN
  have aFN := assignFN
  have sA := assertAsF
  have sU := assertUnwF
  have mU := methUnwrap
  have vE := valueOfEN
  have HE := Lib.hid he; clear he
  have hlt : ∀ p x, w.cell? p = some x → p.block < w.heap.size := fun p x h => World.block_lt_of_cell? _ _ h
  have hal : a.block < w.heap.size := hlt _ _ ha
  have htl : t.block < w.heap.size := hlt _ _ ht
  have el := elemVN a t (w.alloc (.cells #[.pointer (some ⟨2, 117, none⟩), .pointer (some a), .int .u64 150] 143)) (by rw [World.cell?_alloc_lt _ _ a hal]; exact ha)
  have st := setN t ⟨w.heap.size + 1, 0, none⟩ c old ((w.alloc (.cells #[.pointer (some ⟨2, 117, none⟩), .pointer (some a), .int .u64 150] 143)).alloc (.cells #[.int .i64 c] 41)) (by rw [World.cell?_alloc_at _ _ _ _ (by simp)]; rfl)
    (by rw [World.cell?_alloc_lt _ _ t (by simp; omega), World.cell?_alloc_lt _ _ t htl]; exact ht)
    (by rw [World.frozen?_alloc_old _ _ t (by simp; omega), World.frozen?_alloc_old _ _ t (Nat.ne_of_lt htl)]; exact hf)
  clear hlt ha ht hf
  go_enter Tryz.func85, Tryz.ntmps85
  go_wp2
  go_loopg [0] l.length (fun k u wr => (∃ l' : List ByteArray, l'.length = k ∧ ErrAt B w u l' (.iface 41 (.int .i64 c))) ∧ wr = w.alloc (.cells #[.pointer (some ⟨2, 117, none⟩), .pointer (some a), .int .u64 150] 143))
  case atStart => exact ⟨⟨l, rfl, HE.out⟩, rfl⟩
  case round =>
    obtain ⟨⟨l', hk, he⟩, rfl⟩ := hrel
    have HK := Lib.hid hk; clear hk
    cases l' with
    | nil =>
      obtain rfl : _ = Value.iface 41 (.int .i64 c) := he
      go_wp2
      go_ret
      exact ⟨rfl, rfl⟩
    | cons s l2 =>
      obtain ⟨b, y, hb, rfl, h0, h1, r⟩ := he
      have HR := Lib.hid r; clear r h0
      have h1' : (w.alloc (.cells #[.pointer (some ⟨2, 117, none⟩), .pointer (some a), .int .u64 150] 143)).cell? ⟨b, 1, none⟩ = some y := by rw [World.cell?_alloc_lt _ _ ⟨b, 1, none⟩ (Nat.lt_of_lt_of_le hb hB)]; exact h1
      have H1 := Lib.hid h1'; clear h1 h1'
      have hy : (y = .iface 41 (.int .i64 c) ∧ l2 = []) ∨ ∃ b', y = .iface 118 (.pointer (some ⟨b', 0, none⟩)) := by
        cases l2 with
        | nil => exact .inl ⟨HR.out, rfl⟩
        | cons s2 l3 => obtain ⟨b', _, _, e, _⟩ := HR.out; exact .inr ⟨b', e⟩
      rcases hy with ⟨rfl, rfl⟩ | ⟨b', rfl⟩
      all_goals
        go_wp2_with (go_at_call 116; refine (unwrap_any _ _ _ H1.out).mono ?_; rintro e w' ⟨rfl, rfl⟩)
        go_roundg (gk - 1)
        case measure => have hq := HK.out; simp only [List.length_cons, List.length_nil] at hq; omega
        case rel => exact ⟨⟨_, by have hq := HK.out; simp only [List.length_cons, List.length_nil] at hq ⊢; omega, HR.out⟩, rfl⟩
end Go.Proofs.YtegbldkkggpjcaaGreatDoor
