/- The contracts of package fail's number and fault: what lies innermost, and the outermost fault. -/
import Derived.Test.YtegbldkkggpjcaaGreatDoorFailAs3
import Derived.Defers
import Derived.Recover
import Derived.RegionTactic
namespace Go.Proofs.YtegbldkkggpjcaaGreatDoor
open Go.RowKit Go.Extern.Stop Go.Stop Go.Extern

theorem numberR_idle (p q : Addr) (w : World) :
    CallsD Tryz.prog 67 #[.pointer (some p), .pointer (some q)] .returning w fun e u' w' => e = .returned (.tuple #[]) ∧ u' = .returning ∧ w' = w := by
  refine callsD_of_wpS Tryz.func67 rfl fun c₀ cs hu => ?_
  apply wpS_seq
  apply wpS_region
  simp [wpOpsS, go_sem, recoverD, hu, Tryz.ntmps67, Exit.thenS]
  refine wpS_cond (t := false) (by simp [Act.eval, Array.replicate]) ?_
  simp only [Bool.false_eq_true, if_false]
  refine wpS_of_wp (wp_skip ?_)
  cases c₀
  simp_all [bodyPostS, results, Tryz.results67]
theorem faultR_idle (p : Addr) (w : World) :
    CallsD Tryz.prog 89 #[.pointer (some p)] .returning w fun e u' w' => e = .returned (.tuple #[]) ∧ u' = .returning ∧ w' = w := by
  refine callsD_of_wpS Tryz.func89 rfl fun c₀ cs hu => ?_
  apply wpS_seq
  apply wpS_region
  simp [wpOpsS, go_sem, recoverD, hu, Tryz.ntmps89, Exit.thenS]
  refine wpS_cond (t := false) (by simp [Act.eval, Array.replicate]) ?_
  simp only [Bool.false_eq_true, if_false]
  refine wpS_of_wp (wp_skip ?_)
  cases c₀
  simp_all [bodyPostS, results, Tryz.results89]


/-- The world behind errors.As where it finds a datum x of type E, its target a pointer of type T to t. -/
abbrev hitW (T E : TypeId) (t : Addr) (x : Value) (w : World) : World :=
  ((((w.alloc (.cells #[.pointer (some t)] T)).alloc (.cells #[.pointer (some ⟨2, T, none⟩), .pointer (some ⟨w.heap.size, 0, none⟩), .int .u64 150] 143)).alloc (.cells #[.pointer (some ⟨2, T, none⟩), .pointer (some ⟨w.heap.size, 0, none⟩), .int .u64 150] 143)).alloc (.cells #[x] E)).setCell t x
/-- .. where it finds none. -/
abbrev missW (T : TypeId) (t : Addr) (w : World) : World :=
  ((w.alloc (.cells #[.pointer (some t)] T)).alloc (.cells #[.pointer (some ⟨2, T, none⟩), .pointer (some ⟨w.heap.size, 0, none⟩), .int .u64 150] 143)).alloc (.cells #[.pointer (some ⟨2, T, none⟩), .pointer (some ⟨w.heap.size, 0, none⟩), .int .u64 150] 143)

theorem ErrAt.iface {B : Nat} {w : World} {v : Value} {l : List ByteArray} {d : TypeId} {x : Value} (h : ErrAt B w v l (.iface d x)) : ∃ d' x', v = .iface d' x' := by
  cases l with
  | nil => exact ⟨_, _, h⟩
  | cons s l => obtain ⟨b, y, _, e, _⟩ := h; exact ⟨_, _, e⟩
theorem ErrAt.head {B : Nat} {w : World} {v : Value} {l : List ByteArray} {x : Value} (h : ErrAt B w v l x) (hl : l ≠ []) : ∃ b, v = .iface 118 (.pointer (some ⟨b, 0, none⟩)) := by
  cases l with
  | nil => exact absurd rfl hl
  | cons s l => obtain ⟨b, y, _, e, _⟩ := h; exact ⟨_, e⟩

theorem old2 {w : World} {B : Nat} (hB : B ≤ w.heap.size) (o1 o2 : Obj) : ∀ b o, b < B → ((w.alloc o1).alloc o2).cell? ⟨b, o, none⟩ = w.cell? ⟨b, o, none⟩ := fun b o h => by
  rw [World.cell?_alloc_lt _ _ ⟨b, o, none⟩ (by simp; omega), World.cell?_alloc_lt _ _ ⟨b, o, none⟩ (by show b < _; omega)]

theorem As_N_hit (c : Int) (l : List ByteArray) (v : Value) (B : Nat) (t : Addr) (old : Value) (w : World) (hg : Laid w)
    (he : ErrAt B w v l (.iface 41 (.int .i64 c))) (ht : w.cell? t = some old) (hf : w.frozen? t = false) (hB : B ≤ w.heap.size) :
    Calls Tryz.prog 68 #[v, .iface 117 (.pointer (some t))] w fun e w' => e = .returned (.bool true) ∧ w' = hitW 117 41 t (.int .i64 c) w := by
  obtain ⟨d, x, rfl⟩ := he.iface
  have htl : t.block < w.heap.size := World.block_lt_of_cell? _ _ ht
  refine As_N d x t true w _ hg ?_
  refine as_N_hit c l _ B _ t old _ (he.later (old2 hB _ _)) (by simp) ?_ ?_ (by simp; omega)
  · rw [World.cell?_alloc_lt _ _ t (by simp; omega), World.cell?_alloc_lt _ _ t htl]; exact ht
  · rw [World.frozen?_alloc_old _ _ t (by simp; omega), World.frozen?_alloc_old _ _ t (Nat.ne_of_lt htl)]; exact hf
theorem As_N_miss (l : List ByteArray) (v : Value) (B : Nat) (t : Addr) (w : World) (hg : Laid w) (hl : l ≠ [])
    (he : ErrAt B w v l .nilIface) (hB : B ≤ w.heap.size) :
    Calls Tryz.prog 68 #[v, .iface 117 (.pointer (some t))] w fun e w' => e = .returned (.bool false) ∧ w' = missW 117 t w := by
  obtain ⟨b, rfl⟩ := he.head hl
  refine As_N _ _ t false w _ hg ?_
  exact as_N_nil l _ B _ t _ hl (he.later (old2 hB _ _)) (by simp; omega)
theorem As_F_hit (p : Addr) (t : Addr) (old : Value) (w : World) (hg : Laid w) (ht : w.cell? t = some old) (hf : w.frozen? t = false) :
    Calls Tryz.prog 68 #[.iface 118 (.pointer (some p)), .iface 154 (.pointer (some t))] w fun e w' => e = .returned (.bool true) ∧ w' = hitW 154 118 t (.pointer (some p)) w := by
  have htl : t.block < w.heap.size := World.block_lt_of_cell? _ _ ht
  refine As_F _ _ t true w _ hg ?_
  refine as_F_hit p _ t old _ (by simp) ?_ ?_
  · rw [World.cell?_alloc_lt _ _ t (by simp; omega), World.cell?_alloc_lt _ _ t htl]; exact ht
  · rw [World.frozen?_alloc_old _ _ t (by simp; omega), World.frozen?_alloc_old _ _ t (Nat.ne_of_lt htl)]; exact hf
theorem As_F_miss (c : Int) (t : Addr) (w : World) (hg : Laid w) :
    Calls Tryz.prog 68 #[.iface 41 (.int .i64 c), .iface 154 (.pointer (some t))] w fun e w' => e = .returned (.bool false) ∧ w' = missW 154 t w :=
  As_F _ _ t false w _ hg (as_F_no c _ t _)

set_option maxRecDepth 100000 in
set_option maxHeartbeats 4000000 in
theorem number_nil (w : World) : Calls Tryz.prog 44 #[.nilIface] w fun e w' => e = .returned (.tuple #[.int .i64 0, .bool false]) ∧ RowKit.Below w.heap.size w w' := by
  have hmf : ∀ (fn : Fn) (first cap : Array Value) (w : World), (Instr.makeFunc fn first cap).run Tryz.prog w = .ok (.func fn first cap) w := fun _ _ _ _ => rfl
  go_enter_defers Tryz.func44, Tryz.ntmps44
  go_wp2_with (go_at_call 68; refine (As_nil _ _).mono ?_; rintro e w' ⟨rfl, rfl⟩)
  go_region
  go_wp2
  refine leaves_cons (f := 67) (args := #[.pointer (some ⟨w.heap.size, 0, none⟩), .pointer (some ⟨w.heap.size + 1, 0, none⟩)]) (by simp) (by simp [go_sem]) ?_
  refine (numberR_idle _ _ _).mono ?_
  rintro e u' w'' ⟨rfl, rfl, rfl⟩
  simp [Leaves, settle, results, Tryz.results44, go_sem]
  refine RowKit.Below.drew ?_
  repeat (refine RowKit.Below.alloc ?_ (by first | exact Nat.le_refl _ | (simp; done) | (simp; omega)) _)
  exact RowKit.Below.refl _ _
set_option maxRecDepth 100000 in
set_option maxHeartbeats 4000000 in
theorem number_hit (c : Int) (l : List ByteArray) (v : Value) (B : Nat) (w : World) (hg : Laid w) (he : ErrAt B w v l (.iface 41 (.int .i64 c))) (hB : B ≤ w.heap.size) : Calls Tryz.prog 44 #[v] w fun e w' => e = .returned (.tuple #[.int .i64 c, .bool true]) ∧ RowKit.Below w.heap.size w w' := by
  have hmf : ∀ (fn : Fn) (first cap : Array Value) (w : World), (Instr.makeFunc fn first cap).run Tryz.prog w = .ok (.func fn first cap) w := fun _ _ _ _ => rfl
  have hA := As_N_hit c l v B ⟨w.heap.size, 0, none⟩ (.int .i64 0) ((w.alloc (.cells #[.int .i64 0] 41)).alloc (.cells #[.bool false] 4)) ((hg.alloc _).alloc _) (he.later (old2 hB _ _)) (by simp) (by simp) (by simp; omega)
  have HA := Lib.hid hA
  clear hA he
  go_enter_defers Tryz.func44, Tryz.ntmps44
  go_wp2_with (go_at_call 68; refine (HA.out).mono ?_; rintro e w' ⟨rfl, rfl⟩)
  go_region
  go_wp2
  refine leaves_cons (f := 67) (args := #[.pointer (some ⟨w.heap.size, 0, none⟩), .pointer (some ⟨w.heap.size + 1, 0, none⟩)]) (by simp) (by simp [go_sem]) ?_
  refine (numberR_idle _ _ _).mono ?_
  rintro e u' w'' ⟨rfl, rfl, rfl⟩
  simp [Leaves, settle, results, Tryz.results44, go_sem]
  refine RowKit.Below.drew ?_
  repeat (refine RowKit.Below.alloc ?_ (by first | exact Nat.le_refl _ | (simp; done) | (simp; omega)) _)
  exact RowKit.Below.refl _ _
set_option maxRecDepth 100000 in
set_option maxHeartbeats 4000000 in
theorem number_miss (l : List ByteArray) (v : Value) (B : Nat) (w : World) (hg : Laid w) (hl : l ≠ []) (he : ErrAt B w v l .nilIface) (hB : B ≤ w.heap.size) : Calls Tryz.prog 44 #[v] w fun e w' => e = .returned (.tuple #[.int .i64 0, .bool false]) ∧ RowKit.Below w.heap.size w w' := by
  have hmf : ∀ (fn : Fn) (first cap : Array Value) (w : World), (Instr.makeFunc fn first cap).run Tryz.prog w = .ok (.func fn first cap) w := fun _ _ _ _ => rfl
  have hA := As_N_miss l v B ⟨w.heap.size, 0, none⟩ ((w.alloc (.cells #[.int .i64 0] 41)).alloc (.cells #[.bool false] 4)) ((hg.alloc _).alloc _) hl (he.later (old2 hB _ _)) (by simp; omega)
  have HA := Lib.hid hA
  clear hA he hl
  go_enter_defers Tryz.func44, Tryz.ntmps44
  go_wp2_with (go_at_call 68; refine (HA.out).mono ?_; rintro e w' ⟨rfl, rfl⟩)
  go_region
  go_wp2
  refine leaves_cons (f := 67) (args := #[.pointer (some ⟨w.heap.size, 0, none⟩), .pointer (some ⟨w.heap.size + 1, 0, none⟩)]) (by simp) (by simp [go_sem]) ?_
  refine (numberR_idle _ _ _).mono ?_
  rintro e u' w'' ⟨rfl, rfl, rfl⟩
  simp [Leaves, settle, results, Tryz.results44, go_sem]
  refine RowKit.Below.drew ?_
  repeat (refine RowKit.Below.alloc ?_ (by first | exact Nat.le_refl _ | (simp; done) | (simp; omega)) _)
  exact RowKit.Below.refl _ _
set_option maxRecDepth 100000 in
set_option maxHeartbeats 4000000 in
theorem fault_nil (w : World) : Calls Tryz.prog 75 #[.nilIface] w fun e w' => e = .returned (.pointer none) ∧ RowKit.Below w.heap.size w w' := by
  have hmf : ∀ (fn : Fn) (first cap : Array Value) (w : World), (Instr.makeFunc fn first cap).run Tryz.prog w = .ok (.func fn first cap) w := fun _ _ _ _ => rfl
  go_enter_defers Tryz.func75, Tryz.ntmps75
  go_wp2_with (go_at_call 68; refine (As_nil _ _).mono ?_; rintro e w' ⟨rfl, rfl⟩)
  refine leaves_cons (f := 89) (args := #[.pointer (some ⟨w.heap.size, 0, none⟩)]) (by simp) (by simp [go_sem]) ?_
  refine (faultR_idle _ _).mono ?_
  rintro e u' w'' ⟨rfl, rfl, rfl⟩
  simp [Leaves, settle, results, Tryz.results75, go_sem]
  repeat (refine RowKit.Below.alloc ?_ (by first | exact Nat.le_refl _ | (simp; done) | (simp; omega)) _)
  exact RowKit.Below.refl _ _
set_option maxRecDepth 100000 in
set_option maxHeartbeats 4000000 in
theorem fault_hit (p : Addr) (w : World) (hg : Laid w) : Calls Tryz.prog 75 #[.iface 118 (.pointer (some p))] w fun e w' => e = .returned (.pointer (some p)) ∧ RowKit.Below w.heap.size w w' := by
  have hmf : ∀ (fn : Fn) (first cap : Array Value) (w : World), (Instr.makeFunc fn first cap).run Tryz.prog w = .ok (.func fn first cap) w := fun _ _ _ _ => rfl
  have hA := As_F_hit p ⟨w.heap.size, 0, none⟩ (.pointer none) (w.alloc (.cells #[.pointer none] 118)) (hg.alloc _) (by simp) (by simp)
  have HA := Lib.hid hA
  clear hA
  go_enter_defers Tryz.func75, Tryz.ntmps75
  go_wp2_with (go_at_call 68; refine (HA.out).mono ?_; rintro e w' ⟨rfl, rfl⟩)
  refine leaves_cons (f := 89) (args := #[.pointer (some ⟨w.heap.size, 0, none⟩)]) (by simp) (by simp [go_sem]) ?_
  refine (faultR_idle _ _).mono ?_
  rintro e u' w'' ⟨rfl, rfl, rfl⟩
  simp [Leaves, settle, results, Tryz.results75, go_sem]
  repeat (refine RowKit.Below.alloc ?_ (by first | exact Nat.le_refl _ | (simp; done) | (simp; omega)) _)
  exact RowKit.Below.refl _ _
set_option maxRecDepth 100000 in
set_option maxHeartbeats 4000000 in
theorem fault_no (c : Int) (w : World) (hg : Laid w) : Calls Tryz.prog 75 #[.iface 41 (.int .i64 c)] w fun e w' => e = .returned (.pointer none) ∧ RowKit.Below w.heap.size w w' := by
  have hmf : ∀ (fn : Fn) (first cap : Array Value) (w : World), (Instr.makeFunc fn first cap).run Tryz.prog w = .ok (.func fn first cap) w := fun _ _ _ _ => rfl
  have hA := As_F_miss c ⟨w.heap.size, 0, none⟩ (w.alloc (.cells #[.pointer none] 118)) (hg.alloc _)
  have HA := Lib.hid hA
  clear hA
  go_enter_defers Tryz.func75, Tryz.ntmps75
  go_wp2_with (go_at_call 68; refine (HA.out).mono ?_; rintro e w' ⟨rfl, rfl⟩)
  refine leaves_cons (f := 89) (args := #[.pointer (some ⟨w.heap.size, 0, none⟩)]) (by simp) (by simp [go_sem]) ?_
  refine (faultR_idle _ _).mono ?_
  rintro e u' w'' ⟨rfl, rfl, rfl⟩
  simp [Leaves, settle, results, Tryz.results75, go_sem]
  repeat (refine RowKit.Below.alloc ?_ (by first | exact Nat.le_refl _ | (simp; done) | (simp; omega)) _)
  exact RowKit.Below.refl _ _
end Go.Proofs.YtegbldkkggpjcaaGreatDoor
