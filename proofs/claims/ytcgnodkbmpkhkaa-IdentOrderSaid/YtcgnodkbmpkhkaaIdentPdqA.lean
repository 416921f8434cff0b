/- What the parts of the library's sort of a row of commands do together: each round leaves a part that, once it is in order, puts the whole in order. Written by a generator of mine (wip/gen). -/
import Derived.Test.YtcgnodkbmpkhkaaIdentPart
import Derived.Test.YtcgnodkbmpkhkaaIdentPins
import Derived.Test.YtcgnodkbmpkhkaaIdentBreak2
import Derived.Sort.AssemblyPlain
namespace Go.Proofs.Ytcgnodkbmpkhkaa
open Go.RowKit Go.Sort

theorem ins_z (w0 W : World) (b a e cap len : Nat) (d : Array (Int × Int)) (hl : len = d.size) (S : RowAt w0 b d W) (hae : a ≤ e) (hed : e ≤ d.size) (hsz : d.size ≤ 1000) :
    Calls Try.prog 37 #[.slice (some ⟨b, 0, none⟩) len cap, .int .i64 a, .int .i64 e, .func (.func 30) #[.func (.func 18) #[] #[]] #[]] W fun r w' => r = .returned (.tuple #[]) ∧ RowAt w0 b (Sort.insertionSort lessB d a e) w' := by
  subst hl; exact insertion_any w0 W b a e cap d S hae hed hsz

theorem heap_z (w0 W : World) (b a e cap len : Nat) (d : Array (Int × Int)) (hl : len = d.size) (S : RowAt w0 b d W) (hae : a ≤ e) (hed : e ≤ d.size) (hsz : d.size ≤ 1000) :
    Calls Try.prog 38 #[.slice (some ⟨b, 0, none⟩) len cap, .int .i64 a, .int .i64 e, .func (.func 30) #[.func (.func 18) #[] #[]] #[]] W fun r w' => r = .returned (.tuple #[]) ∧ RowAt w0 b (heapSort lessB d a e) w' := by
  subst hl; exact heap_any w0 W b a e cap d S hae hed hsz

theorem break_z (w0 W : World) (b a e cap len : Nat) (d : Array (Int × Int)) (hl : len = d.size) (S : RowAt w0 b d W) (h8 : a + 8 ≤ e) (hed : e ≤ d.size) (hsz : d.size ≤ 1000) :
    Calls Try.prog 39 #[.slice (some ⟨b, 0, none⟩) len cap, .int .i64 a, .int .i64 e, .func (.func 30) #[.func (.func 18) #[] #[]] #[]] W fun r w' => r = .returned (.tuple #[]) ∧ ∃ d', PermIn a e d d' ∧ RowAt w0 b d' w' := by
  subst hl; exact break_any w0 W b a e cap d S h8 hed hsz

theorem pivot_z (w0 W : World) (b a e cap len : Nat) (d : Array (Int × Int)) (hl : len = d.size) (S : RowAt w0 b d W) (hL : a + 13 ≤ e) (he : e ≤ d.size) (hsz : d.size ≤ 1000) :
    Calls Try.prog 40 #[.slice (some ⟨b, 0, none⟩) len cap, .int .i64 a, .int .i64 e, .func (.func 30) #[.func (.func 18) #[] #[]] #[]] W fun r w' => ∃ p h : Nat, r = .returned (.tuple #[.int .i64 p, .int .i64 h]) ∧ a ≤ p ∧ p < e ∧ h ≤ 2 ∧ RowAt w0 b d w' := by
  subst hl; exact pivot_any w0 W b a e cap d S hL he hsz

theorem reverse_z (w0 W : World) (b a e cap len : Nat) (d : Array (Int × Int)) (hl : len = d.size) (S : RowAt w0 b d W) (hae : a ≤ e) (hed : e ≤ d.size) (hsz : d.size ≤ 1000) :
    Calls Try.prog 41 #[.slice (some ⟨b, 0, none⟩) len cap, .int .i64 a, .int .i64 e, .func (.func 30) #[.func (.func 18) #[] #[]] #[]] W fun r w' => r = .returned (.tuple #[]) ∧ RowAt w0 b (reverseRange d a e) w' := by
  subst hl; exact reverse_any w0 W b a e cap d S hae hed hsz

theorem pins_z (w0 W : World) (b a e cap len : Nat) (d : Array (Int × Int)) (hl : len = d.size) (S : RowAt w0 b d W) (hae : a < e) (hed : e ≤ d.size) (hsz : d.size ≤ 1000) :
    Calls Try.prog 42 #[.slice (some ⟨b, 0, none⟩) len cap, .int .i64 a, .int .i64 e, .func (.func 30) #[.func (.func 18) #[] #[]] #[]] W fun r w' => r = .returned (.bool (partialInsertionSort lessB d a e).2) ∧ RowAt w0 b (partialInsertionSort lessB d a e).1 w' := by
  subst hl; exact pins_any w0 W b a e cap d S hae hed hsz

theorem partEq_z (w0 W : World) (b a e p cap len : Nat) (d : Array (Int × Int)) (hl : len = d.size) (S : RowAt w0 b d W) (hap : a ≤ p) (hpe : p < e) (hed : e ≤ d.size) (hsz : d.size ≤ 1000) :
    Calls Try.prog 43 #[.slice (some ⟨b, 0, none⟩) len cap, .int .i64 a, .int .i64 e, .int .i64 p, .func (.func 30) #[.func (.func 18) #[] #[]] #[]] W fun r w' => r = .returned (.int .i64 (partitionEqual lessB d a e p).1) ∧ RowAt w0 b (partitionEqual lessB d a e p).2 w' := by
  subst hl; exact partEq_any w0 W b a e p cap d S hap hpe hed hsz

theorem part_z (w0 W : World) (b a e p cap len : Nat) (d : Array (Int × Int)) (hl : len = d.size) (S : RowAt w0 b d W) (hap : a ≤ p) (hpe : p < e) (hed : e ≤ d.size) (hsz : d.size ≤ 1000) :
    Calls Try.prog 44 #[.slice (some ⟨b, 0, none⟩) len cap, .int .i64 a, .int .i64 e, .int .i64 p, .func (.func 30) #[.func (.func 18) #[] #[]] #[]] W fun r w' => r = .returned (.tuple #[.int .i64 (Sort.partition lessB d a e p).1, .bool (Sort.partition lessB d a e p).2.1]) ∧ RowAt w0 b (Sort.partition lessB d a e p).2.2 w' := by
  subst hl; exact part_any w0 W b a e p cap d S hap hpe hed hsz

/-- The part from a1 to e1 of the row d1 is left: nothing in it is less than what stands ahead of it, and once it is in order the whole from a to e of d is. -/
def Cont (a e : Nat) (d : Array (Int × Int)) (a1 e1 : Nat) (d1 : Array (Int × Int)) : Prop :=
  Go.Sort.Below lessB a1 e1 d1 ∧ ∀ R, PermIn a1 e1 d1 R → SortedIn lessB a1 e1 R → PermIn a e d R ∧ SortedIn lessB a e R
variable {a e a1 e1 : Nat} {d d1 d2 : Array (Int × Int)}
theorem Cont.perm (h : Cont a e d a1 e1 d1) (hb : e1 ≤ d1.size) (hp : PermIn a1 e1 d1 d2) : Cont a e d a1 e1 d2 :=
  ⟨h.1.perm hb hp, fun R h1 h2 => h.2 R (permIn_trans _ _ _ _ _ hp h1) h2⟩
theorem Cont.insertion (h : Cont a e d a1 e1 d1) (hae : a1 ≤ e1) (hb : e1 ≤ d1.size) : PermIn a e d (Sort.insertionSort lessB d1 a1 e1) ∧ SortedIn lessB a e (Sort.insertionSort lessB d1 a1 e1) :=
  h.2 _ (insertionSort_holds lessB_swo d1 a1 e1 hae hb).1 (insertionSort_holds lessB_swo d1 a1 e1 hae hb).2
theorem Cont.heap (h : Cont a e d a1 e1 d1) (hae : a1 ≤ e1) (hb : e1 ≤ d1.size) : PermIn a e d (heapSort lessB d1 a1 e1) ∧ SortedIn lessB a e (heapSort lessB d1 a1 e1) :=
  h.2 _ (heapSort_holds lessB_swo d1 a1 e1 hae hb).1 (heapSort_holds lessB_swo d1 a1 e1 hae hb).2
theorem Cont.reverse (h : Cont a e d a1 e1 d1) (hae : a1 ≤ e1) (hb : e1 ≤ d1.size) : Cont a e d a1 e1 (reverseRange d1 a1 e1) := h.perm hb (reverseRange_holds d1 a1 e1 hae hb)
theorem Cont.pins (h : Cont a e d a1 e1 d1) (hae : a1 < e1) (hb : e1 ≤ d1.size) : Cont a e d a1 e1 (partialInsertionSort lessB d1 a1 e1).1 ∧
    ((partialInsertionSort lessB d1 a1 e1).2 = true → PermIn a e d (partialInsertionSort lessB d1 a1 e1).1 ∧ SortedIn lessB a e (partialInsertionSort lessB d1 a1 e1).1) := by
  obtain ⟨p1, p2⟩ := partialInsertionSort_holds lessB_swo d1 a1 e1 hae hb h.1
  exact ⟨h.perm hb p1, fun q => h.2 _ p1 (p2 q)⟩
theorem Cont.eq (h : Cont a e d a1 e1 d1) (p : Nat) (h0 : 0 < a1) (hp1 : a1 ≤ p) (hp2 : p < e1) (hb : e1 ≤ d1.size) (hn : lessB d1[a1 - 1]! d1[p]! = false) :
    a1 < (partitionEqual lessB d1 a1 e1 p).1 ∧ (partitionEqual lessB d1 a1 e1 p).1 ≤ e1 ∧ (partitionEqual lessB d1 a1 e1 p).2.size = d1.size ∧ Cont a e d (partitionEqual lessB d1 a1 e1 p).1 e1 (partitionEqual lessB d1 a1 e1 p).2 := by
  obtain ⟨r1, r2, r3, r4, r5⟩ := round_eq lessB_swo (partitionEqual_holds lessB) h0 hp1 hp2 hb h.1 hn rfl
  exact ⟨r1, r2, r3, r4, fun R h1 h2 => by obtain ⟨x, y⟩ := r5 R h1 h2; exact h.2 R x y⟩
theorem Cont.part (h : Cont a e d a1 e1 d1) (p : Nat) (hp1 : a1 ≤ p) (hp2 : p < e1) (hb : e1 ≤ d1.size) :
    a1 ≤ (Sort.partition lessB d1 a1 e1 p).1 ∧ (Sort.partition lessB d1 a1 e1 p).1 < e1 ∧ (Sort.partition lessB d1 a1 e1 p).2.2.size = d1.size ∧
    Go.Sort.Below lessB a1 (Sort.partition lessB d1 a1 e1 p).1 (Sort.partition lessB d1 a1 e1 p).2.2 ∧ Go.Sort.Below lessB ((Sort.partition lessB d1 a1 e1 p).1 + 1) e1 (Sort.partition lessB d1 a1 e1 p).2.2 ∧
    (∀ M, PermIn a1 (Sort.partition lessB d1 a1 e1 p).1 (Sort.partition lessB d1 a1 e1 p).2.2 M → SortedIn lessB a1 (Sort.partition lessB d1 a1 e1 p).1 M → Cont a e d ((Sort.partition lessB d1 a1 e1 p).1 + 1) e1 M) ∧
    (∀ M, PermIn ((Sort.partition lessB d1 a1 e1 p).1 + 1) e1 (Sort.partition lessB d1 a1 e1 p).2.2 M → SortedIn lessB ((Sort.partition lessB d1 a1 e1 p).1 + 1) e1 M → Cont a e d a1 (Sort.partition lessB d1 a1 e1 p).1 M) := by
  obtain ⟨r1, r2, r3, r4, r5, r6, r7⟩ := round_part lessB_swo (partition_holds lessB) hp1 hp2 hb h.1 rfl
  exact ⟨r1, r2, r3, r4, r5, fun M m1 m2 => ⟨(r6 M m1 m2).1, fun R h1 h2 => by obtain ⟨x, y⟩ := (r6 M m1 m2).2 R h1 h2; exact h.2 R x y⟩, fun M m1 m2 => ⟨(r7 M m1 m2).1, fun R h1 h2 => by obtain ⟨x, y⟩ := (r7 M m1 m2).2 R h1 h2; exact h.2 R x y⟩⟩
end Go.Proofs.Ytcgnodkbmpkhkaa
