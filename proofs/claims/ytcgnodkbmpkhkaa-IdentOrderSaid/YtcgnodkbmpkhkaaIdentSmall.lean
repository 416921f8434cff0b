/- The contracts of slices.SortFunc and slices.Clone at commands, upon what is asked of the library's own sort of the row; that sort at twelve commands or fewer. -/
import Derived.Test.YtcgnodkbmpkhkaaIdentRow
import Derived.Lib.BitFns
import Derived.Deep.AppendLies
namespace Go.Proofs.Ytcgnodkbmpkhkaa
open Go.RowKit Go.Sort

set_option maxRecDepth 100000 in
set_option maxHeartbeats 2000000 in
theorem len64_any (x : Int) (h0 : 0 ≤ x) (h : x ≤ 1000) (w : World) : Calls Try.prog 46 #[.int .u64 x] w fun e w' => e = .returned (.int .i64 (Lib.bitLen x.toNat)) ∧ w = w' := by
  by_cases q : x ≤ 255
  · go_enter Try.func46, Try.ntmps46
    go_wp2
    go_ret
    refine ⟨ret_int ?_, rfl⟩
    have l := Lib.bitLen_le8' x h0 q
    have w1 : wrap64 (Lib.bitLen x.toNat : Int) = (Lib.bitLen x.toNat : Int) := IntWalk.wrap64_in _ ⟨by omega, by omega⟩
    rw [Lib.len8_of x h0 q, w1, w1]
  · have q1 : 256 ≤ x := by omega
    have q2 : x / 256 ≤ 255 := by omega
    have q3 : 0 ≤ x / 256 := by omega
    go_enter Try.func46, Try.ntmps46
    go_wp2
    go_ret
    refine ⟨ret_int ?_, rfl⟩
    have l := Lib.bitLen_le8' (x / 256) q3 q2
    have w1 : wrap64 (Lib.bitLen (x / 256).toNat : Int) = (Lib.bitLen (x / 256).toNat : Int) := IntWalk.wrap64_in _ ⟨by omega, by omega⟩
    have w2 : wrap64 (8 + (Lib.bitLen (x / 256).toNat : Int)) = 8 + (Lib.bitLen (x / 256).toNat : Int) := IntWalk.wrap64_in _ ⟨by omega, by omega⟩
    rw [Lib.len8_of (x / 256) q3 q2, w1, w2]
    have e : (x / 256).toNat = x.toNat / 256 := by omega
    have s := Lib.bitLen_shift8 x.toNat (by omega) (by omega)
    rw [e]
    omega
theorem len_any (x : Int) (h0 : 0 ≤ x) (h : x ≤ 1000) (w : World) : Calls Try.prog 35 #[.int .u64 x] w fun e w' => e = .returned (.int .i64 (Lib.bitLen x.toNat)) ∧ w = w' := by
  go_enter Try.func35, Try.ntmps35
  go_wp2_with (go_at_call 46; refine (len64_any _ h0 h _).mono ?_; rintro e w' ⟨rfl, rfl⟩)
  go_ret
  exact ⟨rfl, rfl⟩

/-- d' is d in order. -/
def SortsTo (d d' : Array (Int × Int)) : Prop := PermIn 0 d.size d d' ∧ SortedIn lessB 0 d.size d'
/-- The library's own sort puts every row of n commands in order. -/
def PdqOk (n : Nat) : Prop := ∀ (w0 W : World) (b cap l : Nat) (d : Array (Int × Int)), d.size = n → l ≤ 100 → RowAt w0 b d W →
  Calls Try.prog 34 #[.slice (some ⟨b, 0, none⟩) d.size cap, .int .i64 0, .int .i64 d.size, .int .i64 l, .func (.func 30) #[.func (.func 18) #[] #[]] #[]] W fun r w' => r = .returned (.tuple #[]) ∧ ∃ d', SortsTo d d' ∧ RowAt w0 b d' w'

theorem lessB_swo : SWO lessB :=
  { irrefl := fun x => by simp [lessB]
    trans := fun x y z h1 h2 => by
      unfold lessB at *
      split at h1 <;> split at h2 <;> split <;> simp at * <;> omega
    ntrans := fun x y z h1 h2 => by
      unfold lessB at *
      split at h1 <;> split at h2 <;> split <;> simp at * <;> omega }
theorem lessB_one (x y : Int × Int) (h1 : lessB x y = false) (h2 : lessB y x = false) : x = y := by
  obtain ⟨a, b⟩ := x
  obtain ⟨c, d⟩ := y
  unfold lessB at *
  simp only at *
  split at h1 <;> split at h2 <;> simp at * <;> omega

set_option maxHeartbeats 1000000 in
theorem pdq_small (n : Nat) (hn : n ≤ 12) : PdqOk n := fun w0 W b cap l d hd hl S => by
  subst hd
  obtain ⟨g1, g2⟩ := insertionSort_holds (lt := lessB) lessB_swo d 0 d.size (Nat.zero_le _) (Nat.le_refl _)
  have hi := insertion_any w0 W b 0 d.size cap d S (Nat.zero_le _) (Nat.le_refl _) (by omega)
  have G : Hid (SortsTo d (Sort.insertionSort lessB d 0 d.size)) := ⟨g1, g2⟩
  clear g1 g2 S
  generalize Sort.insertionSort lessB d 0 d.size = d' at *
  simp only [Int.natCast_zero] at hi
  have HI := Lib.hid hi; clear hi
  have h12 : (d.size : Int) ≤ 12 := by omega
  go_enter Try.func34, Try.ntmps34
  go_wp2
  go_loopw [1, 2, 3, 10, 11] (fun u v _ _ _ wr => u = .int .i64 0 ∧ v = .int .i64 d.size ∧ wr = W) (fun _ _ _ _ _ _ => 0)
  case atStart => exact ⟨rfl, rfl, rfl⟩
  case round =>
    obtain ⟨rfl, rfl, rfl⟩ := hrel
    go_wp2_with (go_at_call 37; refine (HI.out).mono ?_; rintro e w' ⟨rfl, S1⟩)
    refine bodyPost_ret (results_none rfl _ _ _) rfl ?_
    exact ⟨rfl, d', G.out, S1⟩

theorem sortFunc_any (n : Nat) (hn : n ≤ 1000) (hp : PdqOk n) (w0 W : World) (b cap : Nat) (d : Array (Int × Int)) (hd : d.size = n) (S : RowAt w0 b d W) :
    Calls Try.prog 29 #[.slice (some ⟨b, 0, none⟩) d.size cap, .func (.func 30) #[.func (.func 18) #[] #[]] #[]] W fun r w' => r = .returned (.tuple #[]) ∧ ∃ d', SortsTo d d' ∧ RowAt w0 b d' w' := by
  subst hd
  have hl : Lib.bitLen d.size ≤ 10 := Lib.bitLen_le d.size 10 (by omega) (by omega)
  have HP := Lib.hid (hp w0 W b cap (Lib.bitLen d.size) d rfl (by omega) S)
  clear hp S hl
  have hc := len_any (d.size : Int) (by omega) (by omega) W
  rw [Int.toNat_natCast] at hc
  have HC := Lib.hid hc; clear hc
  go_enter Try.func29, Try.ntmps29
  go_wp2_with (first | (go_at_call 35; refine (HC.out).mono ?_; rintro e w' ⟨rfl, rfl⟩) | (go_at_call 34; refine (HP.out).mono ?_; rintro e w' ⟨rfl, d', h1, h2⟩))
  go_end0
  exact ⟨rfl, d', h1, h2⟩

/-- The cells of a row of commands. -/
def flat (zs : List (Int × Int)) : List Value := zs.flatMap attV
theorem flat_len (zs : List (Int × Int)) : (flat zs).length = zs.length * 2 := by
  induction zs with
  | nil => rfl
  | cons z r ih => simp [flat, attV] at *; omega
theorem flat_at (zs : List (Int × Int)) : ∀ (i : Nat), i < zs.length → (flat zs)[i * 2]? = some (.int .i64 (zs.getD i (0, 0)).1) ∧ (flat zs)[i * 2 + 1]? = some (.int .i64 (zs.getD i (0, 0)).2) := by
  induction zs with
  | nil => intro i h; simp at h
  | cons z r ih =>
    intro i h
    match i, h with
    | 0, _ => simp [flat, attV]
    | i + 1, h =>
      have := ih i (by simpa using h)
      rw [show flat (z :: r) = .int .i64 z.1 :: .int .i64 z.2 :: flat r from rfl, show (i + 1) * 2 = i * 2 + 1 + 1 by omega]
      simpa using this

/-- A slice reads as zs. -/
def ReadsA (w : World) (sa : Option Addr) (len : Nat) (zs : List (Int × Int)) : Prop :=
  len = zs.length ∧ (0 < len → ∃ b off, sa = some ⟨b, off, none⟩ ∧ ∀ i, i < len → w.cell? ⟨b, off + i * 2, none⟩ = some (.int .i64 (zs.getD i (0, 0)).1) ∧ w.cell? ⟨b, off + i * 2 + 1, none⟩ = some (.int .i64 (zs.getD i (0, 0)).2))
theorem ReadsA.later {w w' : World} {sa : Option Addr} {len : Nat} {zs : List (Int × Int)} (h : ReadsA w sa len zs) (k : Below w.heap.size w w') : ReadsA w' sa len zs :=
  ⟨h.1, fun h0 => by
    obtain ⟨b, off, e, g⟩ := h.2 h0
    exact ⟨b, off, e, fun i hi => ⟨(k.cell (p := ⟨b, off + i * 2, none⟩) (World.block_lt_of_cell? _ _ (g i hi).1)).trans (g i hi).1, (k.cell (p := ⟨b, off + i * 2 + 1, none⟩) (World.block_lt_of_cell? _ _ (g i hi).2)).trans (g i hi).2⟩⟩⟩
end Go.Proofs.Ytcgnodkbmpkhkaa
