/- Plain facts on sets of replicas as numbers below 512: no program stands in them. -/
import Derived.WalkKit
import Derived.Laws.BitsLemmas
namespace Go.Proofs.Ytnhkbiigdcgonaa

/-- The number whose bits (9 of them) are p's. -/
def ofB (p : Nat → Bool) : Nat := (bif p 0 then 1 else 0) + (bif p 1 then 2 else 0) + (bif p 2 then 4 else 0) + (bif p 3 then 8 else 0) + (bif p 4 then 16 else 0) + (bif p 5 then 32 else 0) + (bif p 6 then 64 else 0) + (bif p 7 then 128 else 0) + (bif p 8 then 256 else 0)
/-- Nine bools as a function. -/
def nine (b0 b1 b2 b3 b4 b5 b6 b7 b8 : Bool) : Nat → Bool
  | 0 => b0 | 1 => b1 | 2 => b2 | 3 => b3 | 4 => b4 | 5 => b5 | 6 => b6 | 7 => b7 | 8 => b8 | _ => false
theorem ofB_nine (p : Nat → Bool) : ofB p = ofB (nine (p 0) (p 1) (p 2) (p 3) (p 4) (p 5) (p 6) (p 7) (p 8)) := rfl
theorem nine_lt (p : Nat → Bool) (i : Nat) (h : i < 9) : nine (p 0) (p 1) (p 2) (p 3) (p 4) (p 5) (p 6) (p 7) (p 8) i = p i := by
  match i, h with
  | 0, _ | 1, _ | 2, _ | 3, _ | 4, _ | 5, _ | 6, _ | 7, _ | 8, _ => rfl
  | n + 9, h => omega
theorem ofB_congr {p q : Nat → Bool} (h : ∀ i, i < 9 → p i = q i) : ofB p = ofB q := by
  unfold ofB
  rw [h 0 (by decide), h 1 (by decide), h 2 (by decide), h 3 (by decide), h 4 (by decide), h 5 (by decide), h 6 (by decide), h 7 (by decide), h 8 (by decide)]
theorem ofB_lt (p : Nat → Bool) : ofB p < 512 := by
  have key : ∀ b0 b1 b2 b3 b4 b5 b6 b7 b8 : Bool, ofB (nine b0 b1 b2 b3 b4 b5 b6 b7 b8) < 512 := by decide +kernel
  rw [ofB_nine]; exact key _ _ _ _ _ _ _ _ _
theorem ofB_or (p : Nat → Bool) (j : Nat) (hj : j < 9) : ofB p ||| 2 ^ j = ofB (fun i => p i || i == j) := by
  have key : ∀ b0 b1 b2 b3 b4 b5 b6 b7 b8 : Bool, ∀ j : Fin 9, ofB (nine b0 b1 b2 b3 b4 b5 b6 b7 b8) ||| 2 ^ j.val = ofB (fun i => nine b0 b1 b2 b3 b4 b5 b6 b7 b8 i || i == j.val) := by decide +kernel
  rw [ofB_nine, key _ _ _ _ _ _ _ _ _ ⟨j, hj⟩]
  exact ofB_congr fun i hi => by rw [nine_lt p i hi]
theorem ofB_bit (p : Nat → Bool) (j : Nat) (hj : j < 9) : (ofB p).testBit j = p j := by
  have key : ∀ b0 b1 b2 b3 b4 b5 b6 b7 b8 : Bool, ∀ j : Fin 9, (ofB (nine b0 b1 b2 b3 b4 b5 b6 b7 b8)).testBit j.val = nine b0 b1 b2 b3 b4 b5 b6 b7 b8 j.val := by decide +kernel
  rw [ofB_nine, key _ _ _ _ _ _ _ _ _ ⟨j, hj⟩, nine_lt p j hj]
theorem ofB_upto (p : Nat → Bool) (j : Nat) (hj : j < 9) : ofB (fun i => p i && decide (i < j + 1)) = ofB (fun i => p i && decide (i < j)) + (bif p j then 2 ^ j else 0) := by
  have key : ∀ b0 b1 b2 b3 b4 b5 b6 b7 b8 : Bool, ∀ j : Fin 9, ofB (fun i => nine b0 b1 b2 b3 b4 b5 b6 b7 b8 i && decide (i < j.val + 1)) = ofB (fun i => nine b0 b1 b2 b3 b4 b5 b6 b7 b8 i && decide (i < j.val)) + (bif nine b0 b1 b2 b3 b4 b5 b6 b7 b8 j.val then 2 ^ j.val else 0) := by decide +kernel
  have h := key (p 0) (p 1) (p 2) (p 3) (p 4) (p 5) (p 6) (p 7) (p 8) ⟨j, hj⟩
  simp only [nine_lt p j hj] at h
  rw [ofB_congr (q := fun i => nine (p 0) (p 1) (p 2) (p 3) (p 4) (p 5) (p 6) (p 7) (p 8) i && decide (i < j + 1)) fun i hi => by rw [nine_lt p i hi], h]
  rw [ofB_congr (p := fun i => nine (p 0) (p 1) (p 2) (p 3) (p 4) (p 5) (p 6) (p 7) (p 8) i && decide (i < j)) (q := fun i => p i && decide (i < j)) fun i hi => by rw [nine_lt p i hi]]
theorem ofB_self (k : Nat) (h : k < 512) : ofB k.testBit = k := by
  have key : ∀ k : Fin 512, ofB k.val.testBit = k.val := by decide +kernel
  exact key ⟨k, h⟩

/-- How many bits. -/
def cnt (k : Nat) : Nat := (k.testBit 0).toNat + (k.testBit 1).toNat + (k.testBit 2).toNat + (k.testBit 3).toNat + (k.testBit 4).toNat + (k.testBit 5).toNat + (k.testBit 6).toNat + (k.testBit 7).toNat + (k.testBit 8).toNat
theorem meet (n a b : Nat) (hn : n ≤ 9) (ha : a < 2 ^ n) (hb : b < 2 ^ n) : cnt a + cnt b ≤ cnt (a &&& b) + n := by
  have lo : ∀ i, ((a &&& b).testBit i).toNat + 1 ≥ (a.testBit i).toNat + (b.testBit i).toNat := fun i => by
    rw [Nat.testBit_and]; cases a.testBit i <;> cases b.testBit i <;> decide
  have hi : ∀ i, n ≤ i → (a.testBit i).toNat = 0 ∧ (b.testBit i).toNat = 0 := fun i h => by
    rw [Nat.testBit_lt_two_pow (Nat.lt_of_lt_of_le ha (Nat.pow_le_pow_right (by decide) h)), Nat.testBit_lt_two_pow (Nat.lt_of_lt_of_le hb (Nat.pow_le_pow_right (by decide) h))]; decide
  unfold cnt
  have l0 := lo 0; have l1 := lo 1; have l2 := lo 2; have l3 := lo 3; have l4 := lo 4; have l5 := lo 5; have l6 := lo 6; have l7 := lo 7; have l8 := lo 8
  have h0 := hi 0; have h1 := hi 1; have h2 := hi 2; have h3 := hi 3; have h4 := hi 4; have h5 := hi 5; have h6 := hi 6; have h7 := hi 7; have h8 := hi 8
  omega
theorem cnt_le (k : Nat) : cnt k ≤ 9 := by
  have b : ∀ c : Bool, c.toNat ≤ 1 := by decide
  unfold cnt
  have l0 := b (k.testBit 0); have l1 := b (k.testBit 1); have l2 := b (k.testBit 2); have l3 := b (k.testBit 3); have l4 := b (k.testBit 4); have l5 := b (k.testBit 5); have l6 := b (k.testBit 6); have l7 := b (k.testBit 7); have l8 := b (k.testBit 8)
  omega

/-- Which replicas a list names. -/
def inB (zs : List Int) (i : Nat) : Bool := zs.contains ((i : Int) + 1)
/-- The set of those of a list that are replicas. -/
def setN (zs : List Int) : Nat := ofB (inB zs)
theorem setN_lt (zs : List Int) : setN zs < 512 := ofB_lt _
theorem setN_nil : setN [] = 0 := by decide +kernel
theorem setN_in (zs : List Int) (r : Int) (h1 : 1 ≤ r) (h9 : r ≤ 9) : setN (zs ++ [r]) = setN zs ||| 2 ^ (r.toNat - 1) := by
  unfold setN
  rw [ofB_or _ _ (by omega)]
  refine ofB_congr fun i hi => ?_
  simp only [inB, List.contains_eq_mem, List.mem_append, List.mem_singleton, Bool.decide_or]
  congr 1
  rw [Bool.eq_iff_iff]; simp; omega
theorem setN_out (zs : List Int) (r : Int) (h : r < 1 ∨ 9 < r) : setN (zs ++ [r]) = setN zs := by
  unfold setN
  refine ofB_congr fun i hi => ?_
  simp only [inB, List.contains_eq_mem, List.mem_append, List.mem_singleton, Bool.decide_or]
  have : decide ((i : Int) + 1 = r) = false := by simp; omega
  rw [this, Bool.or_false]
theorem setN_bit (zs : List Int) (i : Nat) (h : i < 9) : (setN zs).testBit i = zs.contains ((i : Int) + 1) := ofB_bit _ _ h

theorem and_i64 (a b : Nat) (ha : a < 512) (hb : b < 512) : bits .and .i64 (a : Int) (b : Int) = ((a &&& b : Nat) : Int) :=
  (bits_nat .i64 9 (by decide) (fun n h0 h1 => by rw [IntKind.wrap_i64]; omega) a b ha hb).1
theorem or_i64 (a b : Nat) (ha : a < 512) (hb : b < 512) : bits .or .i64 (a : Int) (b : Int) = ((a ||| b : Nat) : Int) :=
  (bits_nat .i64 9 (by decide) (fun n h0 h1 => by rw [IntKind.wrap_i64]; omega) a b ha hb).2
end Go.Proofs.Ytnhkbiigdcgonaa
