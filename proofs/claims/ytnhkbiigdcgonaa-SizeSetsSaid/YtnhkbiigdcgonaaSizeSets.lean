/- The contracts of package size's sets (Count, Set, List, Ring) and of the document's own answers (Check, Sizes, Most, Bools, Has, List, Set, Ring, SameInts). -/
import Derived.Test.YtnhkbiigdcgonaaSizeBase
import Derived.LoopTactic
import Derived.WalkLawsBesides
import Derived.RegionTactic
import Derived.Deep.OwnRows
namespace Go.Proofs.Ytnhkbiigdcgonaa
open Go.RowKit

theorem onesCount_any (k : Nat) (hk : k < 512) (w : World) : Calls Try.prog 32 #[.int .u64 k] w fun e w' => e = .returned (.int .i64 (cnt k)) ∧ w = w' := by
  go_enter Try.func32, Try.ntmps32
  go_wp2_with (go_at_call 35; refine (ones_any _ hk _).mono ?_; rintro e w' ⟨rfl, rfl⟩)
  go_ret
  exact ⟨rfl, rfl⟩
theorem count_nat (k : Nat) (hk : k < 512) (w : World) : Calls Try.prog 22 #[.int .i64 k] w fun e w' => e = .returned (.int .i64 (cnt k)) ∧ w = w' := by
  have h5 : (k : Int) ≤ 511 := by omega
  have h0 : 0 ≤ (k : Int) := by omega
  go_enter Try.func22, Try.ntmps22
  go_wp2_with (first | (go_at_call 31; refine (isSet_yes _ h0 h5 _).mono ?_; rintro e w' ⟨rfl, rfl⟩) | (go_at_call 32; refine (onesCount_any _ hk _).mono ?_; rintro e w' ⟨rfl, rfl⟩))
  go_ret
  exact ⟨rfl, rfl⟩
theorem count_yes (s : Int) (h0 : 0 ≤ s) (h5 : s ≤ 511) (w : World) : Calls Try.prog 22 #[.int .i64 s] w fun e w' => e = .returned (.int .i64 (cnt s.toNat)) ∧ w = w' := by
  obtain ⟨k, rfl⟩ := Int.eq_ofNat_of_zero_le h0
  exact count_nat k (by omega) w
theorem count_no (s : Int) (h : s < 0 ∨ 511 < s) (w : World) : Calls Try.prog 22 #[.int .i64 s] w fun e w' => e = .returned (.int .i64 0) ∧ w = w' := by
  have H := Lib.hid h; clear h
  go_enter Try.func22, Try.ntmps22
  go_wp2_with (go_at_call 31; refine (isSet_no _ H.out _).mono ?_; rintro e w' ⟨rfl, rfl⟩)
  go_ret
  exact ⟨rfl, rfl⟩

theorem take_snoc (zs : List Int) (k : Nat) (h : k < zs.length) : zs.take (k + 1) = zs.take k ++ [zs.getD k 0] := by
  rw [List.take_succ_eq_append_getElem h]; simp [List.getD, h]
theorem or_bitZ (s : Nat) (hs : s < 512) (r : Int) (h1 : 1 ≤ r) (h9 : r ≤ 9) : bits .or .i64 (s : Int) (bitZ r) = ((s ||| 2 ^ (r.toNat - 1) : Nat) : Int) := by
  have key : ∀ j : Fin 9, 2 ^ j.val < 512 := by decide
  exact or_i64 s _ hs (key ⟨r.toNat - 1, by omega⟩)

set_option maxHeartbeats 400000 in
/-- size.Set of a list that lies in memory. -/
theorem set_at (b off len cap : Nat) (zs : List Int) (w : World) (hm : len ≤ maxLen) (hz : len = zs.length)
    (hc : ∀ j, j < len → w.cell? ⟨b, off + j, none⟩ = some (.int .i64 (zs.getD j 0))) :
    Calls Try.prog 18 #[.slice (some ⟨b, off, none⟩) len cap] w fun e w' => e = .returned (.int .i64 (setN zs)) ∧ w = w' := by
  unfold maxLen at hm
  have HZ := Lib.hid hz; clear hz
  have h0 : ((setN ([] : List Int) : Nat) : Int) = 0 := by rw [setN_nil]; rfl
  have H0 := Lib.hid h0; clear h0
  go_enter Try.func18, Try.ntmps18
  go_wp2
  go_loop [3, 5, 8] (fun s _ i => ∃ k : Nat, k ≤ len ∧ i = .int .i64 k ∧ s = .int .i64 (setN (zs.take k))) (fun _ _ i => len - (intOf i).toNat)
  case atStart => exact ⟨0, Nat.zero_le _, rfl, by rw [List.take_zero, H0.out]⟩
  case round =>
    obtain ⟨k, hk, rfl, rfl⟩ := hrel
    by_cases hlt : k < len
    · have hck := hc k hlt
      clear hc
      have HS := Lib.hid (take_snoc zs k (by rw [← HZ.out]; exact hlt))
      have hb := setN_lt (zs.take k)
      by_cases q : zs.getD k 0 < 1 ∨ 9 < zs.getD k 0
      · generalize hr : zs.getD k 0 = r at *
        have HR := Lib.hid hr; clear hr
        go_wp2_with (go_at_call 29; refine (isReplica_no _ q _).mono ?_; rintro e w' ⟨rfl, rfl⟩)
        go_round
        case rel => exact ⟨k + 1, by omega, by go_num, by rw [HS.out, setN_out _ _ q]⟩
        case measure => simp [intOf]; omega
      · generalize hr : zs.getD k 0 = r at *
        have HR := Lib.hid hr; clear hr
        have h1 : 1 ≤ r := by omega
        have h9 : r ≤ 9 := by omega
        clear q
        have HO := Lib.hid (or_bitZ _ hb r h1 h9)
        go_wp2_with (first | (go_at_call 29; refine (isReplica_yes _ h1 h9 _).mono ?_; rintro e w' ⟨rfl, rfl⟩) | (go_at_call 30; refine (bit_any _ h1 h9 _).mono ?_; rintro e w' ⟨rfl, rfl⟩))
        go_round
        case rel => exact ⟨k + 1, by omega, by go_num, by rw [HO.out, HS.out, setN_in _ _ h1 h9]⟩
        case measure => simp [intOf]; omega
    · go_wp2
      go_ret
      exact ⟨ret_int (by rw [List.take_of_length_le (by have := HZ.out; omega)]), rfl⟩

theorem set_empty (a : Option Addr) (cap : Nat) (w : World) : Calls Try.prog 18 #[.slice a 0 cap] w fun e w' => e = .returned (.int .i64 0) ∧ w = w' := by
  go_enter Try.func18, Try.ntmps18
  go_wp2
  refine wp_loop_rounds 1 ?_
  rw [rounds_succ]
  go_wp2
  go_ret
  exact ⟨rfl, rfl⟩

/-- around lays n and self in memory, and hands back the call that tells who comes next. -/
theorem around_any (n self : Int) (w : World) : Calls Try.prog 27 #[.int .i64 n, .int .i64 self] w fun e w' =>
    e = .returned (.func (.func 33) #[] #[.pointer (some ⟨w.heap.size + 1, 0, none⟩), .pointer (some ⟨w.heap.size, 0, none⟩)]) ∧ (w.alloc (.cells #[.int .i64 n] 3)).alloc (.cells #[.int .i64 self] 3) = w' := by
  have hmf : ∀ (fn : Fn) (first cap : Array Value) (w : World), (Instr.makeFunc fn first cap).run Try.prog w = .ok (.func fn first cap) w := fun _ _ _ _ => rfl
  go_enter Try.func27, Try.ntmps27
  go_wp2
  go_ret
  exact ⟨rfl, rfl⟩

/-- The call that around hands back: it tells r, and lays who comes next in r's place. -/
theorem next_any (br bn : Nat) (r n : Int) (w : World) (h1 : 1 ≤ r) (hrn : r ≤ n) (hn9 : n ≤ 9) (hr : w.cell? ⟨br, 0, none⟩ = some (.int .i64 r)) (hf : w.frozen? ⟨br, 0, none⟩ = false) (hn : w.cell? ⟨bn, 0, none⟩ = some (.int .i64 n)) :
    Calls Try.prog 33 #[.pointer (some ⟨br, 0, none⟩), .pointer (some ⟨bn, 0, none⟩)] w fun e w' => e = .returned (.int .i64 r) ∧ w.setCell ⟨br, 0, none⟩ (.int .i64 (r % n + 1)) = w' := by
  have q0 := Int.emod_nonneg r (show n ≠ 0 by omega)
  have q1 := Int.emod_lt_of_pos r (show 0 < n by omega)
  have HW := Lib.hid (IntWalk.wrap64_in (r % n + 1) ⟨by omega, by omega⟩)
  go_enter Try.func33, Try.ntmps33
  go_wp2
  go_ret
  exact ⟨rfl, by first | rfl | rw [HW.out]⟩

/-- Who comes j places behind self. -/
def ringAt (n self : Int) (j : Nat) : Int := (self - 1 + j) % n + 1
theorem ringAt_zero (n self : Int) (h1 : 1 ≤ self) (hn : self ≤ n) : ringAt n self 0 = self := by
  unfold ringAt; rw [Int.emod_eq_of_lt (by simp; omega) (by simp; omega)]; simp
theorem ringAt_succ (n self : Int) (j : Nat) : ringAt n self j % n + 1 = ringAt n self (j + 1) := by
  unfold ringAt; rw [Int.emod_add_emod]; congr 2; omega
theorem ringAt_in (n self : Int) (j : Nat) (h : 0 < n) : 1 ≤ ringAt n self j ∧ ringAt n self j ≤ n := by
  unfold ringAt
  have := Int.emod_nonneg (self - 1 + j) (show n ≠ 0 by omega)
  have := Int.emod_lt_of_pos (self - 1 + j) h
  omega
/-- Those of a ring: K of them from self on. -/
def ringL (n self : Int) (K : Nat) : List Int := (List.range K).map (ringAt n self)
theorem ringL_len (n self : Int) (K : Nat) : (ringL n self K).length = K := by simp [ringL]
theorem ringL_at (n self : Int) (K j : Nat) (h : j < K) : (ringL n self K).getD j 0 = ringAt n self j := by simp [ringL, List.getD, h]

structure RingInv (w wr : World) (n x : Int) (K k : Nat) : Prop where
  below : Below w.heap.size w wr
  size : wr.heap.size = w.heap.size + 3
  bn : wr.rowIs w.heap.size 3 1 (fun _ => .int .i64 n)
  br : wr.rowIs (w.heap.size + 1) 3 1 (fun _ => .int .i64 (ringAt n x k))
  row : wr.rowIs (w.heap.size + 1 + 1) 3 K (fun j => if j < k then .int .i64 (ringAt n x j) else .int .i64 0)

theorem RingInv.start (w : World) (n x : Int) (K : Nat) (h1 : 1 ≤ x) (hn : x ≤ n) :
    RingInv w (((w.alloc (.cells #[.int .i64 n] 3)).alloc (.cells #[.int .i64 x] 3)).alloc (.cells (madeCells #[.int .i64 0] K) 3)) n x K 0 := by
  have a := World.rowIs_alloc w #[.int .i64 n] 3 (fun _ => .int .i64 n) (fun i hi => by
    have : i = 0 := by simpa using hi
    subst this; rfl)
  have b := World.rowIs_alloc (w.alloc (.cells #[.int .i64 n] 3)) #[.int .i64 x] 3 (fun _ => .int .i64 (ringAt n x 0)) (fun i hi => by
    have : i = 0 := by simpa using hi
    subst this; rw [ringAt_zero n x h1 hn]; rfl)
  have c := World.rowIs_made ((w.alloc (.cells #[.int .i64 n] 3)).alloc (.cells #[.int .i64 x] 3)) (.int .i64 0) K 3
  refine ⟨(((Below.refl _ _).alloc (Nat.le_refl _) _).alloc (by simp) _).alloc (by simp; omega) _, by simp, (a.alloc _).alloc _, ?_, ?_⟩
  · have := b.alloc (.cells (madeCells #[.int .i64 0] K) 3)
    simpa using this
  · simpa using c
theorem RingInv.step {w wr : World} {n x : Int} {K k : Nat} (h : RingInv w wr n x K k) (hk : k < K) :
    RingInv w ((wr.setCell ⟨w.heap.size + 1, 0, none⟩ (.int .i64 (ringAt n x k % n + 1))).setCell ⟨w.heap.size + 1 + 1, k, none⟩ (.int .i64 (ringAt n x k))) n x K (k + 1) := by
  refine ⟨(h.below.setCell (by simp) _).setCell (by show w.heap.size ≤ w.heap.size + 1 + 1; omega) _, by simp [World.setCell, h.size], (h.bn.setOther (by simp) _).setOther (by show w.heap.size ≠ w.heap.size + 1 + 1; omega) _, ((h.br.set 0 _).setOther (by simp) _).congr (fun i hi => ?_), ((h.row.setOther (by simp) _).set k _).congr (fun j hj => ?_)⟩
  · have : i = 0 := by omega
    subst this; simp [ringAt_succ]
  · by_cases e : j = k
    · subst e; simp
    · rw [if_neg e]; by_cases q : j < k
      · rw [if_pos q, if_pos (by omega)]
      · rw [if_neg q, if_neg (by omega)]
theorem infoInt : (Try.prog.info? 3).map (fun i => (i.zero, i.size, i.bytes)) = some (some (.int .i64 0), 1, 8) := by kernel_rfl

set_option maxHeartbeats 800000 in
theorem ring_yes (n f self : Int) (h : okB n f = true) (h1 : 1 ≤ self) (hn : self ≤ n) (w : World) : Calls Try.prog 14 #[.int .i64 n, .int .i64 f, .int .i64 self] w fun e w' =>
    e = .returned (.int .i64 (setN (ringL n self (n / 2 + f).toNat))) ∧ Below w.heap.size w w' := by
  obtain ⟨a, b, c, d⟩ := okB_yes h
  have H := Lib.hid h; clear h
  obtain ⟨K, hK⟩ := Int.eq_ofNat_of_zero_le (show 0 ≤ n / 2 + f by omega)
  have hK9 : K ≤ 8 := by omega
  have hK0 : 0 < K := by omega
  rw [hK]
  have HK := Lib.hid hK; clear hK
  have hmk := run_make_row' (P := Try.prog) 31 3 (.int .i64 0) 8 Try.underlying31 infoInt rfl .i64 .i64 K (by omega) (by omega)
  go_enter Try.func14, Try.ntmps14
  go_wp2_with (first | (go_at_call 8; refine (check_yes _ _ H.out _).mono ?_; rintro e w' ⟨rfl, rfl⟩) | (go_at_call 27; refine (around_any _ _ _).mono ?_; rintro e w' ⟨rfl, rfl⟩) | (go_at_call 9; refine (fast_yes _ _ H.out _).mono ?_; rintro e w' ⟨rfl, rfl⟩; rw [HK.out]))
  go_loopw [9, 32] (fun _ i wr => ∃ k : Nat, k ≤ K ∧ i = .int .i64 k ∧ RingInv w wr n self K k) (fun _ i _ => K - (intOf i).toNat)
  case atStart => exact ⟨0, Nat.zero_le _, rfl, RingInv.start w n self K h1 hn⟩
  case round =>
    obtain ⟨k, hk, rfl, hI⟩ := hrel
    by_cases hlt : k < K
    · have hr := ringAt_in n self k (by omega)
      obtain ⟨r1, r2⟩ := hr
      have cr := hI.br.cell (i := 0) (by omega)
      have fr := hI.br.frozen 0
      have cn := hI.bn.cell (i := 0) (by omega)
      have ck := (hI.row.setOther (a := ⟨w.heap.size + 1, 0, none⟩) (by simp) (.int .i64 (ringAt n self k % n + 1))).cell (i := k) hlt
      rw [if_neg (by omega)] at ck
      have fk := (hI.row.setOther (a := ⟨w.heap.size + 1, 0, none⟩) (by simp) (.int .i64 (ringAt n self k % n + 1))).frozen k
      have HI := Lib.hid hI; clear hI
      go_wp2_with (go_at_call 33; refine (next_any (w.heap.size + 1) w.heap.size (ringAt n self k) n wr r1 r2 b cr fr cn).mono ?_; rintro e w' ⟨rfl, rfl⟩)
      go_roundw
      case rel => exact ⟨k + 1, by omega, by go_num, HI.out.step hlt⟩
      case measure => simp [intOf]; omega
    · obtain rfl : k = K := by omega
      have hcs : ∀ j, j < k → wr.cell? ⟨w.heap.size + 1 + 1, 0 + j, none⟩ = some (.int .i64 ((ringL n self k).getD j 0)) := fun j hj => by
        rw [Nat.zero_add, hI.row.cell hj, if_pos hj, ringL_at _ _ _ _ hj]
      have hb := hI.below
      go_wp2_with (go_at_call 18; refine (set_at (w.heap.size + 1 + 1) 0 k k (ringL n self k) wr (by unfold maxLen; omega) (ringL_len _ _ _).symm hcs).mono ?_; rintro e w' ⟨rfl, rfl⟩)
      go_ret
      exact ⟨rfl, hb⟩

theorem ring_no (n f x : Int) (h : okB n f = false ∨ x < 1 ∨ n < x) (w : World) : Calls Try.prog 14 #[.int .i64 n, .int .i64 f, .int .i64 x] w fun e w' => e = .returned (.int .i64 0) ∧ w = w' := by
  by_cases q : okB n f = true
  · have H := Lib.hid q
    have g : x < 1 ∨ n < x := by rcases h with h | h; exact absurd q (by simp [h]); exact h
    obtain ⟨a, b, c, d⟩ := okB_yes q
    clear h q
    by_cases g1 : x < 1
    · clear g
      go_enter Try.func14, Try.ntmps14
      go_wp2_with (go_at_call 8; refine (check_yes _ _ H.out _).mono ?_; rintro e w' ⟨rfl, rfl⟩)
      go_ret
      exact ⟨rfl, rfl⟩
    · have g2 : n < x := by omega
      have g3 : 1 ≤ x := by omega
      clear g g1
      go_enter Try.func14, Try.ntmps14
      go_wp2_with (go_at_call 8; refine (check_yes _ _ H.out _).mono ?_; rintro e w' ⟨rfl, rfl⟩)
      go_ret
      exact ⟨rfl, rfl⟩
  · have H := Lib.hid (Bool.eq_false_iff.2 q)
    clear h q
    go_enter Try.func14, Try.ntmps14
    go_wp2_with (go_at_call 8; refine (check_no _ _ H.out _).mono ?_; rintro e w' ⟨rfl, rfl⟩)
    go_ret
    exact ⟨rfl, rfl⟩
end Go.Proofs.Ytnhkbiigdcgonaa
