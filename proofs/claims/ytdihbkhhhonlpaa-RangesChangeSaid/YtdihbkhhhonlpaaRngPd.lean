/- slices.Collect and slices.AppendSeq over the parts of ranges, as plain calls; slices.Clone; orElse. -/
import Derived.Test.YtdihbkhhhonlpaaRngPc
namespace Go.Proofs.Ytdihbkhhhonlpaa
open Go.RowKit Go.Sort Go.Shelf

attribute [local go_sem ↓] Go.wp_at_zero Go.wp_at_succ

/-- A slice reads as zs, in a block below base. -/
def ReadsB (w : World) (base : Nat) (sa : Option Addr) (len : Nat) (zs : List (Int × Int)) : Prop :=
  len = zs.length ∧ (0 < len → ∃ b off, sa = some ⟨b, off, none⟩ ∧ b < base ∧ ∀ i, i < len → w.cell? ⟨b, off + i * 2, none⟩ = some (.int .i64 (zs.getD i (0, 0)).1) ∧ w.cell? ⟨b, off + i * 2 + 1, none⟩ = some (.int .i64 (zs.getD i (0, 0)).2))
theorem ReadsA.bound {w : World} {sa : Option Addr} {len : Nat} {zs : List (Int × Int)} (h : ReadsA w sa len zs) : ReadsB w w.heap.size sa len zs :=
  ⟨h.1, fun h0 => by
    obtain ⟨b, off, e, g⟩ := h.2 h0
    exact ⟨b, off, e, World.block_lt_of_cell? _ _ (g 0 h0).1, g⟩⟩
theorem ReadsB.later {w w' : World} {base : Nat} {sa : Option Addr} {len : Nat} {zs : List (Int × Int)} (h : ReadsB w base sa len zs) (k : RowKit.Below base w w') : ReadsB w' base sa len zs :=
  ⟨h.1, fun h0 => by
    obtain ⟨b, off, e, hb, g⟩ := h.2 h0
    exact ⟨b, off, e, hb, fun i hi => ⟨(k.cell (p := ⟨b, off + i * 2, none⟩) hb).trans (g i hi).1, (k.cell (p := ⟨b, off + i * 2 + 1, none⟩) hb).trans (g i hi).2⟩⟩⟩
theorem ReadsB.reads {w : World} {base : Nat} {sa : Option Addr} {len : Nat} {zs : List (Int × Int)} (h : ReadsB w base sa len zs) : ReadsA w sa len zs :=
  ⟨h.1, fun h0 => by
    obtain ⟨b, off, e, _, g⟩ := h.2 h0
    exact ⟨b, off, e, g⟩⟩
/-- The iterator over the parts of zs in y stands here. -/
structure SeqAt (w : World) (base Bs Bi : Nat) (sa : Option Addr) (len cap : Nat) (y : Int × Int) (zs : List (Int × Int)) : Prop where
  s : w.cell? ⟨Bs, 0, none⟩ = some (.slice sa len cap)
  i0 : w.cell? ⟨Bi, 0, none⟩ = some (.int .i64 y.1)
  i1 : w.cell? ⟨Bi, 1, none⟩ = some (.int .i64 y.2)
  reads : ReadsB w base sa len zs
def seqV (Bs Bi : Nat) : Value := .func (.func 41) #[] #[.pointer (some ⟨Bs, 0, none⟩), .pointer (some ⟨Bi, 0, none⟩)]
theorem parts_seq (base : Nat) (sa : Option Addr) (len cap : Nat) (y : Int × Int) (zs : List (Int × Int)) (w : World) (hr : ReadsB w base sa len zs) (hb : base ≤ w.heap.size) :
    Calls Try.prog 27 #[.slice sa len cap, .agg #[.int .i64 y.1, .int .i64 y.2]] w fun e w' => e = .returned (.func (.func 41) #[] #[.pointer (some ⟨w.heap.size, 0, none⟩), .pointer (some ⟨w.heap.size + 1, 0, none⟩)]) ∧ SeqAt w' base w.heap.size (w.heap.size + 1) sa len cap y zs ∧ Grew w w' := by
  refine (parts_any sa len cap y w).mono ?_
  rintro e w' ⟨rfl, rfl⟩
  refine ⟨rfl, ⟨?_, ?_, ?_, hr.later (((Below.refl base w).alloc hb _).alloc (by simp; omega) _)⟩, ((Grew.refl w).alloc _).alloc _⟩
  · simp [go_sem]
  · rw [World.cell?_alloc_at _ _ _ _ (by simp)]; rfl
  · rw [World.cell?_alloc_at _ _ _ _ (by simp)]; rfl

theorem appendSeq_any (base Bs Bi : Nat) (sva : Option Addr) (svc : Nat) (l1 : List (Int × Int)) (sa : Option Addr) (len cap : Nat) (y : Int × Int) (zs : List (Int × Int)) (hm : len ≤ 1000) (hl1 : l1.length ≤ 5000) (w : World)
    (hown : OwnA w base (.slice sva l1.length svc) l1) (hne : (Value.slice sva l1.length svc).ownBlock ≠ some Bi) (hbase : base ≤ w.heap.size) (hs : SeqAt w base Bs Bi sa len cap y zs) :
    Calls Try.prog 34 #[.slice sva l1.length svc, .func (.func 41) #[] #[.pointer (some ⟨Bs, 0, none⟩), .pointer (some ⟨Bi, 0, none⟩)]] w fun e W' => ∃ v, e = .returned v ∧ OwnA W' base v (l1 ++ partsL zs y) ∧ RowKit.Below base w W' :=
  (callsIn_wide (n := 3)).1 (appendSeq_in 3 (by omega) base Bs Bi _ l1 sa len cap y zs hm hl1 w hown ⟨sva, svc, rfl⟩ hne hbase hs.s hs.i0 hs.i1 hs.reads.1 hs.reads.2)

theorem collect_any (base Bs Bi : Nat) (sa : Option Addr) (len cap : Nat) (y : Int × Int) (zs : List (Int × Int)) (hm : len ≤ 1000) (w : World) (hbase : base ≤ w.heap.size) (hs : SeqAt w base Bs Bi sa len cap y zs) :
    Calls Try.prog 40 #[.func (.func 41) #[] #[.pointer (some ⟨Bs, 0, none⟩), .pointer (some ⟨Bi, 0, none⟩)]] w fun e W' => ∃ v, e = .returned v ∧ OwnA W' base v (partsL zs y) ∧ RowKit.Below base w W' := by
  have HC := Lib.hid (appendSeq_any base Bs Bi none 0 [] sa len cap y zs hm (by simp) w (own_nil w base) (by simp [Value.ownBlock]) hbase hs)
  clear hs
  go_enter Try.func40, Try.ntmps40
  go_wp2_with (go_at_call 34; refine (HC.out).mono ?_; rintro e w1 ⟨v, rfl, hv, hb⟩)
  go_ret
  exact ⟨v, rfl, hv, hb⟩

/-! ### slices.Clone -/
theorem own_made0 (w : World) (base : Nat) (hb : base ≤ w.heap.size) : (w.alloc (.cells #[] 33)).ownsRow base 33 2 (.slice (some ⟨w.heap.size, 0, none⟩) 0 0) 0 [] := World.ownsRow_made w #[] 0 hb (Nat.zero_le _) rfl
set_option maxHeartbeats 1000000 in
theorem clone_some (ad : Addr) (len cap : Nat) (zs : List (Int × Int)) (w : World) (hm : len ≤ 1000) (hz : len = zs.length) (hc : ∀ (j : Nat) (u : Value), (flat zs)[j]? = some u → w.cell? (ad.add j) = some u) :
    Calls Try.prog 35 #[.slice (some ad) len cap] w fun e w' => ∃ v, e = .returned v ∧ OwnA w' w.heap.size v zs ∧ RowKit.Below w.heap.size w w' := by
  obtain ⟨i0, hi, hz0, hz1, hz2⟩ := info_parts infoAtt
  have HR := Lib.hid hc; clear hc
  have HZ := Lib.hid hz; clear hz
  have hq := fun w => Lib.run_eql_slice_nil (P := Try.prog) w 22 33 (some ad) len cap 0 0 Try.underlying22
  go_enter Try.func35, Try.ntmps35
  go_wp2_with (at_builtin; refine wpList_append_own _ rfl _ _ 22 rfl w.heap.size 33 i0 (.agg #[.int .i64 0, .int .i64 0]) 2 16 Try.underlying22 hi hz0 hz1 hz2 rfl (by decide) _ 0 [] rfl ?c0 ad len cap (flat zs) rfl ?c1 ?c2 ?c3 ?c4 ?c5 ?c6 ?_)
  case c0 => exact World.ownsRow_made w #[] 0 (Nat.le_refl _) (Nat.zero_le _) rfl
  case c1 => rw [flat_len, HZ.out]
  case c2 =>
    intro j u hj
    have h := HR.out j u hj
    rw [World.cell?_alloc_old _ _ _ (Nat.ne_of_lt (World.block_lt_of_cell? _ _ h))]
    exact h
  case c3 => exact flat_one zs
  case c4 => unfold maxLen; omega
  case c5 => omega
  case c6 => simp
  intro v' w1 hown hgrow hnil
  have hb : RowKit.Below w.heap.size w w1 := ((RowKit.Below.refl w.heap.size w).alloc (Nat.le_refl _) _).grown hgrow (by simp) (fun k hk => by simp [Value.ownBlock] at hk; omega)
  have ho : OwnA w1 w.heap.size v' zs := by
    unfold OwnA
    rw [← HZ.out]
    simpa using hown
  rcases ho.form with ⟨rfl, _⟩ | ⟨g, cap', rfl, _⟩
  · exact (hnil rfl).elim
  · go_wp2
    go_ret
    exact ⟨_, rfl, ho, hb⟩
theorem clone_none (w : World) : Calls Try.prog 35 #[.slice none 0 0] w fun e w' => ∃ v, e = .returned v ∧ OwnA w' w.heap.size v [] ∧ RowKit.Below w.heap.size w w' := by
  have hq := fun w => Lib.run_eql_slice_nil (P := Try.prog) w 22 33 none 0 0 0 0 Try.underlying22
  go_enter Try.func35, Try.ntmps35
  go_wp2
  go_ret
  exact ⟨_, rfl, own_nil _ _, Below.refl _ _⟩
theorem clone_any (sa : Option Addr) (len cap : Nat) (zs : List (Int × Int)) (w : World) (hm : len ≤ 1000) (hr : ArgA w sa len cap zs) :
    Calls Try.prog 35 #[.slice sa len cap] w fun e w' => ∃ v, e = .returned v ∧ OwnA w' w.heap.size v zs ∧ RowKit.Below w.heap.size w w' := by
  cases sa with
  | none =>
    obtain ⟨rfl, rfl⟩ := hr.2.1 rfl
    obtain rfl : zs = [] := List.length_eq_zero_iff.1 hr.1.1.symm
    exact clone_none w
  | some ad =>
    refine clone_some ad len cap zs w hm hr.1.1 fun j u hj => ?_
    have hl := (List.getElem?_eq_some_iff.1 hj).1
    rw [flat_len, ← hr.1.1] at hl
    obtain ⟨b, off, e, _⟩ := hr.1.2 (by omega)
    obtain rfl := Option.some.inj e
    have := flat_cells hr.1 j u hj
    rw [show (⟨b, off, none⟩ : Addr).add j = ⟨b, off + j, none⟩ by unfold Addr.add; split <;> simp_all]
    exact this

/-! ### orElse -/
theorem orElse_row (sa : Option Addr) (len cap : Nat) (ob : Option Addr) (on oc : Nat) (w : World) (hm : len ≤ 1000) :
    Calls Try.prog 31 #[.slice sa len cap, .slice ob on oc] w fun e w' => e = .returned (.slice sa len cap) ∧ w = w' := by
  have hm3 : decide ((1000 : Int) < (len : Int)) = false := decide_eq_false (by omega)
  go_enter Try.func31, Try.ntmps31
  go_wp2
  go_ret
  exact ⟨rfl, rfl⟩
end Go.Proofs.Ytdihbkhhhonlpaa
