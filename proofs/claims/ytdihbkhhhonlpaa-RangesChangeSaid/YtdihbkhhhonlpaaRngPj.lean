/- The program's own Gaps. -/
import Derived.Test.YtdihbkhhhonlpaaRngPi
namespace Go.Proofs.Ytdihbkhhhonlpaa
open Go.RowKit Go.Sort Go.Shelf

attribute [local go_sem] Oper.semAt_some

theorem gapsF_len (x : Int) (pre : List (Int × Int)) : (gapsF x pre).1.length ≤ pre.length := by
  have key : ∀ (P : List (Int × Int)) (a : List (Int × Int) × Int), (P.foldl gf a).1.length ≤ a.1.length + P.length := by
    intro P
    induction P with
    | nil => intro a; exact Nat.le_refl _
    | cons r t ih =>
      intro a
      refine Nat.le_trans (ih (gf a r)) ?_
      unfold gf
      split <;> simp <;> omega
  simpa [gapsF] using key pre ([], x)
/-- What the loop's caller holds. -/
def GapI (w : World) (base A L N Bi : Nat) (y : Int × Int) (pre : List (Int × Int)) (W : World) : Prop :=
  ((∃ v, Boxed W L 22 v ∧ W.ownsRow base 33 2 v (gapsF y.1 pre).1.length (flat (gapsF y.1 pre).1) ∧ (v.ownBlock ≠ some Bi ∧ v.ownBlock ≠ some A)) ∧ Boxed W N 3 (.int .i64 (gapsF y.1 pre).2) ∧ Lies W A y) ∧ RowKit.Below base w W
theorem gapI_own {w W0 : World} {base A L N Bi : Nat} {y : Int × Int} (hb : base ≤ w.heap.size) (hB : base ≤ W0.heap.size) : OwnFrom W0.heap.size (GapI w base A L N Bi y) :=
  OwnFrom.and (Own.from (fun s X Y row h hg hr => ⟨holdsRow_own base L 22 33 2 (fun pre => (gapsF y.1 pre).1.length) (fun pre => flat (gapsF y.1 pre).1) (fun _ v => v.ownBlock ≠ some Bi ∧ v.ownBlock ≠ some A) s X Y row h.1 hg hr,
    boxed_own N 3 (fun pre => .int .i64 (gapsF y.1 pre).2) s X Y row h.2.1 hg hr, Lies.own A y () X Y row h.2.2 hg hr⟩) _) (ownFrom_below hb hB)
theorem GapI.intro {w W : World} {base A L N Bi : Nat} {y : Int × Int} {pre P : List (Int × Int)} {nx : Int} (e : gapsF y.1 pre = (P, nx)) {v : Value} (hv : Boxed W L 22 v) (hrow : W.ownsRow base 33 2 v P.length (flat P)) (h1 : v.ownBlock ≠ some Bi) (h2 : v.ownBlock ≠ some A) (hN : Boxed W N 3 (.int .i64 nx)) (hA : Lies W A y) (hB : RowKit.Below base w W) : GapI w base A L N Bi y pre W := by
  unfold GapI
  rw [e]
  exact ⟨⟨⟨v, hv, hrow, h1, h2⟩, hN, hA⟩, hB⟩
/-- A block beside the row that grows and the box that is stored into lies as it lay. -/
theorem app_keep {W w1 : World} {tmp : Obj} {row : Option Nat} {L : Nat} {v' : Value} (hgrow : (W.alloc tmp).grownBy w1 row) {B : Nat} (hB : B < W.heap.size) (h1 : some B ≠ row) (h2 : B ≠ L) : (w1.setCell ⟨L, 0, none⟩ v').heap[B]? = W.heap[B]? :=
  (Below.heap_setCell _ _ _ B h2).trans ((hgrow.block B (by simp; omega) h1).trans (Below.heap_alloc _ _ _ hB))

set_option maxRecDepth 100000 in
set_option maxHeartbeats 4000000 in
theorem gaps_yes (sa : Option Addr) (len cap : Nat) (zs : List (Int × Int)) (lo hi : Int) (w : World) (hm : len ≤ 1000) (hl : (gapsZ zs lo hi).length ≤ 1000) (hr : ReadsA w sa len zs) (ok : Ok (-1) zs) :
    CallsIn Fence.wide 3 Try.prog 17 #[.slice sa len cap, .int .i64 lo, .int .i64 hi] w fun e w' => ∃ v, e = .returned v ∧ OwnA w' w.heap.size v (gapsZ zs lo hi) ∧ RowKit.Below w.heap.size w w' := by
  have HR := Lib.hid hr; clear hr
  have HD := Lib.hid (decide_eq_true ok)
  have HIS := Lib.hid (gaps_is ok lo hi)
  have HO := Lib.hid ok; clear ok
  have HL := Lib.hid hl; clear hl
  obtain ⟨y, hy⟩ : ∃ y, y = ovl (lo, hi) (1, 1000000) := ⟨_, rfl⟩
  have HY := Lib.hid hy
  rw [← hy] at HIS
  clear hy
  refine callsIn_of_wp_marks Try.func17 rfl trivial ?_ rfl
  simp only [Try.ntmps17, List.size_toArray, List.length_cons, List.length_nil, Nat.reduceAdd, Nat.reduceSub, Array.replicate_succ, Array.replicate_zero, List.push_toArray, List.append_toArray, List.nil_append, List.cons_append]
  gi_wp2_with (first
    | (refine ⟨trivial, ?_⟩; gi_at_call 26; refine (callsIn_wide.2 (isSet_any sa len cap zs _ hm HR.out)).mono ?_; rintro e w1 ⟨rfl, hg⟩; rw [HD.out]; have HG1 := Lib.hid hg; clear hg)
    | (refine ⟨trivial, ?_⟩; gi_at_call 30; refine (callsIn_wide.2 (whole_any _)).mono ?_; rintro e w2 ⟨rfl, hg⟩; have HG2 := Lib.hid (HG1.out.trans hg); clear hg)
    | (refine ⟨trivial, ?_⟩; gi_at_call 29; refine (callsIn_wide.2 (overlap_any (lo, hi) (1, 1000000) _)).mono ?_; rintro e w3 ⟨rfl, hg⟩; rw [← HY.out]; have HG3 := Lib.hid (HG2.out.trans hg); have HG4 := Lib.hid (((HG3.out.alloc (.cells #[.int .i64 y.1, .int .i64 y.2] 33)).alloc (.cells #[.slice none 0 0] 22)).alloc (.cells #[.int .i64 y.1] 3)); clear hg)
    | (refine ⟨trivial, ?_⟩; gi_at_call 27; refine (callsIn_wide.2 (parts_seq w.heap.size sa len cap y zs _ (HR.out.bound.later HG4.out.below) HG4.out.below.size)).mono ?_; rintro e w5 ⟨rfl, hs, hg⟩; have HS5 := Lib.hid hs; have HG5 := Lib.hid hg; clear hs hg))
  obtain ⟨i0, hi0, hz0, hz1, hz2⟩ := info_parts infoAtt
  have l3 := HG3.out.below.size
  have l4 := HG5.out.below.size
  simp only [World.size_alloc] at l4
  have up : ∀ (B : Nat) (o : Obj), B < w3.heap.size + 1 + 1 + 1 → (((w3.alloc (.cells #[.int .i64 y.1, .int .i64 y.2] 33)).alloc (.cells #[.slice none 0 0] 22)).alloc (.cells #[.int .i64 y.1] 3)).heap[B]? = some o → w5.heap[B]? = some o := fun B o hB h => (HG5.out.below.block B (by simp; omega)).trans h
  have bL : Boxed w5 (w3.heap.size + 1) 22 (.slice none 0 0) := up _ _ (by omega) ((Below.heap_alloc _ _ _ (by simp)).trans (by
    have := World.alloc_heap_new (w3.alloc (.cells #[.int .i64 y.1, .int .i64 y.2] 33)) (.cells #[.slice none 0 0] 22)
    simpa using this))
  have bN : Boxed w5 (w3.heap.size + 1 + 1) 3 (.int .i64 y.1) := up _ _ (by omega) (by
    have := World.alloc_heap_new ((w3.alloc (.cells #[.int .i64 y.1, .int .i64 y.2] 33)).alloc (.cells #[.slice none 0 0] 22)) (.cells #[.int .i64 y.1] 3)
    simpa using this)
  have bA : Lies w5 w3.heap.size y := up _ _ (by omega) ((Below.heap_alloc _ _ _ (by simp; omega)).trans ((Below.heap_alloc _ _ _ (by simp)).trans (Lies.new w3 y)))
  have hB0 : RowKit.Below w.heap.size w w5 := HG4.out.below.trans (HG5.out.below.mono HG4.out.below.size)
  have hBi := World.block_lt_of_cell? _ _ HS5.out.i0
  simp only [World.size_alloc] at hBi
  have sq := HS5.out
  simp only [World.size_alloc] at sq
  refine wpIn_rangeFunc_ownH rfl (by omega) (gf := 41) (lb := #[.pointer (some ⟨w3.heap.size + 1 + 1 + 1, 0, none⟩), .pointer (some ⟨w3.heap.size + 1 + 1 + 1 + 1, 0, none⟩)]) rfl trivial (enters_of Try.func41 (by kernel_rfl) rfl)
    (parts_stops (3 - 1) (by omega) w.heap.size sa len cap y zs hm w5 (w3.heap.size + 1 + 1 + 1) (w3.heap.size + 1 + 1 + 1 + 1) sq.s sq.i0 sq.i1 hB0.size sq.reads.1 sq.reads.2) kp_t (kp_b hB0.size hBi) (Below.refl _ _) (fun _ => rfl)
    (GapI w w.heap.size w3.heap.size (w3.heap.size + 1) (w3.heap.size + 1 + 1) (w3.heap.size + 1 + 1 + 1 + 1) y)
    (fun _ _ _ => False)
    (gapI_own (Nat.le_refl _) hB0.size)
    (fun _ _ _ _ _ hs _ _ => hs)
    ⟨⟨⟨_, bL, World.ownsRow_nil _ _ _ _, by simp [Value.ownBlock], by simp [Value.ownBlock]⟩, bN, bA⟩, hB0⟩
    (fun x a' W => ∃ Bx, Lies W Bx x ∧ (∃ v, Boxed W (w3.heap.size + 1) 22 v ∧ v.ownBlock ≠ some Bx) ∧ a' = { tmps := #[.slice sa len cap, .int .i64 lo, .int .i64 hi, undef, undef, undef, .slice none 0 0, .pointer (some ⟨w3.heap.size, 0, none⟩), .pointer (some ⟨w3.heap.size + 1, 0, none⟩), .pointer (some ⟨w3.heap.size + 1 + 1, 0, none⟩), .pointer (some ⟨Bx, 0, none⟩), .slice sa len cap, .bool true, .bool false, .int .i64 lo, .int .i64 hi, .agg #[.int .i64 lo, .int .i64 hi], .agg #[.int .i64 1, .int .i64 1000000], .agg #[.int .i64 y.1, .int .i64 y.2], .pointer (some ⟨w3.heap.size, 0, none⟩), .int .i64 y.1, .slice sa len cap, .agg #[.int .i64 y.1, .int .i64 y.2], .func (.func 41) #[] #[.pointer (some ⟨w3.heap.size + 1 + 1 + 1, 0, none⟩), .pointer (some ⟨w3.heap.size + 1 + 1 + 1 + 1, 0, none⟩)], .agg #[.int .i64 x.1, .int .i64 x.2], undef, undef, undef, undef, undef, undef, undef, undef, undef, undef, undef, undef, undef, undef, undef, undef, undef, undef, undef, undef, undef, undef, undef, undef, undef, undef, undef, undef], defers := [] })
    (fun x a' s A B row ⟨Bx, h1, ⟨v, h2, h4⟩, h3⟩ hg hr => ⟨Bx, Lies.own Bx x () A B row h1 hg (fun r e => (hr r e).2), ⟨v, boxed_own _ _ (fun _ => v) () A B row h2 hg (fun r e => (hr r e).2), h4⟩, h3⟩) ?assign ?body ?done ?stop
  case assign =>
    rintro l pre x W K ⟨⟨⟨v, hv, hrow, hnv⟩, hN, hA⟩, hB⟩ hK
    have hle := hB.size
    gi_wp2
    refine hK _ _ ((KeepsOthers.alloc _ _).from _) (kp_grew ((Grew.refl _).alloc _) (by omega)) ⟨⟨⟨v, hv.alloc _, hrow.alloc _, hnv⟩, hN.alloc _, (Below.heap_alloc _ _ _ hA.lt).trans hA⟩, hB.alloc (by omega) _⟩ ⟨W.heap.size, Lies.new W x, ⟨v, hv.alloc _, fun e => ?_⟩, rfl⟩
    have := (World.ownsRow.lt hrow _ e).2
    omega
  case body =>
    rintro l pre x a' W hl0 ⟨r, hr⟩ ⟨⟨⟨v, hv, hrow, hnv, hnA⟩, hN, hA⟩, hB⟩ ⟨Bx, bX, ⟨v2, hv2', hnX'⟩, rfl⟩ hlt
    obtain rfl : v = v2 := by
      have e := (show W.heap[w3.heap.size + 1]? = _ from hv).symm.trans hv2'
      simpa using e
    have hnX : v.ownBlock ≠ some Bx := hnX'
    have hle := hB.size
    have hc := hv.cell
    have hNc := hN.cell
    have hNf := hN.frozen
    have x0 := bX.c0
    have x1 := bX.c1
    have xL : Bx ≠ w3.heap.size + 1 := fun e => by
      rw [e] at bX
      have := (show W.heap[w3.heap.size + 1]? = _ from hv).symm.trans bX
      simp at this
    have xN : Bx ≠ w3.heap.size + 1 + 1 := fun e => by
      rw [e] at bX
      have := (show W.heap[w3.heap.size + 1 + 1]? = _ from hN).symm.trans bX
      simp at this
    have hpl : (gapsF y.1 pre).1.length ≤ 6000 := Nat.le_trans (gapsF_len _ _) (by omega)
    have GS := Lib.hid (gapsF_snoc y.1 pre x)
    have hll := (Array.getElem?_eq_some_iff.1 hr).1
    have hBi2 : w3.heap.size + 1 + 1 + 1 + 1 < W.heap.size := by omega
    have HAl := hA.lt
    have HNl := hN.lt
    have HXl := bX.lt
    have HG := Lib.hid (show gf (gapsF y.1 pre) x = (if (gapsF y.1 pre).2 < x.1 then (gapsF y.1 pre).1 ++ [((gapsF y.1 pre).2, wrap64 (x.1 - 1))] else (gapsF y.1 pre).1, wrap64 (x.2 + 1)) from rfl)
    have hNr := Lib.hid (hN.not_row (by decide) hrow)
    clear HG
    generalize gapsF y.1 pre = q at *
    obtain ⟨P, nx⟩ := q
    simp only at hrow hN hpl hNc hNf
    by_cases q : nx < x.1
    · have d : decide (nx < x.1) = true := decide_eq_true q
      have E := Lib.hid (GS.out.trans (show gf (P, nx) x = (P ++ [(nx, wrap64 (x.1 - 1))], wrap64 (x.2 + 1)) by unfold gf; simp only; rw [if_pos q]))
      clear q GS
      gi_wp2_with (gi_at_builtin; refine wpListIn_append_own_at _ rfl _ _ 22 rfl w.heap.size 33 i0 (.agg #[.int .i64 0, .int .i64 0]) 2 16 Try.underlying22 hi0 hz0 hz1 hz2 rfl (by decide) _ _ _ rfl (hrow.alloc _) ⟨W.heap.size, 0, none⟩ 1 1 [.int .i64 nx, .int .i64 (wrap64 (x.1 - 1))] rfl rfl (news_rng W (nx, wrap64 (x.1 - 1))) (flat_one [(nx, wrap64 (x.1 - 1))]) (by unfold maxLen; omega) (by omega) (by simp; omega) ?_; intro v' w6 hown' hgrow _ hat; obtain ⟨g', cap', rfl⟩ := ownsRow_succ hown'; obtain ⟨hv1, hv2, hr2, hk2, hb2⟩ := hv.appended (by decide) hrow (by omega) (by omega) hown' hgrow; have hc1 := hv1.cell; have hf1 := hv1.frozen; have KB := Lib.hid (fun (B : Nat) (h1 : B < W.heap.size) (h2 : some B ≠ v.ownBlock) (h3 : B ≠ w3.heap.size + 1) => app_keep (v' := .slice (some ⟨g', 0, none⟩) (P.length + 1) cap') hgrow h1 h2 h3); have N' : Boxed (w6.setCell ⟨w3.heap.size + 1, 0, none⟩ (.slice (some ⟨g', 0, none⟩) (P.length + 1) cap')) (w3.heap.size + 1 + 1) 3 (.int .i64 nx) := (KB.out (w3.heap.size + 1 + 1) HNl hNr.out (by omega)).trans hN; have X' : Lies (w6.setCell ⟨w3.heap.size + 1, 0, none⟩ (.slice (some ⟨g', 0, none⟩) (P.length + 1) cap')) Bx x := (KB.out Bx HXl (fun e => hnX e.symm) xL).trans bX; have nc := N'.cell; have nf := N'.frozen; have xc := X'.c1)
      have kB : ∀ (B : Nat), B < W.heap.size → some B ≠ v.ownBlock → B ≠ w3.heap.size + 1 → B ≠ w3.heap.size + 1 + 1 → ((w6.setCell ⟨w3.heap.size + 1, 0, none⟩ (.slice (some ⟨g', 0, none⟩) (P.length + 1) cap')).setCell ⟨w3.heap.size + 1 + 1, 0, none⟩ (.int .i64 (wrap64 (x.2 + 1)))).heap[B]? = W.heap[B]? := fun B h1 h2 h3 h4 => (Below.heap_setCell _ _ _ B h4).trans (KB.out B h1 h2 h3)
      refine ⟨(hk2.trans (KeepsOthers.setCell _ _ _)).from _, ⟨hb2.setCell (p := ⟨w3.heap.size + 1 + 1, 0, none⟩) (by show w.heap.size ≤ w3.heap.size + 1 + 1; omega) _, fun _ => ?_⟩, GapI.intro E.out (hv2.other (by omega) _) ?_ ?_ ?_ (N'.set _) ((kB _ HAl (fun e => hnA e.symm) (by omega) (by omega)).trans hA) (hB.trans (hb2.setCell (p := ⟨w3.heap.size + 1 + 1, 0, none⟩) (by show w.heap.size ≤ w3.heap.size + 1 + 1; omega) _))⟩
      · have e := kB (w3.heap.size + 1 + 1 + 1 + 1) hBi2 (fun e => hnv e.symm) (by omega) (by omega)
        exact ⟨(Array.getElem?_eq_some_iff.1 (e.trans (Array.getElem?_eq_getElem hBi2))).1, e⟩
      · rw [flat_app, show (P ++ [(nx, wrap64 (x.1 - 1))]).length = P.length + 1 from List.length_append]
        exact hr2.kept (grownBy_setCell' _ (w3.heap.size + 1 + 1) _) (.inr (N'.not_row (by decide) hr2).symm)
      · rcases hat with h | h
        · rw [h]; exact hnv
        · rw [h]; simp; omega
      · rcases hat with h | h
        · rw [h]; exact hnA
        · rw [h]; simp; omega
    · have d : decide (nx < x.1) = false := decide_eq_false q
      have E := Lib.hid (GS.out.trans (show gf (P, nx) x = (P, wrap64 (x.2 + 1)) by unfold gf; simp only; rw [if_neg q]))
      clear q GS
      gi_wp2
      have kB : ∀ (B : Nat), B ≠ w3.heap.size + 1 + 1 → (W.setCell ⟨w3.heap.size + 1 + 1, 0, none⟩ (.int .i64 (wrap64 (x.2 + 1)))).heap[B]? = W.heap[B]? := fun B h4 => Below.heap_setCell _ _ _ B h4
      refine ⟨(KeepsOthers.setCell _ _ _).from _, ⟨(Below.refl _ W).setCell (p := ⟨w3.heap.size + 1 + 1, 0, none⟩) (by show w.heap.size ≤ w3.heap.size + 1 + 1; omega) _, fun _ => ?_⟩, GapI.intro E.out (hv.other (by omega) _) (hrow.kept (grownBy_setCell' _ (w3.heap.size + 1 + 1) _) (.inr hNr.out.symm)) hnv hnA (hN.set _) ((kB _ (by omega)).trans hA) (hB.setCell (p := ⟨w3.heap.size + 1 + 1, 0, none⟩) (by show w.heap.size ≤ w3.heap.size + 1 + 1; omega) _)⟩
      have e := kB (w3.heap.size + 1 + 1 + 1 + 1) (by omega)
      exact ⟨(Array.getElem?_eq_some_iff.1 (e.trans (Array.getElem?_eq_getElem hBi2))).1, e⟩
  case done =>
    rintro D ys W hD rfl ⟨⟨⟨v, hv, hrow, hnv, hnA⟩, hN, hA⟩, hB⟩ hK
    have hle := hB.size
    have hc := hv.cell
    have hNc := hN.cell
    have a0 := hA.c0
    have a1 := hA.c1
    have hpl : (gapsF y.1 (partsL zs y)).1.length ≤ 6000 := Nat.le_trans (gapsF_len _ _) (Nat.le_trans (partsL_len zs y) (by have := HR.out.1; omega))
    have hD2 := (Array.getElem?_eq_some_iff.1 hK).1
    generalize gapsF y.1 (partsL zs y) = q at *
    obtain ⟨P, nx⟩ := q
    simp only at hrow hN hpl hNc HIS
    by_cases q : nx ≤ y.2
    · have d : decide (nx ≤ y.2) = true := decide_eq_true q
      have E := Lib.hid (show P ++ [(nx, y.2)] = gapsZ zs lo hi by rw [← HIS.out, if_pos q])
      clear q
      have hlen : P.length + 1 ≤ 1000 := by
        have := HL.out
        rw [← E.out] at this
        simpa using this
      gi_wp2_with (first
        | (gi_at_builtin; refine wpListIn_append_own_at _ rfl _ _ 22 rfl w.heap.size 33 i0 (.agg #[.int .i64 0, .int .i64 0]) 2 16 Try.underlying22 hi0 hz0 hz1 hz2 rfl (by decide) _ _ _ rfl (hrow.alloc _) ⟨W.heap.size, 0, none⟩ 1 1 [.int .i64 nx, .int .i64 y.2] rfl rfl (news_rng W (nx, y.2)) (flat_one [(nx, y.2)]) (by unfold maxLen; omega) (by omega) (by simp; omega) ?_; intro v' w6 hown' hgrow _ hat; obtain ⟨g', cap', rfl⟩ := ownsRow_succ hown'; obtain ⟨hv1, hv2, hr2, hk2, hb2⟩ := hv.appended (by decide) hrow (by omega) (by omega) hown' hgrow; have hc1 := hv1.cell; have hf1 := hv1.frozen)
        | (refine ⟨trivial, ?_⟩; gi_at_call 31; refine (callsIn_wide.2 (orElse_row _ _ _ none 0 0 _ hlen)).mono ?_; rintro e w9 ⟨rfl, rfl⟩))
      have hK2 := hk2.same D _ hK rfl
      refine ⟨by simp, .inl ⟨_, _, rfl, run_takeDeferred hK2, ?_⟩⟩
      refine ⟨_, results_tmp rfl _ _ _, _, rfl, ?_, hB.trans (hb2.trans (belowK_b (w := w) (Nat.le_refl _) _ D _ _ (by omega) hK2 rfl rfl))⟩
      rw [← E.out]
      unfold OwnA
      rw [flat_app, show (P ++ [(nx, y.2)]).length = P.length + 1 from List.length_append]
      exact ownsRow_putObj hr2 _ hK2 rfl
    · have d : decide (nx ≤ y.2) = false := decide_eq_false q
      have E := Lib.hid (show P = gapsZ zs lo hi by rw [← HIS.out, if_neg q, List.append_nil])
      clear q
      have hform : OwnA W w.heap.size v P := hrow
      obtain ⟨sv, cv, rfl, _⟩ := hform.reads
      have hlen : P.length ≤ 1000 := by rw [E.out]; exact HL.out
      gi_wp2_with (refine ⟨trivial, ?_⟩; gi_at_call 31; refine (callsIn_wide.2 (orElse_row sv P.length cv none 0 0 _ hlen)).mono ?_; rintro e w9 ⟨rfl, rfl⟩)
      refine ⟨by simp, .inl ⟨_, _, rfl, run_takeDeferred hK, ?_⟩⟩
      exact ⟨_, results_tmp rfl _ _ _, _, rfl, by rw [← E.out]; exact ownsRow_putObj hrow _ hK rfl, hB.trans (belowK_b (w := w) (Nat.le_refl _) W D _ _ (by omega) hK rfl rfl)⟩
  case stop =>
    rintro D c pre W _ _ h _
    exact h.elim

theorem gaps_any (sa : Option Addr) (len cap : Nat) (zs : List (Int × Int)) (lo hi : Int) (w : World) (hm : len ≤ 1000) (hl : (gapsZ zs lo hi).length ≤ 1000) (hr : ReadsA w sa len zs) :
    Calls Try.prog 17 #[.slice sa len cap, .int .i64 lo, .int .i64 hi] w fun e w' => ∃ v, e = .returned v ∧ ResA w' v (gapsZ zs lo hi) ∧ RowKit.Below w.heap.size w w' := by
  by_cases ok : Ok (-1) zs
  · refine ((callsIn_wide (n := 3)).1 (gaps_yes sa len cap zs lo hi w hm hl hr ok)).mono ?_
    rintro e w' ⟨v, rfl, hv, hb⟩
    exact ⟨v, rfl, hv.res, hb⟩
  · have HR := Lib.hid hr; clear hr
    have HD := Lib.hid (decide_eq_false ok)
    have HE := Lib.hid (gapsZ_not ok lo hi)
    clear ok hl
    go_enter Try.func17, Try.ntmps17
    go_wp2_with (go_at_call 26; refine (isSet_any sa len cap zs _ hm HR.out).mono ?_; rintro e w1 ⟨rfl, hg⟩; rw [HD.out])
    go_ret
    exact ⟨_, rfl, by rw [HE.out]; exact (own_nil _ 0).res, hg.below⟩
end Go.Proofs.Ytdihbkhhhonlpaa
