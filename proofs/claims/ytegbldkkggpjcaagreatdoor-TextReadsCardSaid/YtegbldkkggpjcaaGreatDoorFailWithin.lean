/- The contracts of package fail's within, Trace, Deep, Code and Is. -/
import Derived.Test.YtegbldkkggpjcaaGreatDoorFailNum
namespace Go.Proofs.YtegbldkkggpjcaaGreatDoor
open Go.RowKit Go.Extern.Stop Go.Stop Go.Extern

theorem infoStr : (Tryz.prog.info? 9).map (fun i => (i.zero, i.size, i.bytes)) = some (some (.string ⟨#[]⟩), 1, 16) := by kernel_rfl

/-- v is a slice of the call's own, from block base on, that holds the texts l. -/
def OwnS (w : World) (base : Nat) (v : Value) (l : List ByteArray) : Prop := w.ownsRow base 9 1 v l.length (l.map Value.string)
theorem OwnS.snoc {w2 : World} {base : Nat} {v' : Value} {l : List ByteArray} {s : ByteArray} (h : w2.ownsRow base 9 1 v' (l.length + 1) (l.map Value.string ++ [.string s])) : OwnS w2 base v' (l ++ [s]) := by
  unfold OwnS; rw [List.length_append, List.map_append]; exact h
theorem OwnS.below {w wr w2 : World} {base B : Nat} {v : Value} {l : List ByteArray} (h : OwnS wr base v l) (hb : RowKit.Below B w wr) (hB : B ≤ base) (hs : B ≤ wr.heap.size) (o : Obj) (hg : (wr.alloc o).grownBy w2 v.ownBlock) : RowKit.Below B w w2 :=
  (hb.alloc hs o).grown hg (by simp; omega) (fun k hk => Nat.le_trans hB (World.ownsRow.lt h k hk).1)
theorem OwnS.lower {w : World} {base base' : Nat} {v : Value} {l : List ByteArray} (h : OwnS w base v l) (hb : base' ≤ base) : OwnS w base' v l := by
  refine ⟨h.1, ?_⟩
  rcases h.2 with q | ⟨g, cap, cur, e, hg, r⟩
  · exact Or.inl q
  · exact Or.inr ⟨g, cap, cur, e, Nat.le_trans hb hg, r⟩
theorem OwnS.later {w w' : World} {base : Nat} {v : Value} {l : List ByteArray} (h : OwnS w base v l) (hb : RowKit.Below w.heap.size w w') : OwnS w' base v l := by
  have h0 := h
  refine ⟨h.1, ?_⟩
  rcases h.2 with q | ⟨g, cap, cur, rfl, hg, hc, r⟩
  · exact Or.inl q
  · exact Or.inr ⟨g, cap, cur, rfl, hg, (hb.block g (World.ownsRow.lt h0 g rfl).2).trans hc, r⟩
/-- v reads as l. -/
def ReadsS (w : World) (v : Value) (l : List ByteArray) : Prop := ∃ sa cap b off, v = .slice sa l.length cap ∧ l.length ≤ cap ∧ (0 < l.length → sa = some ⟨b, off, none⟩ ∧ b < w.heap.size) ∧ ∀ j, j < l.length → w.cell? ⟨b, off + j, none⟩ = some (.string (l.getD j ByteArray.empty))
theorem ReadsS.later {w w' : World} {v : Value} {l : List ByteArray} (h : ReadsS w v l) (hb : RowKit.Below w.heap.size w w') : ReadsS w' v l := by
  obtain ⟨sa, cap, b, off, e, hc, h1, h2⟩ := h
  exact ⟨sa, cap, b, off, e, hc, fun q => ⟨(h1 q).1, Nat.lt_of_lt_of_le (h1 q).2 hb.size⟩, fun j hj => (hb.cell (p := ⟨b, off + j, none⟩) (World.block_lt_of_cell? _ _ (h2 j hj))).trans (h2 j hj)⟩
theorem OwnS.reads {w : World} {base : Nat} {v : Value} {l : List ByteArray} (h : OwnS w base v l) : ReadsS w v l := by
  have h0 := h
  rcases h.2 with ⟨rfl, hn⟩ | ⟨g, cap, cur, rfl, _, _, hcap, _⟩
  · exact ⟨none, 0, 0, 0, by rw [hn], by omega, fun q => by omega, fun j hj => by omega⟩
  · refine ⟨_, cap, g, 0, rfl, hcap, fun q => ⟨rfl, ?_⟩, fun j hj => ?_⟩
    · exact (World.ownsRow.lt h0 g rfl).2
    · rw [Nat.zero_add, World.ownsRow.cellAt h0 j (by simp; omega)]
      simp [List.getD, hj]

/-- What may lie innermost: a number, or nothing. -/
def Inner (x : Value) : Prop := x = .nilIface ∨ ∃ c, x = .iface 41 (.int .i64 c)
/-- The outermost fault of an error. -/
def headP : Value → Value
  | .iface _ (.pointer p) => .pointer p
  | _ => .pointer none

theorem fault_any (u x : Value) (l : List ByteArray) (B : Nat) (w : World) (hg : Laid w) (he : ErrAt B w u l x) (hx : Inner x) :
    Calls Tryz.prog 75 #[u] w fun e w' => e = .returned (headP u) ∧ RowKit.Below w.heap.size w w' := by
  cases l with
  | nil =>
    obtain rfl : u = x := he
    rcases hx with rfl | ⟨c, rfl⟩
    · exact fault_nil w
    · exact fault_no c w hg
  | cons s l =>
    obtain ⟨b, y, _, rfl, _⟩ := he
    exact fault_hit _ w hg

set_option maxRecDepth 100000 in
set_option maxHeartbeats 4000000 in
theorem within_any (l : List ByteArray) (v x : Value) (B : Nat) (w : World) (hg : Laid w) (he : ErrAt B w v l x) (hx : Inner x) (hB : B ≤ w.heap.size) (hl : l.length ≤ 1000) :
    Calls Tryz.prog 53 #[v] w fun e w' => ∃ u, e = .returned (.tuple #[u, x]) ∧ OwnS w' w.heap.size u l ∧ RowKit.Below w.heap.size w w' := by
  obtain ⟨i0, hi, hz0, hz1, hz2⟩ := info_parts infoStr
  have HX := Lib.hid hx; clear hx
  have HE := Lib.hid he; clear he
  have HG := Lib.hid hg
  have hpos := hg.pos
  clear hg
  have hF := fault_any v x l B w HG.out HE.out HX.out
  have HF := Lib.hid hF; clear hF
  go_enter Tryz.func53, Tryz.ntmps53
  go_wp2_with (go_at_call 75; refine (HF.out).mono ?_; rintro e w1 ⟨rfl, hb1⟩)
  have HB1 := Lib.hid hb1; clear hb1
  go_loopg [0, 2, 4] l.length (fun k u ops f wr => ∃ l1 l2 : List ByteArray, Hid (l = l1 ++ l2) ∧ l2.length = k ∧ Hid (ErrAt B w u l2 x) ∧ OwnS wr w.heap.size ops l1 ∧ Hid (f = headP u) ∧ Hid (RowKit.Below w.heap.size w wr))
  case atStart => exact ⟨[], l, rfl, rfl, HE.out, World.ownsRow_nil _ _ _ _, rfl, HB1.out⟩
  case round =>
    obtain ⟨l1, l2, HL, hk, HU, hown, HH, HB⟩ := hrel
    cases l2 with
    | nil =>
      obtain rfl : _ = x := HU.out
      obtain rfl : _ = headP _ := HH.out
      have e2 : l = l1 := by have := HL.out; simpa using this
      have E2 := Lib.hid e2; clear e2
      have hh : headP u0 = .pointer none := by rcases HX.out with e | ⟨c, e⟩ <;> rw [e] <;> rfl
      rw [hh]
      clear hh hk
      go_wp2
      go_ret2
      exact ⟨_, rfl, by rw [E2.out]; exact hown, HB.out⟩
    | cons s l3 =>
      obtain ⟨b, y, hb, rfl, h0, h1, r⟩ := HU.out
      obtain rfl : _ = headP (.iface 118 (.pointer (some ⟨b, 0, none⟩))) := HH.out
      rw [show headP (.iface 118 (.pointer (some ⟨b, 0, none⟩))) = .pointer (some ⟨b, 0, none⟩) from rfl]
      have hbs : b < w.heap.size := Nat.lt_of_lt_of_le hb hB
      have c0 : wr.cell? ⟨b, 0, none⟩ = some (.string s) := (HB.out.cell (p := ⟨b, 0, none⟩) hbs).trans h0
      have c1 : wr.cell? ⟨b, 1, none⟩ = some y := (HB.out.cell (p := ⟨b, 1, none⟩) hbs).trans h1
      have HR := Lib.hid r
      have H1 := Lib.hid h1
      have hsz := HB.out.size
      have hlen : l1.length + 1 ≤ l.length := by rw [HL.out]; simp
      have HK := Lib.hid hk
      clear r h0 h1 HU HH hk
      go_wp2_with (at_builtin; refine wpList_append_own _ rfl _ _ 93 rfl w.heap.size 9 i0 (.string ⟨#[]⟩) 1 16 Tryz.underlying93 hi hz0 hz1 hz2 rfl (by decide) _ _ _ rfl (World.ownsRow.alloc hown _) ⟨wr.heap.size, 0, none⟩ 1 1 [.string s] rfl rfl ?c1 ?c2 ?c3 ?c4 ?c5 ?_)
      case c1 =>
        intro j u hj
        match j, hj with
        | 0, hj => simp at hj; subst hj; simp [Addr.add]
      case c2 => intro u hu; simp at hu; subst hu; rfl
      case c3 => unfold maxLen; omega
      case c4 => omega
      case c5 => simp; omega
      intro v' w2 hown' hgrow _
      have hb' := OwnS.below hown HB.out (Nat.le_refl _) hsz _ hgrow
      have ho' : OwnS w2 w.heap.size v' (l1 ++ [s]) := OwnS.snoc hown'
      clear hown' hgrow hown c0 c1
      have d1 : w2.cell? ⟨b, 1, none⟩ = some y := (hb'.cell (p := ⟨b, 1, none⟩) (by show b < _; omega)).trans H1.out
      have hF := fault_any y x l3 B w2 (HG.out.below hb' hpos) (HR.out.later (fun b o h => hb'.cell (p := ⟨b, o, none⟩) (by show b < _; omega))) HX.out
      have HF2 := Lib.hid hF
      have HB' := Lib.hid hb'
      clear hF hb'
      go_wp2_with (go_at_call 75; refine (HF2.out).mono ?_; rintro e w3 ⟨rfl, hb3⟩)
      go_roundg l3.length
      case measure => have := HK.out; simp only [List.length_cons] at this; omega
      case rel => exact ⟨l1 ++ [s], l3, Lib.hid (by have := HL.out; simpa using this), rfl, HR.out, ho'.later hb3, rfl, HB'.out.trans (hb3.mono (HB'.out.size))⟩

theorem trace_any (l : List ByteArray) (v x : Value) (B : Nat) (w : World) (hg : Laid w) (he : ErrAt B w v l x) (hx : Inner x) (hB : B ≤ w.heap.size) (hl : l.length ≤ 1000) :
    Calls Tryz.prog 52 #[v] w fun e w' => ∃ u, e = .returned u ∧ OwnS w' w.heap.size u l ∧ RowKit.Below w.heap.size w w' := by
  have H := Lib.hid (within_any l v x B w hg he hx hB hl)
  clear he hx hg
  go_enter Tryz.func52, Tryz.ntmps52
  go_wp2_with (go_at_call 53; refine (H.out).mono ?_; rintro e w1 ⟨u, rfl, ho, hb⟩)
  go_ret
  exact ⟨_, rfl, ho, hb⟩
/-- The code of an error whose innermost is x. -/
def codeZ (x : Value) : Int := match x with | .iface _ (.int _ c) => c | _ => 2
theorem code_nil (w : World) : Calls Tryz.prog 16 #[.nilIface] w fun e w' => e = .returned (.int .i64 0) ∧ w = w' := by
  go_enter Tryz.func16, Tryz.ntmps16
  go_wp2
  go_ret
  exact ⟨rfl, rfl⟩
theorem code_hit (c : Int) (hc : c ≠ 0) (l : List ByteArray) (v : Value) (B : Nat) (w : World) (hg : Laid w) (he : ErrAt B w v l (.iface 41 (.int .i64 c))) (hB : B ≤ w.heap.size) :
    Calls Tryz.prog 16 #[v] w fun e w' => e = .returned (.int .i64 c) ∧ RowKit.Below w.heap.size w w' := by
  obtain ⟨d, x, rfl⟩ := he.iface
  have H := Lib.hid (number_hit c l _ B w hg he hB)
  have hn : (c != 0) = true := by simpa using hc
  clear he hg hc
  go_enter Tryz.func16, Tryz.ntmps16
  go_wp2_with (go_at_call 44; refine (H.out).mono ?_; rintro e w1 ⟨rfl, hb⟩)
  go_ret
  exact ⟨rfl, hb⟩
theorem code_miss (l : List ByteArray) (hl : l ≠ []) (v : Value) (B : Nat) (w : World) (hg : Laid w) (he : ErrAt B w v l .nilIface) (hB : B ≤ w.heap.size) :
    Calls Tryz.prog 16 #[v] w fun e w' => e = .returned (.int .i64 2) ∧ RowKit.Below w.heap.size w w' := by
  obtain ⟨b, rfl⟩ := he.head hl
  have H := Lib.hid (number_miss l _ B w hg hl he hB)
  clear he hg hl
  go_enter Tryz.func16, Tryz.ntmps16
  go_wp2_with (go_at_call 44; refine (H.out).mono ?_; rintro e w1 ⟨rfl, hb⟩)
  go_ret
  exact ⟨rfl, hb⟩
theorem is_of (v : Value) (c d : Int) (w : World) (h : Calls Tryz.prog 16 #[v] w fun e w' => e = .returned (.int .i64 c) ∧ RowKit.Below w.heap.size w w') :
    Calls Tryz.prog 63 #[v, .int .i64 d] w fun e w' => e = .returned (.bool (decide (c = d))) ∧ RowKit.Below w.heap.size w w' := by
  have H := Lib.hid h; clear h
  go_enter Tryz.func63, Tryz.ntmps63
  go_wp2_with (first | (go_at_call 16; refine (H.out).mono ?_; rintro e w1 ⟨rfl, hb⟩) | (go_at_call 78; refine (Is_N _ _ _).mono ?_; rintro e w2 ⟨rfl, rfl⟩))
  go_ret
  exact ⟨rfl, hb⟩
end Go.Proofs.YtegbldkkggpjcaaGreatDoor
