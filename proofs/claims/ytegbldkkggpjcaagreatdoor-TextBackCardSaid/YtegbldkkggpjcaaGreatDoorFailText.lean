/- The contracts of package fail's last, Text, At, Wrap and New, upon the library's strings.Join and slices.Contains. -/
import Derived.Test.YtegbldkkggpjcaaGreatDoorFailDigits
import Derived.Test.YtegbldkkggpjcaaGreatDoorShelf
namespace Go.Proofs.YtegbldkkggpjcaaGreatDoor
open Go.RowKit

/-- A colon and a blank. -/
def colon : ByteArray := ⟨#[58, 32]⟩
/-- Ops, each with a colon and a blank behind it. -/
def preB (l : List ByteArray) : ByteArray := l.foldl (fun o s => o ++ s ++ colon) ⟨#[]⟩
theorem preB_snoc (l : List ByteArray) (s : ByteArray) : preB (l ++ [s]) = preB l ++ s ++ colon := by simp [preB]
theorem toList_append (a b : ByteArray) : (a ++ b).data.toList = a.data.toList ++ b.data.toList := by simp [ByteArray.data_append]
theorem ext_toList {a b : ByteArray} (h : a.data.toList = b.data.toList) : a = b := by
  apply ByteArray.ext; exact Array.toList_inj.1 h
theorem foldl_toList (l : List ByteArray) : ∀ o : ByteArray, (l.foldl (fun o s => o ++ s ++ colon) o).data.toList = o.data.toList ++ (l.map (fun s => s.data.toList ++ colon.data.toList)).flatten := by
  induction l with
  | nil => intro o; simp
  | cons s l ih => intro o; rw [List.foldl_cons, ih, toList_append, toList_append]; simp
theorem preB_toList (l : List ByteArray) : (preB l).data.toList = (l.map (fun s => s.data.toList ++ colon.data.toList)).flatten := by
  unfold preB; rw [foldl_toList]; rfl
theorem preB_cons (s : ByteArray) (l : List ByteArray) : preB (s :: l) = s ++ colon ++ preB l := by
  apply ext_toList
  rw [preB_toList, toList_append, toList_append, preB_toList]
  simp
theorem preB_size (l : List ByteArray) (m : Nat) (h : ∀ s ∈ l, s.size ≤ m) : (preB l).size ≤ l.length * (m + 2) := by
  induction l with
  | nil => exact Nat.zero_le _
  | cons s l ih =>
    rw [preB_cons, ByteArray.size_append, ByteArray.size_append, show colon.size = 2 from rfl, List.length_cons, Nat.succ_mul]
    have := ih (fun s hs => h s (List.mem_cons_of_mem _ hs))
    have := h s List.mem_cons_self
    omega
theorem join_list (l : List (List UInt8)) (t sep : List UInt8) : Lib.join (l ++ [t]) sep = (l.map (· ++ sep)).flatten ++ t := by
  induction l with
  | nil => simp [Lib.join_one]
  | cons x l ih =>
    cases l with
    | nil =>
      show Lib.join (x :: [t]) sep = _
      rw [Lib.join_cons]; simp [Lib.joinTail]
    | cons y l =>
      rw [List.cons_append, Lib.join_cons]
      rw [List.cons_append, Lib.join_cons] at ih
      rw [show Lib.joinTail sep (y :: l ++ [t]) = sep ++ (y ++ Lib.joinTail sep (l ++ [t])) by simp [Lib.joinTail], ih]
      simp
theorem join_text (l : List ByteArray) (t : ByteArray) : (⟨(Lib.join ((l ++ [t]).map (·.data.toList)) colon.data.toList).toArray⟩ : ByteArray) = preB l ++ t := by
  apply ext_toList
  rw [toList_append, preB_toList, List.map_append, List.map_singleton, join_list]
  simp [List.map_map, Function.comp_def]

/-- The text of what lies innermost. -/
def lastB (x : Value) : ByteArray := match x with | .iface _ (.int _ c) => errorB c | _ => ⟨#[]⟩
/-- What may lie innermost: a number of the machine's, or nothing. -/
def InnerM (x : Value) : Prop := x = .nilIface ∨ ∃ c, x = .iface 41 (.int .i64 c) ∧ c ≤ 9223372036854775807
theorem InnerM.inner {x : Value} (h : InnerM x) : Inner x := by
  rcases h with h | ⟨c, h, _⟩
  · exact .inl h
  · exact .inr ⟨c, h⟩
theorem lastB_size {x : Value} (h : InnerM x) : (lastB x).size ≤ 25 := by
  rcases h with rfl | ⟨c, rfl, hc⟩
  · exact Nat.zero_le _
  · show (errorB c).size ≤ 25
    unfold errorB
    rw [ByteArray.size_append, show (⟨#[101, 114, 114, 111, 114, 32]⟩ : ByteArray).size = 6 from rfl]
    have := numB_size c hc
    omega
theorem last_any (x : Value) (h : InnerM x) (w : World) (hg : Laid w) : Calls Tryz.prog 55 #[x] w fun e w' => e = .returned (.string (lastB x)) ∧ RowKit.Below w.heap.size w w' := by
  rcases h with rfl | ⟨c, rfl, hc⟩
  · go_enter Tryz.func55, Tryz.ntmps55
    go_wp2
    go_ret
    exact ⟨rfl, Below.refl _ _⟩
  · have H := Lib.hid (number_hit c [] (.iface 41 (.int .i64 c)) 0 w hg rfl (Nat.zero_le _))
    clear hg
    go_enter Tryz.func55, Tryz.ntmps55
    go_wp2_with (first | (go_at_call 44; refine (H.out).mono ?_; rintro e w1 ⟨rfl, hb⟩) | (go_at_call 77; refine (errnoError_any c hc _).mono ?_; rintro e w2 ⟨rfl, hb2⟩))
    go_ret
    exact ⟨rfl, hb.trans (hb2.mono hb.size)⟩

/-- v's cells, one by one. -/
theorem ReadsS.at {w : World} {v : Value} {l : List ByteArray} (h : ReadsS w v l) (hl : 0 < l.length) : ∃ b off cap, v = .slice (some ⟨b, off, none⟩) l.length cap ∧ l.length ≤ cap ∧ b < w.heap.size ∧ ∀ j, j < l.length → w.cell? ⟨b, off + j, none⟩ = some (.string (l.getD j ByteArray.empty)) := by
  obtain ⟨sa, cap, b, off, e, hc, h1, h2⟩ := h
  obtain ⟨rfl, hb⟩ := h1 hl
  exact ⟨b, off, cap, e, hc, hb, h2⟩

set_option maxHeartbeats 1000000 in
theorem text_any (l : List ByteArray) (v x : Value) (B : Nat) (w : World) (hg : Laid w) (he : ErrAt B w v l x) (hx : InnerM x) (hB : B ≤ w.heap.size) (hl : l.length ≤ 1000) (hs : ∀ s ∈ l, s.size ≤ 1000) :
    Calls Tryz.prog 23 #[v] w fun e w' => e = .returned (.string (preB l ++ lastB x)) ∧ RowKit.Below w.heap.size w w' := by
  obtain ⟨i0, hi, hz0, hz1, hz2⟩ := info_parts infoStr
  have H := Lib.hid (within_any l v x B w hg he hx.inner hB hl)
  have HX := Lib.hid hx
  have HG := Lib.hid hg
  have hpos := hg.pos
  have hjl : (Lib.join ((l ++ [lastB x]).map (·.data.toList)) colon.data.toList).length ≤ 140737488355328 := by
    have e : (Lib.join ((l ++ [lastB x]).map (·.data.toList)) colon.data.toList).length = (preB l ++ lastB x).size := by
      rw [← join_text]; simp [ByteArray.size]
    rw [e, ByteArray.size_append]
    have a := preB_size l 1000 hs
    have b := lastB_size hx
    have c : l.length * (1000 + 2) ≤ 1000 * (1000 + 2) := Nat.mul_le_mul_right _ hl
    omega
  have HL := Lib.hid hjl
  clear he hx hg hs hjl
  go_enter Tryz.func23, Tryz.ntmps23
  go_wp2_with fail
  refine (H.out).mono ?_; rintro e w1 ⟨u, rfl, ho, hb⟩
  have HO := Lib.hid ho
  have HB := Lib.hid hb
  clear ho hb
  go_wp2_with fail
  refine (last_any x HX.out w1 (HG.out.below HB.out hpos)).mono ?_; rintro e w2 ⟨rfl, hb2⟩
  have hown := HO.out.later hb2
  have hb3 := HB.out.trans (hb2.mono HB.out.size)
  have hsz := hb3.size
  clear hb2 HO
  go_wp2_with (at_builtin; refine wpList_append_own _ rfl _ _ 93 rfl w.heap.size 9 i0 (.string ⟨#[]⟩) 1 16 Tryz.underlying93 hi hz0 hz1 hz2 rfl (by decide) _ _ _ rfl (World.ownsRow.alloc hown _) ⟨w2.heap.size, 0, none⟩ 1 1 [.string (lastB x)] rfl rfl ?c1 ?c2 ?c3 ?c4 ?c5 ?_)
  case c1 =>
    intro j u hj
    match j, hj with
    | 0, hj => simp at hj; subst hj; simp [Addr.add]
  case c2 => intro u hu; simp at hu; subst hu; rfl
  case c3 => unfold maxLen; omega
  case c4 => omega
  case c5 => simp; omega
  intro v' w3 hown' hgrow _
  have hb' := OwnS.below hown hb3 (Nat.le_refl _) hsz _ hgrow
  have ho' : OwnS w3 w.heap.size v' (l ++ [lastB x]) := OwnS.snoc hown'
  have hlen : (l ++ [lastB x]).length = l.length + 1 := by simp
  obtain ⟨b, off, cap, rfl, hcap, hbk, hcells⟩ := ho'.reads.at (by omega)
  have HJ2 := Lib.hid (Tryz.strings_Join b off cap (l ++ [lastB x]) colon w3 (by
    intro j y hj
    obtain ⟨hj1, hj2⟩ := List.getElem?_eq_some_iff.1 hj
    rw [hcells j hj1]
    simp [List.getD, hj]) hbk (by omega) hcap HL.out)
  have HB3 := Lib.hid hb'
  clear hown' hgrow hown hb3 hb' ho' hcells hcap hbk
  rw [hlen, join_text] at HJ2
  rw [hlen]
  go_wp2_with (go_at_call 54; refine (HJ2.out).mono ?_; rintro e w4 ⟨rfl, hb4⟩)
  go_ret
  exact ⟨rfl, HB3.out.trans (hb4.mono HB3.out.size)⟩

theorem at_any (l : List ByteArray) (op : ByteArray) (v x : Value) (B : Nat) (w : World) (hg : Laid w) (he : ErrAt B w v l x) (hx : Inner x) (hB : B ≤ w.heap.size) (hl : l.length ≤ 1000) :
    Calls Tryz.prog 22 #[v, .string op] w fun e w' => e = .returned (.bool (Lib.containsS l op)) ∧ RowKit.Below w.heap.size w w' := by
  have H := Lib.hid (trace_any l v x B w hg he hx hB hl)
  clear he hx hg
  go_enter Tryz.func22, Tryz.ntmps22
  go_wp2_with fail
  refine (H.out).mono ?_; rintro e w1 ⟨u, rfl, ho, hb⟩
  have HB := Lib.hid hb; clear hb
  by_cases h0 : 0 < l.length
  · obtain ⟨b, off, cap, rfl, hcap, hbk, hcells⟩ := ho.reads.at h0
    have HC := Lib.hid (Tryz.slices_Contains_string b off l.length cap l op w1 (Nat.le_refl _) (by omega) hcells)
    rw [List.take_of_length_le (Nat.le_refl _)] at HC
    clear hcells hbk hcap ho
    go_wp2_with (go_at_call 51; refine (HC.out).mono ?_; rintro e w2 ⟨rfl, rfl⟩)
    go_ret
    exact ⟨rfl, HB.out⟩
  · obtain rfl : l = [] := List.length_eq_zero_iff.1 (by omega)
    obtain ⟨sa, cap, b, off, rfl, _⟩ := ho.reads
    clear ho h0
    go_wp2_with (go_at_call 51; refine (Tryz.slices_Contains_string_empty sa cap op w1).mono ?_; rintro e w2 ⟨rfl, rfl⟩)
    go_ret
    exact ⟨rfl, HB.out⟩

theorem new_ok (op : ByteArray) (w : World) : Calls Tryz.prog 45 #[.string op, .int .i64 0] w fun e w' => e = .returned .nilIface ∧ w = w' := by
  go_enter Tryz.func45, Tryz.ntmps45
  go_wp2
  go_ret
  exact ⟨rfl, rfl⟩
theorem new_err (op : ByteArray) (c : Int) (hc : c ≠ 0) (w : World) : Calls Tryz.prog 45 #[.string op, .int .i64 c] w fun e w' => ∃ v, e = .returned v ∧ ErrAt w'.heap.size w' v [op] (.iface 41 (.int .i64 c)) ∧ RowKit.Below w.heap.size w w' := by
  go_enter Tryz.func45, Tryz.ntmps45
  go_wp2
  go_ret
  exact ⟨_, rfl, ⟨w.heap.size, _, by simp, rfl, by simp, by simp, rfl⟩, (Below.refl _ _).alloc (Nat.le_refl _) _⟩
theorem wrap_nil (op : ByteArray) (w : World) : Calls Tryz.prog 69 #[.string op, .nilIface] w fun e w' => e = .returned .nilIface ∧ w = w' := by
  go_enter Tryz.func69, Tryz.ntmps69
  go_wp2
  go_ret
  exact ⟨rfl, rfl⟩
theorem wrap_err (op : ByteArray) (l : List ByteArray) (d : TypeId) (y : Value) (v : Value) (w : World) (he : ErrAt w.heap.size w v l (.iface d y)) : Calls Tryz.prog 69 #[.string op, v] w fun e w' => ∃ v', e = .returned v' ∧ ErrAt w'.heap.size w' v' (op :: l) (.iface d y) ∧ RowKit.Below w.heap.size w w' := by
  obtain ⟨d', x', rfl⟩ := he.iface
  have HE := Lib.hid he; clear he
  go_enter Tryz.func69, Tryz.ntmps69
  go_wp2
  go_ret
  refine ⟨_, rfl, ⟨w.heap.size, .iface d' x', by simp, rfl, by simp, by simp, ?_⟩, (Below.refl _ _).alloc (Nat.le_refl _) _⟩
  exact (HE.out.later (fun b o h => World.cell?_alloc_lt _ _ ⟨b, o, none⟩ h)).wider (by simp)
end Go.Proofs.YtegbldkkggpjcaaGreatDoor
