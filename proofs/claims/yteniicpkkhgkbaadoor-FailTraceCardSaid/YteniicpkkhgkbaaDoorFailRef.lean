/- The contracts of the document's Text and At, and of the laws' own few. -/
import Derived.Test.YteniicpkkhgkbaaDoorFailSame
namespace Go.Proofs.YteniicpkkhgkbaaDoor
open Go.RowKit

theorem rtext_zero (v : Value) (w : World) : Calls Tryd.prog 17 #[.agg #[v, .int .i64 0]] w fun e w' => e = .returned (.string ⟨#[]⟩) ∧ RowKit.Below w.heap.size w w' := by
  go_enter Tryd.func17, Tryd.ntmps17
  go_wp2
  go_ret
  exact ⟨rfl, (Below.refl _ _).alloc (Nat.le_refl _) _⟩

theorem take_succS (l : List ByteArray) (m : Nat) (h : m < l.length) : l.take (m + 1) = l.take m ++ [l.getD m ByteArray.empty] := by
  rw [List.take_succ_eq_append_getElem h]; simp [List.getD, h]
theorem preB_take (l : List ByteArray) (m : Nat) (hl : l.length ≤ 1000) (hs : ∀ s ∈ l, s.size ≤ 1000) : (preB (l.take m)).size ≤ 1002000 := by
  have a := preB_size (l.take m) 1000 (fun s h => hs s (List.mem_of_mem_take h))
  have b : (l.take m).length ≤ 1000 := by rw [List.length_take]; omega
  have c : (l.take m).length * (1000 + 2) ≤ 1000 * (1000 + 2) := Nat.mul_le_mul_right _ b
  omega
theorem getD_size (l : List ByteArray) (m : Nat) (h : m < l.length) (hs : ∀ s ∈ l, s.size ≤ 1000) : (l.getD m ByteArray.empty).size ≤ 1000 := by
  apply hs; simp [List.getD, h]

set_option maxRecDepth 20000 in
set_option maxHeartbeats 1600000 in
theorem rtext_any (l : List ByteArray) (v : Value) (c : Int) (hc : c ≠ 0) (hmx : c ≤ 9223372036854775807) (w : World) (hr : ReadsS w v l) (hl : l.length ≤ 1000) (hs : ∀ s ∈ l, s.size ≤ 1000) :
    Calls Tryd.prog 17 #[.agg #[v, .int .i64 c]] w fun e w' => e = .returned (.string (preB l ++ errorB c)) ∧ RowKit.Below w.heap.size w w' := by
  have HS := Lib.hid hs
  have hnum := numB_size c hmx
  have HM := Lib.hid hmx
  obtain ⟨sa, cap, b, off, rfl, hcap, h1, h2⟩ := hr
  have H1 := Lib.hid h1
  have H2 := Lib.hid h2
  generalize hn : l.length = n at *
  have HN := Lib.hid hn
  have hc0 : (c == 0) = false := by simpa using hc
  clear h1 h2 hn hs hmx hc
  go_enter Tryd.func17, Tryd.ntmps17
  go_wp2
  go_loopg [3, 4] n (fun k o i wr => ∃ m : Nat, m + k = n ∧ i = .int .i64 m ∧ o = .string (preB (l.take m)) ∧ wr = w.alloc (.cells #[.slice sa n cap, .int .i64 c] 30))
  case atStart => exact ⟨0, by omega, rfl, rfl, rfl⟩
  case round =>
    obtain ⟨m, hk, rfl, rfl, rfl⟩ := hrel
    by_cases hlt : m < n
    · obtain ⟨rfl, hbk⟩ := H1.out (by omega)
      have ka : (w.alloc (.cells #[.slice (some ⟨b, off, none⟩) n cap, .int .i64 c] 30)).cell? ⟨b, off + m, none⟩ = some (.string (l.getD m ByteArray.empty)) := (World.cell?_alloc_lt _ _ ⟨b, off + m, none⟩ hbk).trans (H2.out m hlt)
      have s1 := preB_take l m (by rw [HN.out]; exact hl) HS.out
      have s2 := getD_size l m (by rw [HN.out]; exact hlt) HS.out
      have HT := Lib.hid (take_succS l m (by rw [HN.out]; exact hlt))
      generalize l.getD m ByteArray.empty = x at *
      generalize hp : preB (l.take m) = p at *
      have HPP := Lib.hid hp
      clear hp
      have q1 : ¬ (p.size + x.size > 9223372036854775807) := by omega
      have q2 : ¬ (p.size + x.size + 2 > 9223372036854775807) := by omega
      have i1 : (0 : Int) ≤ (m : Int) := by omega
      have i2 : (m : Int) < (n : Int) := by omega
      go_wp2
      go_roundg (gk - 1)
      case measure => omega
      case rel =>
        refine ⟨m + 1, by omega, by go_num, ?_, rfl⟩
        rw [HT.out, preB_snoc, HPP.out]; rfl
    · obtain rfl : m = n := by omega
      have s1 := preB_take l m (by rw [HN.out]; exact hl) HS.out
      have hp : l.take m = l := List.take_of_length_le (by rw [HN.out]; omega)
      rw [hp] at s1 ⊢
      have s2 : ∀ p, p ++ ⟨#[101, 114, 114, 111, 114, 32]⟩ ++ numB c = p ++ errorB c := fun p => ByteArray.append_assoc
      have HE := Lib.hid s2
      clear hp s2
      have q1 : ¬ ((preB l).size + 6 > 9223372036854775807) := by omega
      have q2 : ¬ ((preB l).size + 6 + (numB c).size > 9223372036854775807) := by omega
      go_wp2_with (go_at_call 28; refine (rdigits_any c HM.out _).mono ?_; rintro e w2 ⟨rfl, hb2⟩)
      go_ret
      exact ⟨by rw [← HE.out]; rfl, ((Below.refl _ _).alloc (Nat.le_refl _) _).trans (hb2.mono (by simp))⟩

theorem strNe {a b : ByteArray} (h : a ≠ b) : (a.toList == b.toList) = false := by
  apply beq_false_of_ne
  rw [ByteArray.toList_eq, ByteArray.toList_eq]
  exact fun e => h (ext_toList e)
theorem containsS_yes {l : List ByteArray} {x : ByteArray} {m : Nat} (h : m < l.length) (e : l.getD m ByteArray.empty = x) : Lib.containsS l x = true := by
  rw [Lib.containsS_iff, ← e]; simp [List.getD, h]
theorem containsS_no {l : List ByteArray} {x : ByteArray} (h : ∀ m, m < l.length → l.getD m ByteArray.empty ≠ x) : Lib.containsS l x = false := by
  rw [Bool.eq_false_iff]
  intro hc
  rw [Lib.containsS_iff] at hc
  obtain ⟨m, hm, e⟩ := List.getElem_of_mem hc
  exact h m hm (by simp [List.getD, hm, e])

set_option maxRecDepth 20000 in
set_option maxHeartbeats 1600000 in
theorem rat_any (l : List ByteArray) (op : ByteArray) (v : Value) (c : Int) (w : World) (hr : ReadsS w v l) (hl : l.length ≤ 1000) :
    Calls Tryd.prog 20 #[.agg #[v, .int .i64 c], .string op] w fun e w' => e = .returned (.bool (Lib.containsS l op)) ∧ RowKit.Below w.heap.size w w' := by
  obtain ⟨sa, cap, b, off, rfl, hcap, h1, h2⟩ := hr
  have H1 := Lib.hid h1
  have H2 := Lib.hid h2
  generalize hn : l.length = n at *
  have HN := Lib.hid hn
  clear h1 h2 hn
  go_enter Tryd.func20, Tryd.ntmps20
  go_wp2
  go_loopg [5] n (fun k i wr => ∃ m : Nat, m + k = n ∧ i = .int .i64 m ∧ Hid (∀ j, j < m → l.getD j ByteArray.empty ≠ op) ∧ wr = w.alloc (.cells #[.slice sa n cap, .int .i64 c] 30))
  case atStart => exact ⟨0, by omega, rfl, Lib.hid (fun j hj => by omega), rfl⟩
  case round =>
    obtain ⟨m, hk, rfl, HJ, rfl⟩ := hrel
    by_cases hlt : m < n
    · obtain ⟨rfl, hbk⟩ := H1.out (by omega)
      have ka : (w.alloc (.cells #[.slice (some ⟨b, off, none⟩) n cap, .int .i64 c] 30)).cell? ⟨b, off + m, none⟩ = some (.string (l.getD m ByteArray.empty)) := (World.cell?_alloc_lt _ _ ⟨b, off + m, none⟩ hbk).trans (H2.out m hlt)
      have HX : Hid (l.getD m ByteArray.empty = l.getD m ByteArray.empty) := Lib.hid rfl
      generalize hx : l.getD m ByteArray.empty = x at ka
      have HXX := Lib.hid hx
      clear hx HX
      have i1 : (0 : Int) ≤ (m : Int) := by omega
      have i2 : (m : Int) < (n : Int) := by omega
      by_cases he : x = op
      · have HC := Lib.hid (containsS_yes (l := l) (x := op) (m := m) (by rw [HN.out]; exact hlt) (HXX.out.trans he))
        subst he
        go_wp2
        go_ret
        exact ⟨by rw [HC.out]; rfl, (Below.refl _ _).alloc (Nat.le_refl _) _⟩
      · have hb := strNe he
        have HE := Lib.hid he
        clear he
        go_wp2
        go_roundg (gk - 1)
        case measure => omega
        case rel =>
          refine ⟨m + 1, by omega, by go_num, Lib.hid (fun j hj => ?_), rfl⟩
          by_cases hjm : j = m
          · rw [hjm, HXX.out]; exact HE.out
          · exact HJ.out j (by omega)
    · obtain rfl : m = n := by omega
      have HC := Lib.hid (containsS_no (l := l) (x := op) (by rw [HN.out]; exact HJ.out))
      go_wp2
      go_ret
      exact ⟨by rw [HC.out]; rfl, (Below.refl _ _).alloc (Nat.le_refl _) _⟩

/-- Texts so few, and short. -/
def fewB (l : List ByteArray) : Bool := decide (l.length ≤ 50) && l.all (fun s => decide (s.size ≤ 100))
theorem fewB_yes {l : List ByteArray} (h : fewB l = true) : l.length ≤ 50 ∧ ∀ s ∈ l, s.size ≤ 100 := by
  simpa [fewB] using h
theorem fewB_mk {l : List ByteArray} (h0 : l.length ≤ 50) (h : ∀ m, m < l.length → (l.getD m ByteArray.empty).size ≤ 100) : fewB l = true := by
  simp only [fewB, Bool.and_eq_true, decide_eq_true_eq, List.all_eq_true]
  refine ⟨h0, fun s hs => ?_⟩
  obtain ⟨m, hm, e⟩ := List.getElem_of_mem hs
  have := h m hm
  simpa [List.getD, hm, e] using this
theorem fewB_long {l : List ByteArray} (h : 50 < l.length) : fewB l = false := by
  simp [fewB]; omega
theorem fewB_big {l : List ByteArray} {m : Nat} (hm : m < l.length) (h : 100 < (l.getD m ByteArray.empty).size) : fewB l = false := by
  rw [Bool.eq_false_iff]
  intro hc
  have := (fewB_yes hc).2 (l.getD m ByteArray.empty) (by simp [List.getD, hm])
  omega

set_option maxRecDepth 20000 in
set_option maxHeartbeats 1600000 in
theorem few_any (l : List ByteArray) (v : Value) (w : World) (hr : ReadsS w v l) (hl : l.length ≤ 9223372036854775807) (hsz : ∀ s ∈ l, s.size ≤ 9223372036854775807) :
    Calls Tryd.prog 7 #[v] w fun e w' => e = .returned (.bool (fewB l)) ∧ w = w' := by
  have HZ := Lib.hid (fun m (h : m < l.length) => (hsz (l.getD m ByteArray.empty) (by simp [List.getD, h])))
  obtain ⟨sa, cap, b, off, rfl, hcap, h1, h2⟩ := hr
  have H1 := Lib.hid h1
  have H2 := Lib.hid h2
  generalize hn : l.length = n at *
  have HN := Lib.hid hn
  clear h1 h2 hn hsz
  by_cases hlong : 50 < n
  · have HC := Lib.hid (fewB_long (l := l) (by rw [HN.out]; exact hlong))
    go_enter Tryd.func7, Tryd.ntmps7
    go_wp2
    go_ret
    exact ⟨by rw [HC.out]; rfl, rfl⟩
  go_enter Tryd.func7, Tryd.ntmps7
  go_wp2
  go_loopg [3] n (fun k i wr => ∃ m : Nat, m + k = n ∧ i = .int .i64 m ∧ Hid (∀ j, j < m → (l.getD j ByteArray.empty).size ≤ 100) ∧ wr = w)
  case atStart => exact ⟨0, by omega, rfl, Lib.hid (fun j hj => by omega), rfl⟩
  case round =>
    obtain ⟨m, hk, rfl, HJ, rfl⟩ := hrel
    by_cases hlt : m < n
    · obtain ⟨rfl, hbk⟩ := H1.out (by omega)
      have ka := H2.out m hlt
      have hz := HZ.out m hlt
      generalize hx : l.getD m ByteArray.empty = x at ka hz
      have HXX := Lib.hid hx
      clear hx
      have i1 : (0 : Int) ≤ (m : Int) := by omega
      have i2 : (m : Int) < (n : Int) := by omega
      by_cases he : 100 < x.size
      · have HC := Lib.hid (fewB_big (l := l) (m := m) (by rw [HN.out]; exact hlt) (by rw [HXX.out]; exact he))
        go_wp2
        go_ret
        exact ⟨by rw [HC.out]; rfl, rfl⟩
      · go_wp2
        go_roundg (gk - 1)
        case measure => omega
        case rel =>
          refine ⟨m + 1, by omega, by go_num, Lib.hid (fun j hj => ?_), rfl⟩
          by_cases hjm : j = m
          · rw [hjm, HXX.out]; omega
          · exact HJ.out j (by omega)
    · obtain rfl : m = n := by omega
      have HC := Lib.hid (fewB_mk (l := l) (by rw [HN.out]; omega) (by rw [HN.out]; exact HJ.out))
      go_wp2
      go_ret
      exact ⟨by rw [HC.out]; rfl, rfl⟩
end Go.Proofs.YteniicpkkhgkbaaDoor
