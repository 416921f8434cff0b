/- Rows of pieces: laid, read, laid anew. Pure. -/
import Derived.Test.YtegbldkkggpjcaaDoorTxtLeast
namespace Go.Proofs.YtegbldkkggpjcaaDoor
open Go.RowKit Go.Sort

/-- A piece. -/
structure PcS where
  k : Int
  n : Int
  s : ByteArray
  l : List Int
def layP (t : OutS) (p : PcS) : OutS :=
  if p.k = 0 then numL t [p.n] else if p.k = 1 then layS t pText (bs (putZ p.s.size) ++ p.s) 0 else if p.k = 2 then layS t pRow (bs (rowZ p.l)) (rowE p.l) else if p.k = 3 then layS t pFlag (bitB (decide (0 < p.n))) 0 else t
def chunk (p : PcS) : ByteArray :=
  if p.k = 0 then bs (putZ p.n) else if p.k = 1 then bs (putZ p.s.size) ++ p.s else if p.k = 2 then bs (rowZ p.l) else if p.k = 3 then bitB (decide (0 < p.n)) else ⟨#[]⟩
def errP (p : PcS) : Int := if p.k = 0 then putE p.n else if p.k = 2 then rowE p.l else 0
theorem empty_app (a : ByteArray) : a ++ (⟨#[]⟩ : ByteArray) = a := ByteArray.append_empty
theorem app_empty (a : ByteArray) : (⟨#[]⟩ : ByteArray) ++ a = a := ByteArray.empty_append
theorem layP_no {t : OutS} (p : PcS) (h : t.e ≠ 0) : layP t p = t := by
  unfold layP numL
  simp only [List.foldl_cons, List.foldl_nil]
  unfold layS
  simp only [h, ne_eq, not_false_eq_true, if_true, ite_self]
theorem layP_ok {t : OutS} {p : PcS} (h : t.e = 0) (he : errP p = 0) : layP t p = ⟨t.s ++ chunk p, t.p, 0⟩ := by
  unfold layP chunk numL
  unfold errP at he
  simp only [List.foldl_cons, List.foldl_nil]
  by_cases q0 : p.k = 0
  · rw [if_pos q0] at he
    rw [if_pos q0, if_pos q0]
    unfold layS
    rw [if_neg (by omega), if_neg (by omega), h]
  · rw [if_neg q0] at he
    rw [if_neg q0, if_neg q0]
    by_cases q1 : p.k = 1
    · rw [if_pos q1, if_pos q1]
      unfold layS
      rw [if_neg (by omega), if_neg (by omega), h]
    · rw [if_neg q1, if_neg q1]
      by_cases q2 : p.k = 2
      · rw [if_pos q2] at he
        rw [if_pos q2, if_pos q2]
        unfold layS
        rw [if_neg (by omega), if_neg (by omega), h]
      · rw [if_neg q2, if_neg q2]
        by_cases q3 : p.k = 3
        · rw [if_pos q3, if_pos q3]
          unfold layS
          rw [if_neg (by omega), if_neg (by omega), h]
        · rw [if_neg q3, if_neg q3, empty_app, ← h]
theorem layP_bad {t : OutS} {p : PcS} (h : t.e = 0) (he : errP p ≠ 0) : (layP t p).s = ⟨#[]⟩ ∧ (layP t p).e ≠ 0 := by
  unfold layP numL
  unfold errP at he
  simp only [List.foldl_cons, List.foldl_nil]
  by_cases q0 : p.k = 0
  · rw [if_pos q0] at he
    rw [if_pos q0]
    unfold layS
    rw [if_neg (by omega), if_pos he]
    exact ⟨rfl, he⟩
  · rw [if_neg q0] at he
    rw [if_neg q0]
    by_cases q2 : p.k = 2
    · rw [if_pos q2] at he
      rw [if_neg (by omega), if_pos q2]
      unfold layS
      rw [if_neg (by omega), if_pos he]
      exact ⟨rfl, he⟩
    · rw [if_neg q2] at he
      exact absurd rfl he
def layAll (l : List PcS) : OutS := l.foldl layP ⟨⟨#[]⟩, ⟨#[]⟩, 0⟩
def chunks : List PcS → ByteArray
  | [] => ⟨#[]⟩
  | p :: l => chunk p ++ chunks l
theorem chunks_app (a b : List PcS) : chunks (a ++ b) = chunks a ++ chunks b := by
  induction a with
  | nil => exact (app_empty _).symm
  | cons p a ih => show chunk p ++ chunks (a ++ b) = chunk p ++ chunks a ++ chunks b; rw [ih, ByteArray.append_assoc]
theorem layAll_take (l : List PcS) (k : Nat) (h : k < l.length) : layAll (l.take (k + 1)) = layP (layAll (l.take k)) l[k] := by
  unfold layAll
  rw [List.take_add_one, List.foldl_append]
  simp [h]
/-- Laid without a fault, or with one and then nothing. -/
theorem lay_says : ∀ (l : List PcS) (t : OutS), (t.e = 0 ∨ t.s = ⟨#[]⟩) → ((l.foldl layP t).e = 0 ∧ t.e = 0 ∧ (∀ p ∈ l, errP p = 0) ∧ (l.foldl layP t).s = t.s ++ chunks l) ∨ ((l.foldl layP t).e ≠ 0 ∧ (l.foldl layP t).s = ⟨#[]⟩)
  | [], t, h => by
    by_cases q : t.e = 0
    · exact .inl ⟨q, q, by simp, (empty_app _).symm⟩
    · exact .inr ⟨q, h.resolve_left q⟩
  | p :: l, t, h => by
    simp only [List.foldl_cons]
    by_cases q : t.e = 0
    · by_cases q2 : errP p = 0
      · have e := layP_ok q q2
        rcases lay_says l (layP t p) (.inl (by rw [e])) with h1 | h1
        · refine .inl ⟨h1.1, q, ?_, ?_⟩
          · intro x hx
            rcases List.mem_cons.1 hx with rfl | hx
            · exact q2
            · exact h1.2.2.1 x hx
          · rw [h1.2.2.2, e, ByteArray.append_assoc]; rfl
        · exact .inr h1
      · have e := layP_bad q q2
        rcases lay_says l (layP t p) (.inr e.1) with h1 | h1
        · exact absurd h1.2.1 e.2
        · exact .inr h1
    · rw [layP_no p q]
      rcases lay_says l t h with h1 | h1
      · exact absurd h1.2.1 q
      · exact .inr h1
theorem layAll_says (l : List PcS) : ((layAll l).e = 0 ∧ (∀ p ∈ l, errP p = 0) ∧ (layAll l).s = chunks l) ∨ ((layAll l).e ≠ 0 ∧ (layAll l).s = ⟨#[]⟩) := by
  rcases lay_says l ⟨⟨#[]⟩, ⟨#[]⟩, 0⟩ (.inl rfl) with h | h
  · exact .inl ⟨h.1, h.2.2.1, by rw [← app_empty (chunks l)]; exact h.2.2.2⟩
  · exact .inr h
theorem chunks_at (l : List PcS) (k : Nat) (h : k < l.length) : chunks l = chunks (l.take k) ++ chunk l[k] ++ chunks (l.drop (k + 1)) := by
  have e : l = l.take k ++ (l[k] :: l.drop (k + 1)) := by rw [← List.drop_eq_getElem_cons h, List.take_append_drop]
  have e2 := congrArg chunks e
  rw [chunks_app] at e2
  rw [e2, ByteArray.append_assoc]
  rfl
theorem chunks_next (l : List PcS) (k : Nat) (h : k < l.length) : chunks (l.take (k + 1)) = chunks (l.take k) ++ chunk l[k] := by
  rw [List.take_add_one, chunks_app]
  simp only [h, List.getElem?_eq_getElem, Option.toList_some]
  show _ ++ (chunk l[k] ++ ⟨#[]⟩) = _
  rw [empty_app]
end Go.Proofs.YtegbldkkggpjcaaDoor
