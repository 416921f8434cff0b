/- What the document's writer lays and the document's reader reads. Pure. A piece that the document's writer laid is read as it was. Pure. What the document's reader read without a fault are the bytes that the writer lays. Pure. Rows of pieces: laid, read, laid anew. Pure. -/
import Derived.Test.YtegbldkkggpjcaaGreatDoorTxtNums
import Derived.Test.YtegbldkkggpjcaaGreatDoorTxtText
namespace Go.Proofs.YtegbldkkggpjcaaGreatDoor
open Go.RowKit Go.Sort

theorem mid_drop (a : ByteArray) (p : List UInt8) (b : ByteArray) : (a ++ bs p ++ b).data.toList.drop a.size = p ++ b.data.toList := by
  have e : (a ++ bs p ++ b).data.toList = a.data.toList ++ (p ++ b.data.toList) := by simp [ByteArray.data_append, bs]
  rw [e, ← list_len, List.drop_left]
theorem mid_size (a : ByteArray) (p : List UInt8) (b : ByteArray) : (a ++ bs p ++ b).size = a.size + p.length + b.size := by
  rw [ByteArray.size_append, ByteArray.size_append, bs_size]
theorem back_get (a : ByteArray) (x : Int) (b : ByteArray) (h : 0 ≤ x) (hm : x ≤ 9223372036854775807) : getZ (a ++ bs (putZ x) ++ b) a.size = (x, (a.size : Int) + ((putZ x).length : Nat), 0) := by
  have e : putZ x = putL x.toNat := by unfold putZ; rw [if_neg (by omega)]
  rw [e]
  have hp := parse_put x.toNat (by omega) b.data.toList
  rw [← mid_drop a (putL x.toNat) b] at hp
  have := getZ_ok (by rw [mid_size]; omega) hp
  rw [this, show ((x.toNat : Nat) : Int) = x by omega]
theorem flat_nats : ∀ (l : List Int), (∀ x ∈ l, 0 ≤ x) → l.flatMap putZ = (l.map Int.toNat).flatMap putL := by
  intro l
  induction l with
  | nil => intro _; rfl
  | cons x t ih =>
    intro h
    have hx := h x (by simp)
    rw [List.flatMap_cons, List.map_cons, List.flatMap_cons, ih fun y hy => h y (by simp [hy])]
    congr 1
    unfold putZ; rw [if_neg (by omega)]
theorem okL_nats {l : List Int} (h : okL l = true) : l.flatMap putZ = (l.map Int.toNat).flatMap putL ∧ (l.map Int.toNat).map Int.ofNat = l := by
  have h' := List.all_eq_true.1 h
  constructor
  · exact flat_nats l fun x hx => by have := h' x hx; simpa using this
  · rw [List.map_map]
    conv => rhs; rw [← List.map_id l]
    refine List.map_congr_left fun x hx => ?_
    have := h' x hx
    simp at this
    show ((x.toNat : Nat) : Int) = x
    omega
theorem back_unrow (a : ByteArray) (l : List Int) (b : ByteArray) (h : okL l = true) (hl : l.length ≤ 1000) (hm : ∀ x ∈ l, x ≤ 9223372036854775807) : unrowZ (a ++ bs (rowP l) ++ b) a.size l.length = (l, (a.size : Int) + ((rowP l).length : Nat), 0) := by
  obtain ⟨e1, e2⟩ := okL_nats h
  have hp := parse_put l.length (by omega) (l.flatMap putZ ++ b.data.toList)
  rw [← List.append_assoc, show putL l.length ++ l.flatMap putZ = rowP l from rfl, ← mid_drop a (rowP l) b] at hp
  have hg := getZ_ok (s := a ++ bs (rowP l) ++ b) (a := a.size) (by rw [mid_size]; omega) hp
  have hd : (a ++ bs (rowP l) ++ b).data.toList.drop (a.size + (putL l.length).length) = (l.map Int.toNat).flatMap putL ++ b.data.toList := by
    rw [← List.drop_drop, mid_drop, show rowP l = putL l.length ++ l.flatMap putZ from rfl, List.append_assoc, List.drop_left, e1]
  have hi := items_put (l.map Int.toNat) b.data.toList (fun x hx => by
    obtain ⟨y, hy, rfl⟩ := List.mem_map.1 hx
    have := hm y hy; omega)
  rw [List.length_map] at hi
  unfold unrowZ
  rw [hg]
  simp only
  rw [if_neg (by simp), if_neg (by omega), Int.toNat_natCast, show ((a.size : Int) + ((putL l.length).length : Nat)).toNat = a.size + (putL l.length).length by omega, hd, hi]
  simp only
  rw [if_pos trivial, e2, ← e1]
  simp only [Prod.mk.injEq, true_and, and_true]
  rw [show rowP l = putL l.length ++ l.flatMap putZ from rfl, List.length_append]
  omega
theorem cut_bs (s : ByteArray) (m u : Nat) (_h : m + u ≤ s.size) : (s.extract m (m + u)) = bs ((s.data.toList.drop m).take u) := by
  apply ByteArray.ext
  simp only [bs, ByteArray.data_extract]
  apply Array.toList_inj.1
  simp [List.take_drop, List.extract]
theorem least_get {s : ByteArray} {a : Int} (h : (getZ s a).2.2 = 0) : ∃ m x u : Nat, a = m ∧ getZ s a = ((x : Int), (m : Int) + u, 0) ∧ m + u ≤ s.size ∧ 0 < u ∧ x < 9223372036854775808 ∧ s.extract m (m + u) = bs (putL x) := by
  obtain ⟨m, n, u, rfl, hm, hp, hg, hmu⟩ := getZ_zero h
  obtain ⟨h1, h2, h3, h4⟩ := parse_least hp
  exact ⟨m, n, u, rfl, hg, hmu, h3, h4, by rw [cut_bs s m u hmu, h1]⟩
theorem least_unrow {s : ByteArray} {a most : Int} (h : (unrowZ s a most).2.2 = 0) : ∃ (m u : Nat) (l : List Int), a = m ∧ unrowZ s a most = (l, (m : Int) + u, 0) ∧ m + u ≤ s.size ∧ 0 < u ∧ okL l = true ∧ (∀ x ∈ l, x ≤ 9223372036854775807) ∧ s.extract m (m + u) = bs (rowP l) := by
  by_cases q0 : (getZ s a).2.2 = 0
  · obtain ⟨m, n, u, rfl, hm, hp, hg, hmu⟩ := getZ_zero q0
    obtain ⟨h1, h2, h3, h4⟩ := parse_least hp
    unfold unrowZ at h ⊢
    rw [hg] at h ⊢
    simp only at h ⊢
    rw [if_neg (by simp)] at h ⊢
    by_cases q1 : 1000 < (n : Int) ∨ (most < (n : Int) ∧ 0 < (n : Int))
    · rw [if_pos q1] at h; simp at h
    rw [if_neg q1] at h ⊢
    rw [Int.toNat_natCast, show ((m : Int) + (u : Nat)).toNat = m + u by omega] at h ⊢
    obtain ⟨⟨l, c, e⟩, hi⟩ : ∃ r, items n (s.data.toList.drop (m + u)) = r := ⟨_, rfl⟩
    rw [hi] at h ⊢
    simp only at h ⊢
    by_cases q2 : e = 0
    · subst q2
      rw [if_pos rfl]
      obtain ⟨a1, a2, a3, a4⟩ := items_least n hi
      rw [List.length_drop, list_len] at a3
      have hmap : (l.map Int.ofNat).flatMap putZ = l.flatMap putL := by
        rw [flat_nats _ (fun x hx => by obtain ⟨y, _, rfl⟩ := List.mem_map.1 hx; exact Int.natCast_nonneg y), List.map_map]
        congr 1
        conv => rhs; rw [← List.map_id l]
        exact List.map_congr_left fun x _ => rfl
      refine ⟨m, u + c, l.map Int.ofNat, rfl, by simp only [Prod.mk.injEq, true_and, and_true]; omega, by omega, by omega, ?_, fun x hx => ?_, ?_⟩
      · exact List.all_eq_true.2 fun x hx => by obtain ⟨y, _, rfl⟩ := List.mem_map.1 hx; simp
      · obtain ⟨y, hy, rfl⟩ := List.mem_map.1 hx
        have := a4 y hy
        show ((y : Nat) : Int) ≤ _
        omega
      · rw [cut_bs s m (u + c) (by omega), show rowP (l.map Int.ofNat) = putL (l.map Int.ofNat).length ++ (l.map Int.ofNat).flatMap putZ from rfl, List.length_map, a1, hmap, List.take_add, h1, List.drop_drop, a2]
    · rw [if_neg q2] at h
      simp only at h
      omega
  · unfold unrowZ at h
    rw [if_pos q0] at h
    exact absurd h q0

end Go.Proofs.YtegbldkkggpjcaaGreatDoor
namespace Go.Proofs.YtegbldkkggpjcaaGreatDoor
open Go.RowKit Go.Sort

theorem moved_ok (r : InS) (p : ByteArray) (u : Int) : movedS r p u 0 = ⟨r.s, u, r.p, r.e⟩ := if_pos rfl
theorem num_back (a b p : ByteArray) (x most : Int) (h : 0 ≤ x) (hm : x ≤ 9223372036854775807) (hx : x ≤ most) : numS ⟨a ++ bs (putZ x) ++ b, a.size, p, 0⟩ most = ⟨a ++ bs (putZ x) ++ b, (a.size : Int) + ((putZ x).length : Nat), p, 0⟩ ∧ numN ⟨a ++ bs (putZ x) ++ b, a.size, p, 0⟩ most = x := by
  have g := back_get a x b h hm
  have e : numE ⟨a ++ bs (putZ x) ++ b, a.size, p, 0⟩ most = 0 := by
    unfold numE
    simp only [g]
    rw [if_neg (fun h => by have := h.2; omega)]
  constructor
  · unfold numS
    rw [if_pos rfl, e, moved_ok]
    simp only [g]
  · unfold numN
    rw [if_pos rfl, if_pos e]
    simp only [g]
theorem text_back (a s b p : ByteArray) (most : Int) (hs : s.size ≤ 100000) (hx : (s.size : Int) ≤ most) : textS ⟨a ++ bs (putZ s.size) ++ (s ++ b), a.size, p, 0⟩ most = ⟨a ++ bs (putZ s.size) ++ (s ++ b), (a.size : Int) + ((putZ s.size).length : Nat) + s.size, p, 0⟩ ∧ textT ⟨a ++ bs (putZ s.size) ++ (s ++ b), a.size, p, 0⟩ most = s := by
  have g := back_get a s.size (s ++ b) (by omega) (by omega)
  have hz := mid_size a (putZ s.size) (s ++ b)
  have hsb : (s ++ b).size = s.size + b.size := ByteArray.size_append
  have e : textE ⟨a ++ bs (putZ s.size) ++ (s ++ b), a.size, p, 0⟩ most = 0 := by
    unfold textE
    simp only [g]
    rw [if_pos trivial, if_neg (by omega), if_neg (by omega)]
  constructor
  · unfold textS
    rw [if_pos rfl, if_pos e, moved_ok]
    simp only [g]
  · unfold textT
    rw [if_pos ⟨rfl, e⟩]
    simp only [g]
    have hd := mid_drop (a ++ bs (putZ s.size)) s.data.toList b
    rw [bs_of, ByteArray.append_assoc, ByteArray.size_append, bs_size] at hd
    have c := cut_bs (a ++ bs (putZ s.size) ++ (s ++ b)) (a.size + (putZ s.size).length) s.size (by omega)
    rw [hd, List.take_left' (list_len s), bs_of] at c
    rw [show ((a.size : Int) + ((putZ s.size).length : Nat)).toNat = a.size + (putZ s.size).length by omega, show ((a.size : Int) + ((putZ s.size).length : Nat) + (s.size : Int)).toNat = a.size + (putZ s.size).length + s.size by omega]
    exact c
theorem row_back (a b p : ByteArray) (l : List Int) (h : okL l = true) (hl : l.length ≤ 1000) (hm : ∀ x ∈ l, x ≤ 9223372036854775807) : rowS ⟨a ++ bs (rowP l) ++ b, a.size, p, 0⟩ l.length = ⟨a ++ bs (rowP l) ++ b, (a.size : Int) + ((rowP l).length : Nat), p, 0⟩ ∧ rowI ⟨a ++ bs (rowP l) ++ b, a.size, p, 0⟩ l.length = l := by
  have g := back_unrow a l b h hl hm
  constructor
  · unfold rowS
    rw [if_pos rfl]
    simp only [g]
    rw [moved_ok]
  · unfold rowI
    rw [if_pos rfl]
    simp only [g]
theorem end_back (s p : ByteArray) : endS ⟨s, s.size, p, 0⟩ = ⟨s, s.size, p, 0⟩ := if_neg (fun h => by have := h.2; simp at this)
theorem getD_drop (l : List UInt8) (n : Nat) : l.getD n 0 = (l.drop n).getD 0 0 := by simp [List.getD, List.getElem?_drop]
theorem flag_byte (a b : ByteArray) (c : Bool) (p : ByteArray) : byteAt ⟨a ++ bitB c ++ b, a.size, p, 0⟩ = if c then 1 else 0 := by
  unfold byteAt
  have hd := mid_drop a (bitB c).data.toList b
  rw [bs_of] at hd
  simp only [Int.toNat_natCast]
  rw [getD_drop, hd]
  cases c <;> rfl
theorem flag_back (a b p : ByteArray) (c : Bool) : flagS ⟨a ++ bitB c ++ b, a.size, p, 0⟩ = ⟨a ++ bitB c ++ b, (a.size : Int) + 1, p, 0⟩ ∧ flagB ⟨a ++ bitB c ++ b, a.size, p, 0⟩ = c := by
  have hb := flag_byte a b c p
  have hz : (a ++ bitB c ++ b).size = a.size + 1 + b.size := by
    rw [ByteArray.size_append, ByteArray.size_append]
    cases c <;> rfl
  constructor
  · unfold flagS
    rw [if_pos rfl, hb, if_neg (by simp only [hz]; omega), if_neg (by cases c <;> decide), moved_ok]
  · unfold flagB
    rw [hb, decide_eq_true (rfl : (0 : Int) = 0), decide_eq_true (show (a.size : Int) < ((a ++ bitB c ++ b).size : Int) by rw [hz]; omega)]
    cases c <;> rfl
end Go.Proofs.YtegbldkkggpjcaaGreatDoor
namespace Go.Proofs.YtegbldkkggpjcaaGreatDoor
open Go.RowKit Go.Sort

theorem moved_e {r : InS} {p : ByteArray} {u e : Int} (_h : r.e = 0) (k : (movedS r p u e).e = 0) : e = 0 := by
  unfold movedS at k
  split at k
  · assumption
  · exact k
theorem putZ_nn (x : Nat) : putZ (x : Int) = putL x := by unfold putZ; rw [if_neg (by omega), Int.toNat_natCast]
theorem num_least {r : InS} {most : Int} (h : r.e = 0) (k : (numS r most).e = 0) : ∃ m u : Nat, r.pos = m ∧ numS r most = ⟨r.s, (m : Int) + u, r.p, 0⟩ ∧ m + u ≤ r.s.size ∧ r.s.extract m (m + u) = bs (putZ (numN r most)) ∧ 0 ≤ numN r most ∧ numN r most ≤ 9223372036854775807 := by
  unfold numS at k
  rw [if_pos h] at k
  have hE := moved_e h k
  have h0 : (getZ r.s r.pos).2.2 = 0 := by
    unfold numE at hE
    split at hE
    · omega
    · exact hE
  obtain ⟨m, x, u, e1, e2, e3, _, e5, e6⟩ := least_get h0
  have hn : numN r most = x := by
    unfold numN
    rw [if_pos h, if_pos hE, e2]
  refine ⟨m, u, e1, ?_, e3, ?_, ?_, ?_⟩
  · unfold numS
    rw [if_pos h, hE, moved_ok, e2, h]
  · rw [hn, putZ_nn]; exact e6
  · rw [hn]; omega
  · rw [hn]; omega
theorem row_least {r : InS} {most : Int} (h : r.e = 0) (k : (rowS r most).e = 0) : ∃ m u : Nat, r.pos = m ∧ rowS r most = ⟨r.s, (m : Int) + u, r.p, 0⟩ ∧ m + u ≤ r.s.size ∧ okL (rowI r most) = true ∧ (∀ x ∈ rowI r most, x ≤ 9223372036854775807) ∧ r.s.extract m (m + u) = bs (rowP (rowI r most)) := by
  unfold rowS at k
  rw [if_pos h] at k
  have hE := moved_e h k
  obtain ⟨m, u, l, e1, e2, e3, _, e5, e6, e7⟩ := least_unrow hE
  have hn : rowI r most = l := by
    unfold rowI
    rw [if_pos h, e2]
  refine ⟨m, u, e1, ?_, e3, by rw [hn]; exact e5, by rw [hn]; exact e6, by rw [hn]; exact e7⟩
  unfold rowS
  rw [if_pos h, hE, moved_ok, e2, h]
theorem extract_two (s : ByteArray) (a b c : Nat) (h1 : a ≤ b) (h2 : b ≤ c) (h3 : c ≤ s.size) : s.extract a b ++ s.extract b c = s.extract a c := by
  have e1 := cut_bs s a (b - a) (by omega)
  have e2 := cut_bs s b (c - b) (by omega)
  have e3 := cut_bs s a (c - a) (by omega)
  rw [show a + (b - a) = b by omega] at e1
  rw [show b + (c - b) = c by omega] at e2
  rw [show a + (c - a) = c by omega] at e3
  rw [e1, e2, e3, bs_app]
  congr 1
  rw [show c - a = (b - a) + (c - b) by omega, List.take_add, List.drop_drop, show a + (b - a) = b by omega]
theorem text_least {r : InS} {most : Int} (h : r.e = 0) (k : (textS r most).e = 0) : ∃ m u : Nat, r.pos = m ∧ textS r most = ⟨r.s, (m : Int) + u, r.p, 0⟩ ∧ m + u ≤ r.s.size ∧ r.s.extract m (m + u) = bs (putZ (textT r most).size) ++ textT r most := by
  have hE : textE r most = 0 := by
    unfold textS at k
    rw [if_pos h] at k
    split at k
    · assumption
    · exact moved_e h k
  have h0 : (getZ r.s r.pos).2.2 = 0 := by
    unfold textE at hE
    split at hE
    · assumption
    · exact hE
  obtain ⟨m, x, u, e1, e2, e3, _, e5, e6⟩ := least_get h0
  have hx : (m + u) + x ≤ r.s.size := by
    unfold textE at hE
    rw [e2] at hE
    simp only [if_true] at hE
    split at hE
    · omega
    · split at hE
      · omega
      · omega
  have hT : textT r most = r.s.extract (m + u) (m + u + x) := by
    unfold textT
    rw [if_pos ⟨h, hE⟩, e2]
    congr 1
  have hs : (textT r most).size = x := by
    rw [hT, ByteArray.size_extract]
    omega
  refine ⟨m, u + x, e1, ?_, by omega, ?_⟩
  · unfold textS
    rw [if_pos h, if_pos hE, moved_ok, e2, h]
    congr 1
    simp only
    omega
  · rw [hs, putZ_nn, hT, ← e6, extract_two _ _ _ _ (by omega) (by omega) hx, Nat.add_assoc]
theorem flag_least {r : InS} (h : r.e = 0) (hp : 0 ≤ r.pos) (k : (flagS r).e = 0) : ∃ m : Nat, r.pos = m ∧ flagS r = ⟨r.s, (m : Int) + 1, r.p, 0⟩ ∧ m + 1 ≤ r.s.size ∧ r.s.extract m (m + 1) = bitB (flagB r) := by
  obtain ⟨s, pos, p, e⟩ := r
  simp only at h hp k ⊢
  subst h
  obtain ⟨m, rfl⟩ : ∃ m : Nat, pos = (m : Int) := ⟨pos.toNat, by omega⟩
  unfold flagS at k
  rw [if_pos rfl] at k
  by_cases q : (s.size : Int) ≤ (m : Int)
  · rw [if_pos q] at k
    have := moved_e (r := ⟨s, m, p, 0⟩) rfl k
    omega
  · rw [if_neg q] at k
    by_cases q2 : 1 < byteAt ⟨s, (m : Int), p, 0⟩
    · rw [if_pos q2] at k
      have := moved_e (r := ⟨s, m, p, 0⟩) rfl k
      omega
    · have hlt : m < s.data.toList.length := by rw [list_len]; omega
      have hb : byteAt ⟨s, (m : Int), p, 0⟩ = (s.data.toList[m]).toNat := by
        unfold byteAt
        simp only [Int.toNat_natCast, List.getD_eq_getElem?_getD, List.getElem?_eq_getElem hlt, Option.getD_some]
      refine ⟨m, rfl, ?_, by omega, ?_⟩
      · unfold flagS
        rw [if_pos rfl, if_neg q, if_neg q2, moved_ok]
      · rw [cut_bs _ _ _ (by omega), List.drop_eq_getElem_cons hlt]
        simp only [List.take_succ_cons, List.take_zero]
        have hB : flagB ⟨s, (m : Int), p, 0⟩ = decide (byteAt ⟨s, (m : Int), p, 0⟩ = 1) := by
          unfold flagB
          rw [decide_eq_true (rfl : (0 : Int) = 0), decide_eq_true (show (m : Int) < (s.size : Int) by omega)]
          rfl
        rw [hB, hb]
        rw [hb] at q2
        generalize s.data.toList[m] = x at *
        by_cases e1 : x.toNat = 1
        · rw [decide_eq_true e1, ← of_byte x, e1]; rfl
        · rw [decide_eq_false e1, ← of_byte x, show x.toNat = 0 by omega]; rfl
theorem end_least {r : InS} (h : r.e = 0) (k : (endS r).e = 0) : (r.s.size : Int) ≤ r.pos ∧ endS r = r := by
  unfold endS at *
  by_cases q : r.e = 0 ∧ r.pos < (r.s.size : Int)
  · rw [if_pos q] at k
    have := moved_e h k
    omega
  · rw [if_neg q]
    exact ⟨by have := fun h2 => q ⟨h, h2⟩; omega, rfl⟩
end Go.Proofs.YtegbldkkggpjcaaGreatDoor
namespace Go.Proofs.YtegbldkkggpjcaaGreatDoor
open Go.RowKit Go.Sort

/-- A piece. -/
structure PcS where
  k : Int
  n : Int
  s : ByteArray
  l : List Int
def layP (t : OutS) (p : PcS) : OutS :=
  if p.k = 0 then numL t [p.n] else if p.k = 1 then layS t pText (bs (putZ p.s.size) ++ p.s) 0 else if p.k = 2 then layS t pRow (bs (rowZ p.l)) (rowE p.l) else if p.k = 3 then layS t pFlag (bitB (decide (0 < p.n))) 0 else t
def chunk (p : PcS) : ByteArray :=
  if p.k = 0 then bs (putZ p.n) else if p.k = 1 then bs (putZ p.s.size) ++ p.s else if p.k = 2 then bs (rowZ p.l) else if p.k = 3 then bitB (decide (0 < p.n)) else ⟨#[]⟩
def errP (p : PcS) : Int := if p.k = 0 then putE p.n else if p.k = 2 then rowE p.l else 0
theorem empty_app (a : ByteArray) : a ++ (⟨#[]⟩ : ByteArray) = a := ByteArray.append_empty
theorem app_empty (a : ByteArray) : (⟨#[]⟩ : ByteArray) ++ a = a := ByteArray.empty_append
theorem layP_no {t : OutS} (p : PcS) (h : t.e ≠ 0) : layP t p = t := by
  unfold layP numL
  simp only [List.foldl_cons, List.foldl_nil]
  unfold layS
  simp only [h, ne_eq, not_false_eq_true, if_true, ite_self]
theorem layP_ok {t : OutS} {p : PcS} (h : t.e = 0) (he : errP p = 0) : layP t p = ⟨t.s ++ chunk p, t.p, 0⟩ := by
  unfold layP chunk numL
  unfold errP at he
  simp only [List.foldl_cons, List.foldl_nil]
  by_cases q0 : p.k = 0
  · rw [if_pos q0] at he
    rw [if_pos q0, if_pos q0]
    unfold layS
    rw [if_neg (by omega), if_neg (by omega), h]
  · rw [if_neg q0] at he
    rw [if_neg q0, if_neg q0]
    by_cases q1 : p.k = 1
    · rw [if_pos q1, if_pos q1]
      unfold layS
      rw [if_neg (by omega), if_neg (by omega), h]
    · rw [if_neg q1, if_neg q1]
      by_cases q2 : p.k = 2
      · rw [if_pos q2] at he
        rw [if_pos q2, if_pos q2]
        unfold layS
        rw [if_neg (by omega), if_neg (by omega), h]
      · rw [if_neg q2, if_neg q2]
        by_cases q3 : p.k = 3
        · rw [if_pos q3, if_pos q3]
          unfold layS
          rw [if_neg (by omega), if_neg (by omega), h]
        · rw [if_neg q3, if_neg q3, empty_app, ← h]
theorem layP_bad {t : OutS} {p : PcS} (h : t.e = 0) (he : errP p ≠ 0) : (layP t p).s = ⟨#[]⟩ ∧ (layP t p).e ≠ 0 := by
  unfold layP numL
  unfold errP at he
  simp only [List.foldl_cons, List.foldl_nil]
  by_cases q0 : p.k = 0
  · rw [if_pos q0] at he
    rw [if_pos q0]
    unfold layS
    rw [if_neg (by omega), if_pos he]
    exact ⟨rfl, he⟩
  · rw [if_neg q0] at he
    rw [if_neg q0]
    by_cases q2 : p.k = 2
    · rw [if_pos q2] at he
      rw [if_neg (by omega), if_pos q2]
      unfold layS
      rw [if_neg (by omega), if_pos he]
      exact ⟨rfl, he⟩
    · rw [if_neg q2] at he
      exact absurd rfl he
def layAll (l : List PcS) : OutS := l.foldl layP ⟨⟨#[]⟩, ⟨#[]⟩, 0⟩
def chunks : List PcS → ByteArray
  | [] => ⟨#[]⟩
  | p :: l => chunk p ++ chunks l
theorem chunks_app (a b : List PcS) : chunks (a ++ b) = chunks a ++ chunks b := by
  induction a with
  | nil => exact (app_empty _).symm
  | cons p a ih => show chunk p ++ chunks (a ++ b) = chunk p ++ chunks a ++ chunks b; rw [ih, ByteArray.append_assoc]
theorem layAll_take (l : List PcS) (k : Nat) (h : k < l.length) : layAll (l.take (k + 1)) = layP (layAll (l.take k)) l[k] := by
  unfold layAll
  rw [List.take_add_one, List.foldl_append]
  simp [h]
/-- Laid without a fault, or with one and then nothing. -/
theorem lay_says : ∀ (l : List PcS) (t : OutS), (t.e = 0 ∨ t.s = ⟨#[]⟩) → ((l.foldl layP t).e = 0 ∧ t.e = 0 ∧ (∀ p ∈ l, errP p = 0) ∧ (l.foldl layP t).s = t.s ++ chunks l) ∨ ((l.foldl layP t).e ≠ 0 ∧ (l.foldl layP t).s = ⟨#[]⟩)
  | [], t, h => by
    by_cases q : t.e = 0
    · exact .inl ⟨q, q, by simp, (empty_app _).symm⟩
    · exact .inr ⟨q, h.resolve_left q⟩
  | p :: l, t, h => by
    simp only [List.foldl_cons]
    by_cases q : t.e = 0
    · by_cases q2 : errP p = 0
      · have e := layP_ok q q2
        rcases lay_says l (layP t p) (.inl (by rw [e])) with h1 | h1
        · refine .inl ⟨h1.1, q, ?_, ?_⟩
          · intro x hx
            rcases List.mem_cons.1 hx with rfl | hx
            · exact q2
            · exact h1.2.2.1 x hx
          · rw [h1.2.2.2, e, ByteArray.append_assoc]; rfl
        · exact .inr h1
      · have e := layP_bad q q2
        rcases lay_says l (layP t p) (.inr e.1) with h1 | h1
        · exact absurd h1.2.1 e.2
        · exact .inr h1
    · rw [layP_no p q]
      rcases lay_says l t h with h1 | h1
      · exact absurd h1.2.1 q
      · exact .inr h1
theorem layAll_says (l : List PcS) : ((layAll l).e = 0 ∧ (∀ p ∈ l, errP p = 0) ∧ (layAll l).s = chunks l) ∨ ((layAll l).e ≠ 0 ∧ (layAll l).s = ⟨#[]⟩) := by
  rcases lay_says l ⟨⟨#[]⟩, ⟨#[]⟩, 0⟩ (.inl rfl) with h | h
  · exact .inl ⟨h.1, h.2.2.1, by rw [← app_empty (chunks l)]; exact h.2.2.2⟩
  · exact .inr h
theorem chunks_at (l : List PcS) (k : Nat) (h : k < l.length) : chunks l = chunks (l.take k) ++ chunk l[k] ++ chunks (l.drop (k + 1)) := by
  have e : l = l.take k ++ (l[k] :: l.drop (k + 1)) := by rw [← List.drop_eq_getElem_cons h, List.take_append_drop]
  have e2 := congrArg chunks e
  rw [chunks_app] at e2
  rw [e2, ByteArray.append_assoc]
  rfl
theorem chunks_next (l : List PcS) (k : Nat) (h : k < l.length) : chunks (l.take (k + 1)) = chunks (l.take k) ++ chunk l[k] := by
  rw [List.take_add_one, chunks_app]
  simp only [h, List.getElem?_eq_getElem, Option.toList_some]
  show _ ++ (chunk l[k] ++ ⟨#[]⟩) = _
  rw [empty_app]
end Go.Proofs.YtegbldkkggpjcaaGreatDoor
