/- What the document's writer lays and the document's reader reads. Pure. -/
import Derived.Test.YtegbldkkggpjcaaDoorTxtNums
import Derived.Test.YtegbldkkggpjcaaDoorTxtText
namespace Go.Proofs.YtegbldkkggpjcaaDoor
open Go.RowKit Go.Sort

theorem mid_drop (a : ByteArray) (p : List UInt8) (b : ByteArray) : (a ++ bs p ++ b).data.toList.drop a.size = p ++ b.data.toList := by
  have e : (a ++ bs p ++ b).data.toList = a.data.toList ++ (p ++ b.data.toList) := by simp [ByteArray.data_append, bs]
  rw [e, ← list_len, List.drop_left]
theorem mid_size (a : ByteArray) (p : List UInt8) (b : ByteArray) : (a ++ bs p ++ b).size = a.size + p.length + b.size := by
  rw [ByteArray.size_append, ByteArray.size_append, bs_size]
theorem back_get (a : ByteArray) (x : Int) (b : ByteArray) (h : 0 ≤ x) (hm : x ≤ 9223372036854775807) : getZ (a ++ bs (putZ x) ++ b) a.size = (x, (a.size : Int) + ((putZ x).length : Nat), 0) := by
  have e : putZ x = putL x.toNat := by unfold putZ; rw [if_neg (by omega)]
  rw [e]
  have hp := parse_put x.toNat (by omega) b.data.toList
  rw [← mid_drop a (putL x.toNat) b] at hp
  have := getZ_ok (by rw [mid_size]; omega) hp
  rw [this, show ((x.toNat : Nat) : Int) = x by omega]
theorem flat_nats : ∀ (l : List Int), (∀ x ∈ l, 0 ≤ x) → l.flatMap putZ = (l.map Int.toNat).flatMap putL := by
  intro l
  induction l with
  | nil => intro _; rfl
  | cons x t ih =>
    intro h
    have hx := h x (by simp)
    rw [List.flatMap_cons, List.map_cons, List.flatMap_cons, ih fun y hy => h y (by simp [hy])]
    congr 1
    unfold putZ; rw [if_neg (by omega)]
theorem okL_nats {l : List Int} (h : okL l = true) : l.flatMap putZ = (l.map Int.toNat).flatMap putL ∧ (l.map Int.toNat).map Int.ofNat = l := by
  have h' := List.all_eq_true.1 h
  constructor
  · exact flat_nats l fun x hx => by have := h' x hx; simpa using this
  · rw [List.map_map]
    conv => rhs; rw [← List.map_id l]
    refine List.map_congr_left fun x hx => ?_
    have := h' x hx
    simp at this
    show ((x.toNat : Nat) : Int) = x
    omega
theorem back_unrow (a : ByteArray) (l : List Int) (b : ByteArray) (h : okL l = true) (hl : l.length ≤ 1000) (hm : ∀ x ∈ l, x ≤ 9223372036854775807) : unrowZ (a ++ bs (rowP l) ++ b) a.size l.length = (l, (a.size : Int) + ((rowP l).length : Nat), 0) := by
  obtain ⟨e1, e2⟩ := okL_nats h
  have hp := parse_put l.length (by omega) (l.flatMap putZ ++ b.data.toList)
  rw [← List.append_assoc, show putL l.length ++ l.flatMap putZ = rowP l from rfl, ← mid_drop a (rowP l) b] at hp
  have hg := getZ_ok (s := a ++ bs (rowP l) ++ b) (a := a.size) (by rw [mid_size]; omega) hp
  have hd : (a ++ bs (rowP l) ++ b).data.toList.drop (a.size + (putL l.length).length) = (l.map Int.toNat).flatMap putL ++ b.data.toList := by
    rw [← List.drop_drop, mid_drop, show rowP l = putL l.length ++ l.flatMap putZ from rfl, List.append_assoc, List.drop_left, e1]
  have hi := items_put (l.map Int.toNat) b.data.toList (fun x hx => by
    obtain ⟨y, hy, rfl⟩ := List.mem_map.1 hx
    have := hm y hy; omega)
  rw [List.length_map] at hi
  unfold unrowZ
  rw [hg]
  simp only
  rw [if_neg (by simp), if_neg (by omega), Int.toNat_natCast, show ((a.size : Int) + ((putL l.length).length : Nat)).toNat = a.size + (putL l.length).length by omega, hd, hi]
  simp only
  rw [if_pos trivial, e2, ← e1]
  simp only [Prod.mk.injEq, true_and, and_true]
  rw [show rowP l = putL l.length ++ l.flatMap putZ from rfl, List.length_append]
  omega
theorem cut_bs (s : ByteArray) (m u : Nat) (_h : m + u ≤ s.size) : (s.extract m (m + u)) = bs ((s.data.toList.drop m).take u) := by
  apply ByteArray.ext
  simp only [bs, ByteArray.data_extract]
  apply Array.toList_inj.1
  simp [List.take_drop, List.extract]
theorem least_get {s : ByteArray} {a : Int} (h : (getZ s a).2.2 = 0) : ∃ m x u : Nat, a = m ∧ getZ s a = ((x : Int), (m : Int) + u, 0) ∧ m + u ≤ s.size ∧ 0 < u ∧ x < 9223372036854775808 ∧ s.extract m (m + u) = bs (putL x) := by
  obtain ⟨m, n, u, rfl, hm, hp, hg, hmu⟩ := getZ_zero h
  obtain ⟨h1, h2, h3, h4⟩ := parse_least hp
  exact ⟨m, n, u, rfl, hg, hmu, h3, h4, by rw [cut_bs s m u hmu, h1]⟩
theorem least_unrow {s : ByteArray} {a most : Int} (h : (unrowZ s a most).2.2 = 0) : ∃ (m u : Nat) (l : List Int), a = m ∧ unrowZ s a most = (l, (m : Int) + u, 0) ∧ m + u ≤ s.size ∧ 0 < u ∧ okL l = true ∧ (∀ x ∈ l, x ≤ 9223372036854775807) ∧ s.extract m (m + u) = bs (rowP l) := by
  by_cases q0 : (getZ s a).2.2 = 0
  · obtain ⟨m, n, u, rfl, hm, hp, hg, hmu⟩ := getZ_zero q0
    obtain ⟨h1, h2, h3, h4⟩ := parse_least hp
    unfold unrowZ at h ⊢
    rw [hg] at h ⊢
    simp only at h ⊢
    rw [if_neg (by simp)] at h ⊢
    by_cases q1 : 1000 < (n : Int) ∨ (most < (n : Int) ∧ 0 < (n : Int))
    · rw [if_pos q1] at h; simp at h
    rw [if_neg q1] at h ⊢
    rw [Int.toNat_natCast, show ((m : Int) + (u : Nat)).toNat = m + u by omega] at h ⊢
    obtain ⟨⟨l, c, e⟩, hi⟩ : ∃ r, items n (s.data.toList.drop (m + u)) = r := ⟨_, rfl⟩
    rw [hi] at h ⊢
    simp only at h ⊢
    by_cases q2 : e = 0
    · subst q2
      rw [if_pos rfl]
      obtain ⟨a1, a2, a3, a4⟩ := items_least n hi
      rw [List.length_drop, list_len] at a3
      have hmap : (l.map Int.ofNat).flatMap putZ = l.flatMap putL := by
        rw [flat_nats _ (fun x hx => by obtain ⟨y, _, rfl⟩ := List.mem_map.1 hx; exact Int.natCast_nonneg y), List.map_map]
        congr 1
        conv => rhs; rw [← List.map_id l]
        exact List.map_congr_left fun x _ => rfl
      refine ⟨m, u + c, l.map Int.ofNat, rfl, by simp only [Prod.mk.injEq, true_and, and_true]; omega, by omega, by omega, ?_, fun x hx => ?_, ?_⟩
      · exact List.all_eq_true.2 fun x hx => by obtain ⟨y, _, rfl⟩ := List.mem_map.1 hx; simp
      · obtain ⟨y, hy, rfl⟩ := List.mem_map.1 hx
        have := a4 y hy
        show ((y : Nat) : Int) ≤ _
        omega
      · rw [cut_bs s m (u + c) (by omega), show rowP (l.map Int.ofNat) = putL (l.map Int.ofNat).length ++ (l.map Int.ofNat).flatMap putZ from rfl, List.length_map, a1, hmap, List.take_add, h1, List.drop_drop, a2]
    · rw [if_neg q2] at h
      simp only at h
      omega
  · unfold unrowZ at h
    rw [if_pos q0] at h
    exact absurd h q0

end Go.Proofs.YtegbldkkggpjcaaDoor
