/- Rows of bytes of the call's own; the contract of the program's own lay. -/
import Derived.Test.YtegbldkkggpjcaaGreatDoorNumPb
import Derived.Test.YtegbldkkggpjcaaGreatDoorNumUnrow
namespace Go.Proofs.YtegbldkkggpjcaaGreatDoor
open Go.RowKit Go.Sort

attribute [local go_sem ↓] Go.wp_at_zero Go.wp_at_succ

theorem infoByte : (Tryz.prog.info? 5).map (fun i => (i.zero, i.size, i.bytes)) = some (some (.int .u8 0), 1, 1) := by kernel_rfl
def byteV (b : UInt8) : Value := .int .u8 (b.toNat : Int)
/-- v is a slice of the call's own, from block base on, that holds the bytes l. -/
def OwnB (w : World) (base : Nat) (v : Value) (l : List UInt8) : Prop := w.ownsRow base 5 1 v l.length (l.map byteV)
theorem OwnB.later {w w' : World} {base : Nat} {v : Value} {l : List UInt8} (h : OwnB w base v l) (hb : RowKit.Below w.heap.size w w') : OwnB w' base v l := by
  have h0 := h
  refine ⟨h.1, ?_⟩
  rcases h.2 with q | ⟨g, cap, cur, rfl, hg, hc, r⟩
  · exact Or.inl q
  · exact Or.inr ⟨g, cap, cur, rfl, hg, (hb.block g (World.ownsRow.lt h0 g rfl).2).trans hc, r⟩
theorem OwnB.alloc {w : World} {base : Nat} {v : Value} {l : List UInt8} (h : OwnB w base v l) (o : Obj) : OwnB (w.alloc o) base v l := h.later ((Below.refl _ _).alloc (Nat.le_refl _) _)
theorem OwnB.form {w : World} {base : Nat} {v : Value} {l : List UInt8} (h : OwnB w base v l) (hl : 0 < l.length) : ∃ g cap, v = .slice (some ⟨g, 0, none⟩) l.length cap ∧ ∀ i, i < l.length → w.cell? ⟨g, i, none⟩ = some (byteV (l.getD i 0)) := by
  have h0 := h
  rcases h.2 with ⟨e, h1⟩ | ⟨g, cap, cur, rfl, hg, _, hc, _⟩
  · omega
  · refine ⟨g, cap, rfl, fun i hi => ?_⟩
    rw [World.ownsRow.cellAt h0 _ (by omega)]; simp [List.getD, hi]
theorem ownB_nil (w : World) (base : Nat) : OwnB w base (.slice none 0 0) [] := World.ownsRow_nil _ _ _ _
theorem fold_bytes : ∀ (l : List UInt8) (a : List UInt8), (l.map (fun b => (b.toNat : Int))).foldl (fun r n => r.push (UInt8.ofNat n.toNat)) (bs a) = bs (a ++ l) := by
  intro l
  induction l with
  | nil => intro a; simp
  | cons x t ih =>
    intro a
    rw [List.map_cons, List.foldl_cons]
    have : (bs a).push (UInt8.ofNat ((x.toNat : Int)).toNat) = bs (a ++ [x]) := by
      apply ByteArray.ext
      simp [bs, ByteArray.data_push]
    rw [this, ih (a ++ [x]), List.append_assoc]; rfl
/-- 'string(b)'. -/
theorem conv_own {w : World} {base : Nat} {v : Value} {l : List UInt8} (h : OwnB w base v l) (hl : 0 < l.length) : (convert 122 9 v).run Tryz.prog w = .ok (.string (bs l)) w := by
  obtain ⟨g, cap, rfl, hc⟩ := h.form hl
  rw [run_convert_bytes_string w _ _ _ _ _ _ Tryz.underlying122 Tryz.underlying5 Tryz.underlying9]
  rw [run_bytesToString w _ _ _ (l.map (fun b => (b.toNat : Int))) ?_]
  · have := fold_bytes l []
    rw [show bs [] = ByteArray.empty from rfl, List.nil_append] at this
    rw [this]
  · have := run_loadCells_list (P := Tryz.prog) (w := w) ⟨g, 0, none⟩ (l.map byteV) (fun j v hj => by
      have hlen := (List.getElem?_eq_some_iff.1 hj).1
      rw [List.length_map] at hlen
      rw [show (⟨g, 0, none⟩ : Addr).add j = ⟨g, j, none⟩ by unfold Addr.add; split <;> simp_all, hc j hlen, ← hj]
      simp [List.getD, hlen])
    rw [List.length_map] at this
    rw [this, List.map_map]; rfl
set_option maxRecDepth 20000 in
theorem run_append_own_byte (w : World) (t ty : TypeId) (ht : Tryz.prog.underlying t = some (.slice 5)) (base : Nat) (v : Value) (l1 : List UInt8) (hown : OwnB w base v l1) (g c : Nat) (d : Int) (hd : 0 ≤ d ∧ d < 256) (hr : w.cell? ⟨g, 0, none⟩ = some (.int .u8 d))
    (hm : l1.length ≤ 200000) (hbase : base ≤ w.heap.size) :
    ∃ v' w', (Builtin.append_ #[t, t] ty #[v, .slice (some ⟨g, 0, none⟩) 1 c]).run Tryz.prog w = .ok v' w' ∧ OwnB w' base v' (l1 ++ [UInt8.ofNat d.toNat]) ∧ w.grownBy w' v.ownBlock ∧ RowKit.Below base w w' := by
  obtain ⟨i0, hi, hz0, hz1, hz2⟩ := info_parts infoByte
  have hlo := World.ownsRow.lt hown
  have hbyte : byteV (UInt8.ofNat d.toNat) = .int .u8 d := by unfold byteV; rw [byte_of _ (by omega)]; congr 1; omega
  obtain ⟨v', w', hrun, r1, r2, _⟩ := run_append_own (P := Tryz.prog) w base t ty 5 i0 (.int .u8 0) 1 1 ht hi hz0 hz1 hz2 rfl (by decide) v l1.length (l1.map byteV) hown ⟨g, 0, none⟩ 1 c [.int .u8 d] rfl
    (fun j u hj => by
      cases j with
      | zero => simp only [List.getElem?_cons_zero, Option.some.injEq] at hj; subst hj; exact hr
      | succ j => simp at hj) (fun u hu => by simp only [List.mem_singleton] at hu; subst hu; rfl) (by unfold maxLen; omega) (by omega) hbase
  refine ⟨v', w', hrun, ?_, r2, (Below.refl base w).grown r2 hbase (fun k hk => (hlo k hk).1)⟩
  unfold OwnB
  rw [List.length_append, List.map_append, List.length_singleton, List.map_cons, List.map_nil, hbyte]
  exact r1
theorem wpList_append_byte {ops : Array Oper} {rest : List Oper} {o : Oper} {a : Act} {w : World} {Q : Exit → Act → World → Prop} (hgd : o.guard = none) (s x : Operand)
    (ho : o.op = .call { callee := .builtin .append, args := #[s, x], argTypes := #[122, 122] })
    (base : Nat) (v : Value) (l1 : List UInt8) (hs : a.eval s = v) (hown : OwnB w base v l1) (g c : Nat) (d : Int) (hx : a.eval x = .slice (some ⟨g, 0, none⟩) 1 c) (hd : 0 ≤ d ∧ d < 256) (hr : w.cell? ⟨g, 0, none⟩ = some (.int .u8 d))
    (hm : l1.length ≤ 200000) (hbase : base ≤ w.heap.size)
    (h : ∀ v' w', OwnB w' base v' (l1 ++ [UInt8.ofNat d.toNat]) → w.grownBy w' v.ownBlock → RowKit.Below base w w' → wpList Tryz.prog ops Q rest (a.put o.dst v') w') : wpList Tryz.prog ops Q (o :: rest) a w := by
  refine wpList_plain hgd fun K hK => ?_
  obtain ⟨v', w', hrun, h1, h2, h3⟩ := run_append_own_byte w 122 o.type Tryz.underlying122 base v l1 hown g c d hd hr hm hbase
  unfold Oper.wp execOp
  simp only [ho, resolve, invoke, builtin, Sem.run_bind, Sem.run_pure, Result.andThen_ok, List.map_toArray, List.map_cons, List.map_nil, hs, hx, hrun]
  exact hK _ _ (h v' w' h1 h2 h3)

theorem bed_at (n : Nat) : ∀ k, (hk : k < (bed n).length) → (bed n)[k] = UInt8.ofNat (n / 256 ^ ((bed n).length - 1 - k) % 256) := by
  induction n using Nat.strongRecOn with
  | ind n ih =>
    intro k hk
    by_cases h0 : n = 0
    · subst h0; simp only [bed_zero, List.length_nil] at hk; omega
    · have hb := bed_step n (by omega)
      have hl : (bed n).length = (bed (n / 256)).length + 1 := by rw [hb, List.length_append, List.length_singleton]
      rw [hl] at hk ⊢
      simp only [hb]
      by_cases q : k < (bed (n / 256)).length
      · rw [List.getElem_append_left q, ih (n / 256) (by omega) k q, Nat.div_div_eq_div_mul, show (bed (n / 256)).length + 1 - 1 - k = ((bed (n / 256)).length - 1 - k) + 1 by omega, Nat.pow_succ, Nat.mul_comm 256]
      · obtain rfl : k = (bed (n / 256)).length := by omega
        rw [List.getElem_append_right (Nat.le_refl _)]
        simp
theorem lay_small (n : Nat) (h : n < 128) (base : Nat) (v : Value) (l : List UInt8) (w : World) (hown : OwnB w base v l) (hl : l.length ≤ 100000) (hbase : base ≤ w.heap.size) :
    Calls Tryz.prog 70 #[v, .int .i64 n] w fun e w' => ∃ v', e = .returned v' ∧ OwnB w' base v' (l ++ putL n) ∧ RowKit.Below base w w' := by
  have HF := Lib.hid (fun W' => follow_any n (by omega) W')
  rw [moreN_small h] at HF
  have HO := Lib.hid hown
  have i1 : (0 : Int) ≤ (n : Int) := by omega
  have i2 : (n : Int) < 256 := by omega
  have HP := Lib.hid (putL_small h)
  have HB := Lib.hid hbase
  clear h hown hbase
  go_enter Tryz.func70, Tryz.ntmps70
  go_wp2_with (first
    | (go_at_call 86; (with_reducible refine (HF.out _).mono ?_); rintro e w1 ⟨rfl, hw⟩; obtain rfl := hw.symm)
    | (at_builtin; refine wpList_append_byte rfl _ _ rfl base _ l rfl ?c0 _ 1 (n : Int) rfl ⟨i1, i2⟩ ?c1 ?c2 ?c3 ?_))
  case c0 => exact HO.out.alloc _
  case c1 => simp
  case c2 => omega
  case c3 => exact Nat.le_trans HB.out (by simp)
  intro v7 w7 ho7 _ hb7
  go_wp2
  go_ret
  refine ⟨v7, rfl, ?_, ((Below.refl _ _).alloc HB.out _).trans hb7⟩
  rw [HP.out]; exact ho7

theorem shr_byte (n i : Nat) : (n : Int) / 2 ^ (8 * i) % 256 = ((n / 256 ^ i % 256 : Nat) : Int) := by
  have e : (2 : Int) ^ (8 * i) = ((256 ^ i : Nat) : Int) := by
    rw [show (2 : Int) = ((2 : Nat) : Int) from rfl, ← Int.natCast_pow, Nat.pow_mul]
  rw [e, ← Int.natCast_ediv]
  exact (Int.natCast_emod _ _).symm
theorem bed_take (n k : Nat) (hk : k < (bed n).length) : (bed n).take (k + 1) = (bed n).take k ++ [UInt8.ofNat (n / 256 ^ ((bed n).length - 1 - k) % 256)] := by
  rw [List.take_succ_eq_append_getElem hk, bed_at n k hk]
set_option maxRecDepth 20000 in
set_option maxHeartbeats 1600000 in
theorem lay_great (n : Nat) (h : ¬ n < 128) (hn : n < 9223372036854775808) (base : Nat) (v : Value) (l : List UInt8) (w : World) (hown : OwnB w base v l) (hl : l.length ≤ 100000) (hbase : base ≤ w.heap.size) :
    Calls Tryz.prog 70 #[v, .int .i64 n] w fun e w' => ∃ v', e = .returned v' ∧ OwnB w' base v' (l ++ putL n) ∧ RowKit.Below base w w' := by
  have HF := Lib.hid (fun W' => follow_any n hn W')
  rw [moreN_great h] at HF
  have HO := Lib.hid hown
  have HP := Lib.hid (putL_great h)
  have HB := Lib.hid hbase
  have hL8 := bed_len 8 n (by omega)
  have hL1 := bed_pos (show 0 < n by omega)
  have HAT := Lib.hid (fun k => bed_take n k)
  generalize hbn : bed n = B at *
  obtain ⟨L, hL⟩ : ∃ L, L = B.length := ⟨_, rfl⟩
  rw [← hL] at HF HP HAT hL8 hL1
  have HL := Lib.hid hL
  have HN := Lib.hid hn
  have e0 : ((L : Int) == 0) = false := by simp; omega
  have i1 : (0 : Int) < (L : Int) := by omega
  have i2 : (L : Int) ≤ 8 := by omega
  clear h hown hbase hL hbn hn
  go_enter Tryz.func70, Tryz.ntmps70
  go_wp2_with (first
    | (go_at_call 86; (with_reducible refine (HF.out _).mono ?_); rintro e w1 ⟨rfl, hw⟩; obtain rfl := hw.symm)
    | (at_builtin; refine wpList_append_byte rfl _ _ rfl base _ l rfl ?c0 _ 1 (128 + (L : Int)) rfl ⟨by omega, by omega⟩ ?c1 ?c2 ?c3 ?_))
  case c0 => exact HO.out.alloc _
  case c1 => simp
  case c2 => omega
  case c3 => exact Nat.le_trans HB.out (by simp)
  intro v7 w7 ho7 _ hb7
  have HB7 := Lib.hid (((Below.refl _ _).alloc HB.out _).trans hb7)
  have HO7 := Lib.hid ho7
  clear ho7 hb7
  go_wp2
  go_loopg [0, 6] L (fun gg b i wr => ∃ k : Nat, k + gg = L ∧ i = .int .i64 ((L : Int) - 1 - (k : Int)) ∧ Hid (OwnB wr base b (l ++ [UInt8.ofNat (128 + (L : Int)).toNat] ++ B.take k)) ∧ Hid (RowKit.Below base w1 wr))
  case atStart => exact ⟨0, by omega, by go_num, Lib.hid (by rw [List.take_zero, List.append_nil]; exact HO7.out), HB7⟩
  case round =>
    obtain ⟨k, hk, rfl, HOk, HBk⟩ := hrel
    by_cases hlt : k < L
    · obtain ⟨ii, hii⟩ : ∃ ii : Nat, ii = L - 1 - k := ⟨_, rfl⟩
      have HT := Lib.hid (HAT.out k hlt)
      rw [← hii] at HT
      simp only [show (L : Int) - 1 - (k : Int) = (ii : Int) by omega]
      have HSB := Lib.hid (shr_byte n ii)
      have u1 : (0 : Int) ≤ (ii : Int) := by omega
      have u2 : (ii : Int) ≤ 7 := by omega
      have HII := Lib.hid hii
      have HLT := Lib.hid hlt
      clear hii hlt
      have hd : 0 ≤ (n : Int) / 2 ^ (8 * ii) % 256 ∧ (n : Int) / 2 ^ (8 * ii) % 256 < 256 := ⟨Int.emod_nonneg _ (by decide), Int.emod_lt_of_pos _ (by decide)⟩
      go_wp2_with (at_builtin; refine wpList_append_byte rfl _ _ rfl base _ (l ++ [UInt8.ofNat (128 + (L : Int)).toNat] ++ B.take k) rfl ?d0 _ 1 ((n : Int) / 2 ^ (8 * ii) % 256) rfl hd ?d1 ?d2 ?d3 ?_)
      case d0 => exact HOk.out.alloc _
      case d1 => simp
      case d2 => rw [List.length_append, List.length_append, List.length_singleton, List.length_take]; have : min k B.length ≤ k := Nat.min_le_left _ _; have := HLT.out; omega
      case d3 => exact Nat.le_trans (Nat.le_trans HB.out HBk.out.size) (by simp)
      intro v8 w8 ho8 _ hb8
      have HB8 := Lib.hid ((HBk.out.alloc (Nat.le_trans HB.out HBk.out.size) _).trans hb8)
      have HO8 := Lib.hid ho8
      clear ho8 hb8 hd
      go_wp2
      go_roundg (gk - 1)
      case measure => have := HLT.out; omega
      case rel =>
        refine ⟨k + 1, by have := HLT.out; omega, ?_, Lib.hid ?_, HB8⟩
        · have h1 := HII.out
          have h2 := HLT.out
          go_num
        · rw [HT.out, ← List.append_assoc]
          have := HO8.out
          rw [HSB.out, Int.toNat_natCast] at this
          rw [show l ++ [UInt8.ofNat (128 + (L : Int)).toNat] ++ B.take k ++ [UInt8.ofNat (n / 256 ^ ii % 256)] = l ++ UInt8.ofNat (128 + (L : Int)).toNat :: (B.take k ++ [UInt8.ofNat (n / 256 ^ ii % 256)]) by simp]
          exact this
    · obtain rfl : k = L := by omega
      have HTK := Lib.hid (show B.take k = B from List.take_of_length_le (by rw [← HL.out]; exact Nat.le_refl _))
      have e9 : decide ((k : Int) - 1 - (k : Int) ≥ 0) = false := decide_eq_false (by omega)
      clear hlt
      go_wp2
      go_ret
      refine ⟨_, rfl, ?_, HBk.out⟩
      have := HOk.out
      rw [HTK.out, List.append_assoc] at this
      rw [HP.out]
      rw [show (128 + (k : Int)).toNat = 128 + k by omega] at this
      exact this
theorem lay_any (n : Nat) (hn : n < 9223372036854775808) (base : Nat) (v : Value) (l : List UInt8) (w : World) (hown : OwnB w base v l) (hl : l.length ≤ 100000) (hbase : base ≤ w.heap.size) :
    Calls Tryz.prog 70 #[v, .int .i64 n] w fun e w' => ∃ v', e = .returned v' ∧ OwnB w' base v' (l ++ putL n) ∧ RowKit.Below base w w' := by
  by_cases h : n < 128
  · exact lay_small n h base v l w hown hl hbase
  · exact lay_great n h hn base v l w hown hl hbase
end Go.Proofs.YtegbldkkggpjcaaGreatDoor
