import Derived.Test.YtdgmokelmocejabDoorRef
namespace Go.Proofs.YtdgmokelmocejabDoor
open Go.RowKit

/-- The number whose bits are the list's numbers. -/
def setOf : List Nat → Nat
  | [] => 0
  | e :: l => 2 ^ e + setOf l

theorem setOf_append (l m : List Nat) : setOf (l ++ m) = setOf l + setOf m := by
  induction l with
  | nil => simp [setOf]
  | cons a l ih => simp [setOf, ih]; omega

theorem setOf_bound (l : List Nat) (c m : Nat) (hs : l.Pairwise (· < ·)) (hc : ∀ e ∈ l, c ≤ e) (hm : ∀ e ∈ l, e < m) (hcm : c ≤ m) : setOf l + 2 ^ c ≤ 2 ^ m := by
  induction l generalizing c with
  | nil => simp [setOf]; exact Nat.pow_le_pow_right (by decide) hcm
  | cons a t ih =>
    obtain ⟨h1, h2⟩ := List.pairwise_cons.1 hs
    have ha := hc a (by simp)
    have hb := hm a (by simp)
    have := ih (a + 1) h2 (fun e he => h1 e he) (fun e he => hm e (by simp [he])) hb
    have hp : 2 ^ c ≤ 2 ^ a := Nat.pow_le_pow_right (by decide) ha
    rw [Nat.pow_succ] at this
    simp only [setOf]
    omega

theorem setOf_lt (l : List Nat) (m : Nat) (hs : l.Pairwise (· < ·)) (hm : ∀ e ∈ l, e < m) : setOf l < 2 ^ m := by
  have := setOf_bound l 0 m hs (fun _ _ => Nat.zero_le _) hm (Nat.zero_le _)
  simp at this
  omega

theorem setOf_elems (n X : Nat) : setOf (elems n X) = X % 2 ^ n := by
  induction n with
  | zero => simp [elems, setOf, Nat.mod_one]
  | succ n ih =>
    have e : elems (n + 1) X = elems n X ++ if X.testBit n then [n] else [] := by
      unfold elems
      rw [List.range_succ, List.filter_append]
      congr 1
      by_cases h : X.testBit n = true <;> simp [h]
    rw [e, setOf_append, ih, Nat.mod_pow_succ]
    have hb : X.testBit n = decide (X / 2 ^ n % 2 = 1) := Nat.testBit_eq_decide_div_mod_eq
    rcases Nat.mod_two_eq_zero_or_one (X / 2 ^ n) with h | h
    · rw [hb, h]; simp [setOf]
    · rw [hb, h]; simp [setOf]

theorem byte_add (Y e j : Nat) (hY : Y < 2 ^ e) : (Y + 2 ^ e) / 2 ^ (8 * j) % 256 = Y / 2 ^ (8 * j) % 256 + (if j = e / 8 then 2 ^ (e % 8) else 0) ∧ (j = e / 8 → Y / 2 ^ (8 * j) % 256 + 2 ^ (e % 8) < 256) := by
  have hp := Nat.two_pow_pos (8 * j)
  by_cases h1 : 8 * j ≤ e
  · have e1 : 2 ^ e = 2 ^ (e - 8 * j) * 2 ^ (8 * j) := by rw [← Nat.pow_add]; congr 1; omega
    have e2 : (Y + 2 ^ e) / 2 ^ (8 * j) = Y / 2 ^ (8 * j) + 2 ^ (e - 8 * j) := by
      rw [e1, Nat.add_mul_div_right _ _ hp]
    have hlt : Y / 2 ^ (8 * j) < 2 ^ (e - 8 * j) := by
      rw [Nat.div_lt_iff_lt_mul hp, ← e1]; exact hY
    rw [e2]
    by_cases h2 : j = e / 8
    · have e3 : e - 8 * j = e % 8 := by omega
      rw [e3] at hlt ⊢
      have h8 : (2:Nat) ^ (e % 8) ≤ 2 ^ 7 := Nat.pow_le_pow_right (by decide) (by omega)
      rw [if_pos h2]
      generalize (2:Nat) ^ (e % 8) = z at *
      generalize Y / 2 ^ (8 * j) = y at *
      constructor
      · omega
      · intro _; omega
    · rw [if_neg h2]
      have e4 : (2:Nat) ^ (e - 8 * j) = 2 ^ (e - 8 * j - 8) * 256 := by
        rw [show (256 : Nat) = 2 ^ 8 from rfl, ← Nat.pow_add]; congr 1; omega
      rw [e4]
      exact ⟨by omega, fun h => absurd h h2⟩
  · have h2 : j ≠ e / 8 := by omega
    rw [if_neg h2]
    have hle : 2 ^ (e + 1) ≤ 2 ^ (8 * j) := Nat.pow_le_pow_right (by decide) (by omega)
    rw [Nat.pow_succ] at hle
    rw [Nat.div_eq_of_lt (show Y + 2 ^ e < 2 ^ (8 * j) by omega), Nat.div_eq_of_lt (show Y < 2 ^ (8 * j) by omega)]
    exact ⟨rfl, fun h => absurd h h2⟩

/-- What the reference's Key holds in its loop: the bytes so far, its own copy of the set, all below as it was. -/
def RK (w : World) (n : Nat) (a1 : Option Addr) (l : List Nat) (c1 Y : Nat) (wr : World) : Prop :=
  wr.ownsRow (w.heap.size + 1) 5 1 (.slice (some ⟨w.heap.size + 1, 0, none⟩) (2 + (n + 7) / 8) (2 + (n + 7) / 8)) (2 + (n + 7) / 8) (u8V (keyPre n Y ((n + 7) / 8))) ∧
  wr.heap[w.heap.size]? = some (.cells #[.int .i64 n, .slice a1 l.length c1] 42 (0, 0)) ∧ Below w.heap.size w wr

theorem rk_start (n : Nat) (w1 : World) (G Bx : Nat) (a1 : Option Addr) (l : List Nat) (c1 : Nat) (hn : n ≤ 8192) (hG : Bx < G)
    (hown : w1.ownsRow G 5 1 (.slice (some ⟨G, 0, none⟩) (2 + (n + 7) / 8) (2 + (n + 7) / 8)) (2 + (n + 7) / 8) (List.replicate (2 + (n + 7) / 8) (.int .u8 0)))
    (hbox : w1.heap[Bx]? = some (.cells #[.int .i64 n, .slice a1 l.length c1] 42 (0, 0))) :
    ((w1.setCell ⟨G, 0, none⟩ (.int .u8 ((n : Int) / 256))).setCell ⟨G, 1, none⟩ (.int .u8 ((n : Int) % 256))).ownsRow G 5 1 (.slice (some ⟨G, 0, none⟩) (2 + (n + 7) / 8) (2 + (n + 7) / 8)) (2 + (n + 7) / 8) (u8V (keyPre n 0 ((n + 7) / 8))) ∧
    ((w1.setCell ⟨G, 0, none⟩ (.int .u8 ((n : Int) / 256))).setCell ⟨G, 1, none⟩ (.int .u8 ((n : Int) % 256))).heap[Bx]? = some (.cells #[.int .i64 n, .slice a1 l.length c1] 42 (0, 0)) := by
  constructor
  · have h1 := ((hown.stored 0 (.int .u8 ((n : Int) / 256))).1.stored 1 (.int .u8 ((n : Int) % 256))).1
    have e : ((List.replicate (2 + (n + 7) / 8) (Value.int .u8 0)).set 0 (.int .u8 ((n : Int) / 256))).set 1 (.int .u8 ((n : Int) % 256)) = u8V (keyPre n 0 ((n + 7) / 8)) := by
      have e1 : List.replicate (2 + (n + 7) / 8) (Value.int .u8 0) = .int .u8 0 :: .int .u8 0 :: List.replicate ((n + 7) / 8) (.int .u8 0) := by
        rw [Nat.add_comm 2, List.replicate_succ, List.replicate_succ]
      rw [e1]
      have e2 : (n : Int) / 256 = (((UInt8.ofNat (n / 256)).toNat : Nat) : Int) := by rw [UInt8.toNat_ofNat']; omega
      have e3 : (n : Int) % 256 = (((UInt8.ofNat n).toNat : Nat) : Int) := by rw [UInt8.toNat_ofNat']; omega
      simp only [List.set_cons_zero, List.set_cons_succ, u8V, keyPre, List.map_cons, e2, e3]
      congr 2
      apply List.ext_getElem?
      intro i
      by_cases h : i < (n + 7) / 8 <;> simp [h]
    rwa [e] at h1
  · rw [heap_setCell_other _ _ _ _ (by simp; omega), heap_setCell_other _ _ _ _ (by simp; omega)]; exact hbox

theorem take_lt (l : List Nat) (k e : Nat) (hs : l.Pairwise (· < ·)) (hk : k < l.length) (he : e ∈ l.take k) : e < l.getD k 0 := by
  obtain ⟨j, hj, rfl⟩ := List.mem_iff_getElem.1 he
  simp only [List.length_take] at hj
  have := List.pairwise_iff_getElem.1 hs j k (by omega) hk (by omega)
  simpa [List.getD, hk] using this

theorem rk_get (n Y j : Nat) (hj : j < (n + 7) / 8) : (u8V (keyPre n Y ((n + 7) / 8)))[2 + j]? = some (.int .u8 ((Y / 2 ^ (8 * j) % 256 : Nat) : Int)) := by
  have e : 2 + j = j + 1 + 1 := by omega
  rw [e, u8V, keyPre, List.map_cons, List.map_cons, List.getElem?_cons_succ, List.getElem?_cons_succ]
  simp [hj]

theorem rk_step (n Y e y : Nat) (hY : Y < 2 ^ e) (he : e < n) (hy : Y / 2 ^ (8 * (e / 8)) % 256 = y) : (u8V (keyPre n Y ((n + 7) / 8))).set (2 + e / 8) (.int .u8 ((y : Int) + ((2 ^ (e % 8) : Nat) : Int))) = u8V (keyPre n (Y + 2 ^ e) ((n + 7) / 8)) := by
  have hlen : ∀ Z, (u8V (keyPre n Z ((n + 7) / 8))).length = 2 + (n + 7) / 8 := fun Z => by rw [u8V, List.length_map, keyPre_length]
  apply List.ext_getElem?
  intro i
  rw [List.getElem?_set]
  by_cases h1 : 2 + e / 8 = i
  · subst h1
    rw [if_pos rfl, if_pos (by rw [hlen]; omega), rk_get _ _ _ (by omega), (byte_add Y e (e / 8) hY).1, if_pos rfl, hy]
    simp
  · rw [if_neg h1]
    by_cases h2 : i < 2
    · match i, h2 with
      | 0, _ => simp [u8V, keyPre]
      | 1, _ => simp [u8V, keyPre]
    · obtain ⟨j, rfl⟩ : ∃ j, i = 2 + j := ⟨i - 2, by omega⟩
      by_cases h3 : j < (n + 7) / 8
      · rw [rk_get _ _ _ h3, rk_get _ _ _ h3, (byte_add Y e j hY).1, if_neg (by omega)]
        simp
      · rw [List.getElem?_eq_none (by rw [hlen]; omega), List.getElem?_eq_none (by rw [hlen]; omega)]

theorem conv_key2 (n X : Nat) (w : World) (gk base : Nat) (h : w.ownsRow base 5 1 (.slice (some ⟨gk, 0, none⟩) (2 + (n + 7) / 8) (2 + (n + 7) / 8)) (2 + (n + 7) / 8) (u8V (keyPre n X ((n + 7) / 8)))) :
    (convert 63 9 (.slice (some ⟨gk, 0, none⟩) (2 + (n + 7) / 8) (2 + (n + 7) / 8))).run Tryd.prog w = .ok (.string ⟨(keyPre n X ((n + 7) / 8)).toArray⟩) w := conv_key w gk _ _ n X base h

set_option maxRecDepth 100000 in
set_option maxHeartbeats 1000000 in
theorem rkey_any (a1 : Option Addr) (c1 n : Nat) (l : List Nat) (w : World) (r1 : Reads w a1 l) (hn : n ≤ 8192) (hlen : l.length ≤ 100000) (hs : l.Pairwise (· < ·)) (hm : ∀ e ∈ l, e < n) :
    Calls Tryd.prog 56 #[.agg #[.int .i64 n, .slice a1 l.length c1]] w fun e w' => e = .returned (.string ⟨(keyPre n (setOf l) ((n + 7) / 8)).toArray⟩) ∧ Below w.heap.size w w' := by
  obtain ⟨i0, hi, hz0, hz1, hz2⟩ := info_parts info5
  go_enter Tryd.func56, Tryd.ntmps56
  go_wp2_with (at_make; refine wpList_make_full _ rfl _ _ 63 rfl (w.heap.size + 1) 5 i0 (.int .u8 0) 1 Tryd.underlying63 hi hz0 hz1 _ _ _ _ (2 + (n + 7) / 8) rfl rfl ?_ ?_ ?_ ?_ ?_ ?_)
  · omega
  · omega
  · rw [hz2]; omega
  · unfold maxLen; omega
  · simp
  · intro w1 hown hgrow
    rw [toList_madeCells_one] at hown
    have hbox : w1.heap[w.heap.size]? = some (.cells #[.int .i64 n, .slice a1 l.length c1] 42 (0, 0)) := by
      rw [hgrow.block _ (by simp) (by simp)]; exact heap_alloc_new _ _
    have q0 : w1.cell? ⟨w.heap.size, 0, none⟩ = some (.int .i64 n) := by rw [cell_of_row w1 _ 0 _ 42 (0, 0) hbox]; rfl
    have f0 : w1.cell? ⟨w.heap.size + 1, 0, none⟩ = some (.int .u8 0) := by rw [hown.cellAt 0 (by omega), List.getElem?_replicate, if_pos (by omega)]
    have f1 : w1.cell? ⟨w.heap.size + 1, 1, none⟩ = some (.int .u8 0) := by rw [hown.cellAt 1 (by omega), List.getElem?_replicate, if_pos (by omega)]
    have z0 : w1.frozen? ⟨w.heap.size + 1, 0, none⟩ = false := hown.frozenAt 0
    have z1 : w1.frozen? ⟨w.heap.size + 1, 1, none⟩ = false := hown.frozenAt 1
    have hb1 : Below w.heap.size w w1 := ((Below.refl _ _).alloc (Nat.le_refl _) _).grown hgrow (by simp) (by intro k hk; cases hk)
    go_wp2
    have hstart := rk_start n w1 (w.heap.size + 1) w.heap.size a1 l c1 hn (by omega) hown hbox
    go_loopw [4] (fun i wr => ∃ k : Nat, k ≤ l.length ∧ i = .int .i64 k ∧ RK w n a1 l c1 (setOf (l.take k)) wr) (fun i _ => l.length - (intOf i).toNat)
    case atStart => exact ⟨0, Nat.zero_le _, rfl, hstart.1, hstart.2, (hb1.setCell (by simp) _).setCell (by simp) _⟩
    case round =>
      obtain ⟨k, hk, rfl, hrow, hbox2, hbr⟩ := hrel
      clear hstart q0 f0 f1 z0 z1 hb1 hbox hown hgrow
      have qL : wr.cell? ⟨w.heap.size, 1, none⟩ = some (.slice a1 l.length c1) := by rw [cell_of_row wr _ 1 _ 42 (0, 0) hbox2]; rfl
      by_cases hlt : k < l.length
      · obtain ⟨ga, rfl, hc1⟩ := r1 k hlt
        have hga := World.block_lt_of_cell? w _ hc1
        simp only at hga
        obtain ⟨e, he⟩ : ∃ e : Nat, l.getD k 0 = e := ⟨_, rfl⟩
        rw [he] at hc1
        have hc2 : wr.cell? ⟨ga, k, none⟩ = some (.int .i64 e) := (hbr.cell (p := ⟨ga, k, none⟩) hga).trans hc1
        have hmem : e ∈ l := by rw [← he]; simp [List.getD, hlt]
        have hen := hm e hmem
        have hYlt : setOf (l.take k) < 2 ^ e := setOf_lt _ _ (hs.sublist (List.take_sublist _ _)) (fun e' he' => by rw [← he]; exact take_lt l k e' hs hlt he')
        have hT : Hid (l.take (k + 1) = l.take k ++ [e]) := by
          rw [← he]; show _ = _
          rw [List.take_succ_eq_append_getElem hlt]; simp [List.getD, hlt]
        have hbyte := byte_add (setOf (l.take k)) e (e / 8) hYlt
        obtain ⟨y, hy⟩ : ∃ y : Nat, (setOf (l.take k)) / 2 ^ (8 * (e / 8)) % 256 = y := ⟨_, rfl⟩
        rw [hy] at hbyte
        have hby := hbyte.2 rfl
        have fy : wr.cell? ⟨w.heap.size + 1, 2 + e / 8, none⟩ = some (.int .u8 y) := by
          rw [hrow.cellAt _ (by omega), ← hy]; exact rk_get n _ (e / 8) (by omega)
        have zy : wr.frozen? ⟨w.heap.size + 1, 2 + e / 8, none⟩ = false := hrow.frozenAt _
        have HY := hide (And.intro hYlt hy)
        clear hbyte hy hYlt hc1 r1 he
        have hz1' : 1 ≤ (2:Nat) ^ (e % 8) := Nat.two_pow_pos _
        go_wp2
        go_loop [6, 7] (fun v jj => ∃ j : Nat, j ≤ e % 8 ∧ jj = .int .i64 j ∧ v = .int .i64 ((2 ^ j : Nat) : Int)) (fun _ jj => e % 8 - (intOf jj).toNat)
        case atStart => exact ⟨0, Nat.zero_le _, rfl, rfl⟩
        case round =>
          obtain ⟨j, hj, rfl, rfl⟩ := hrel
          by_cases hj2 : j < e % 8
          · have hp : (2:Nat) ^ j ≤ 128 := Nat.le_trans (Nat.pow_le_pow_right (n := 2) (by decide) (show j ≤ 7 by omega)) (by decide)
            have HP : Hid (2 ^ (j + 1) = 2 * 2 ^ j) := by show _ = _; rw [Nat.pow_succ]; omega
            generalize (2:Nat) ^ j = z at *
            go_wp2
            go_round
            case rel => exact ⟨j + 1, by omega, by go_num, by rw [HP.out]; go_num⟩
            case measure => simp [intOf]; omega
          · have hje : j = e % 8 := by omega
            subst hje
            generalize hzz : (2:Nat) ^ (e % 8) = z at *
            have HZ := hide hzz
            clear hzz
            go_wp2
            go_roundw
            case rel =>
              refine ⟨k + 1, by omega, by go_num, ?_, ?_, hbr.setCell (by simp) _⟩
              · have hst := (hrow.stored (2 + e / 8) (.int .u8 ((y : Int) + (z : Int)))).1
                have hs2 := rk_step n _ e y HY.out.1 hen HY.out.2
                rw [HZ.out] at hs2
                rw [hs2] at hst
                have e1 : setOf (l.take (k + 1)) = setOf (l.take k) + 2 ^ e := by rw [hT.out, setOf_append]; simp [setOf]
                rw [e1]
                exact hst
              · rw [heap_setCell_other _ _ _ _ (by simp)]; exact hbox2
            case measure => simp [intOf]; omega
      · clear r1
        have hcv := conv_key2 n (setOf (l.take k)) wr _ _ hrow
        go_wp2
        go_ret
        have hke : l.take k = l := List.take_of_length_le (by omega)
        rw [hke]
        exact ⟨rfl, hbr⟩
end Go.Proofs.YtdgmokelmocejabDoor
