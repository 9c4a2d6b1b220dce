import Derived.Test.YtnfdifkcchciaaaDoorNu
namespace Go.Proofs.YtnfdifkcchciaaaDoor
open Go.RowKit Go.Maps

theorem least_nat (p : Nat → Prop) : ∀ n, p n → ∃ i, i ≤ n ∧ p i ∧ ∀ j, j < i → ¬ p j := by
  intro n
  induction n using Nat.strongRecOn with
  | _ n ih =>
    intro h
    by_cases hx : ∃ j, j < n ∧ p j
    · obtain ⟨j, hj, hp⟩ := hx
      obtain ⟨i, h1, h2, h3⟩ := ih j hj hp
      exact ⟨i, by omega, h2, h3⟩
    · exact ⟨n, Nat.le_refl _, h, fun j hj hp => hx ⟨j, hj, hp⟩⟩

theorem pig : ∀ (a l : List ByteArray), a.Nodup → (∀ x ∈ a, x ∈ l) → a.length ≤ l.length
  | [], _, _, _ => Nat.zero_le _
  | x :: a, l, h, hs => by
    haveI := ba_lawful
    have hx := hs x (by simp)
    have h1 := List.nodup_cons.1 h
    have h2 := pig a (l.erase x) h1.2 (fun y hy => (List.mem_erase_of_ne (fun e => h1.1 (by rw [← e]; exact hy))).2 (hs y (by simp [hy])))
    rw [List.length_erase_of_mem hx] at h2
    have := List.length_pos_of_mem hx
    simp
    omega

theorem numN_inj {head : ByteArray} {a b : Nat} (h : numN head a = numN head b) : a = b := by
  apply decT_inj
  have h1 := congrArg (fun t : ByteArray => t.data.toList) h
  simp only [numN, ByteArray.data_append, Array.toList_append] at h1
  have h2 := List.append_cancel_left h1
  cases ha : decT a with
  | mk da => cases hb : decT b with
    | mk db =>
      rw [ha, hb] at h2
      simp only at h2
      congr 1
      exact Array.toList_inj.1 h2
theorem numL_nodup (head : ByteArray) (n : Nat) : (numL head n).Nodup := by
  unfold numL
  rw [List.nodup_iff_pairwise_ne, List.pairwise_map]
  exact List.Pairwise.imp (fun hab e => hab (numN_inj e)) (List.nodup_iff_pairwise_ne.1 List.nodup_range)

/-- The first number that a list has not. -/
structure FrI (l : List ByteArray) (head : ByteArray) (i : Nat) : Prop where
  le : i ≤ l.length
  out : numN head i ∉ l
  all : ∀ j, j < i → numN head j ∈ l
theorem fresh_ex (l : List ByteArray) (head : ByteArray) : ∃ i, FrI l head i := by
  have h : ∃ j, j ≤ l.length ∧ numN head j ∉ l := by
    apply Classical.byContradiction
    intro hc
    have hall : ∀ x ∈ numL head (l.length + 1), x ∈ l := by
      intro x hx
      obtain ⟨j, hj, rfl⟩ := List.mem_map.1 hx
      apply Classical.byContradiction
      intro hn
      exact hc ⟨j, by have := List.mem_range.1 hj; omega, hn⟩
    have := pig _ _ (numL_nodup head (l.length + 1)) hall
    rw [numL_len] at this
    omega
  obtain ⟨j, hj, hn⟩ := h
  obtain ⟨i, h1, h2, h3⟩ := least_nat (fun j => numN head j ∉ l) j hn
  exact ⟨i, by omega, h2, fun k hk => Classical.byContradiction (h3 k hk)⟩

/-- What Fresh answers. -/
def frT (s : ByteArray) : ByteArray := if vld s = true then s else ByteArray.empty
def frC (s : ByteArray) : Int := if vld s = true then 0 else 20

theorem key_mk2 {s : ByteArray} (h : s.size ≤ 2097152) : keyOf Tryd.prog 9 (.string s) = some (kOf s) := WideMaps.keyOf_string_mk Tryd.underlying9 (by unfold maxLen; omega)
theorem look_in (w : World) {ops : Array Oper} {rest : List Oper} {o : Oper} {a : Act} {Q : Exit → Act → World → Prop} (hg : o.guard = none) (m x : Operand) (hop : o.op = Op.lookup 71 m x true)
    (b n : Nat) (l : List ByteArray) (s : ByteArray) (hp : Pls w b n l) (hs : s ∈ l) (hz : s.size ≤ 2097152) (hm : a.eval m = .map (some b)) (hx : a.eval x = .string s)
    (hK : ∀ c : Int, wpList Tryd.prog ops Q rest (a.put o.dst (.tuple #[.int .i64 c, .bool true])) w) : wpList Tryd.prog ops Q (o :: rest) a w := by
  obtain ⟨D, hown, hpl⟩ := hp
  refine wpList_lookup_own_ok_int _ hg m x 71 hop 9 3 .i64 law Tryd.underlying71 Tryd.underlying3 (zero3 _) b n D hm hown _ _ hx (key_mk2 hz) ?_
  intro c hat hwc
  rw [hpl.has, mem_c.2 hs]
  exact hK c
theorem look_out (w : World) {ops : Array Oper} {rest : List Oper} {o : Oper} {a : Act} {Q : Exit → Act → World → Prop} (hg : o.guard = none) (m x : Operand) (hop : o.op = Op.lookup 71 m x true)
    (b n : Nat) (l : List ByteArray) (s : ByteArray) (hp : Pls w b n l) (hs : s ∉ l) (hz : s.size ≤ 2097152) (hm : a.eval m = .map (some b)) (hx : a.eval x = .string s)
    (hK : ∀ c : Int, wpList Tryd.prog ops Q rest (a.put o.dst (.tuple #[.int .i64 c, .bool false])) w) : wpList Tryd.prog ops Q (o :: rest) a w := by
  obtain ⟨D, hown, hpl⟩ := hp
  refine wpList_lookup_own_ok_int _ hg m x 71 hop 9 3 .i64 law Tryd.underlying71 Tryd.underlying3 (zero3 _) b n D hm hown _ _ hx (key_mk2 hz) ?_
  intro c hat hwc
  rw [hpl.has, not_mem_c.2 hs]
  exact hK c
theorem numN_size (head : ByteArray) (k : Nat) (hh : head.size ≤ 1048576) (hk : k ≤ 9223372036854775807) : (head ++ decT k).size ≤ 2097152 := by
  have := decT_size k hk
  rw [ByteArray.size_append]
  omega

set_option maxRecDepth 100000 in
set_option maxHeartbeats 1000000 in
/-- Fresh. -/
theorem fresh_any (v : Value) (l : List ByteArray) (head : ByteArray) (i : Nat) (w : World) (hl : StrS w v l) (sl : Sml l) (hh : head.size ≤ 1048576) (HI : Hid (FrI l head i)) (hT : BytesAt w) (hP : PowAt w) (hw0 : 1 < w.heap.size) :
    Calls Tryd.prog 33 #[v, .string head] w fun e w' => e = .returned (.tuple #[.string (frT (numN head i)), .int .i64 (frC (numN head i))]) ∧ Below w.heap.size w w' := by
  have lb := sl.1
  have hib := HI.out.le
  go_enter Tryd.func33, Tryd.ntmps33
  go_wp2_with fail
  refine (firstPlaces_any _ l _ hl sl).mono ?_
  rintro e w1 ⟨rfl, pl, d1⟩
  have hs1 := d1.size
  have hf1 : ∀ (h : ByteArray), True := fun _ => trivial
  clear hf1
  go_wp2
  go_loopw [7] (fun n wr => ∃ k : Nat, k ≤ i ∧ n = .int .i64 k ∧ Below w1.heap.size w1 wr) (fun n _ => i - (intOf n).toNat)
  case atStart => exact ⟨0, Nat.zero_le _, rfl, Below.refl _ _⟩
  case round =>
    obtain ⟨k, hk, rfl, dr⟩ := hrel
    have hdw : Below w.heap.size w wr := d1.trans (dr.mono hs1)
    have hsr := hdw.size
    have hPr := hP.below hdw hw0
    have hsk := numN_size head k hh (by omega)
    have hcs := decT_size k (by omega)
    go_wp2_with fail
    refine (itoa_any k (by omega) _ hPr).mono ?_
    rintro e w2 ⟨rfl, d2⟩
    have hs2 := d2.size
    have hdw2 := hdw.trans (d2.mono hsr)
    have dr2 := dr.trans (d2.mono (by have := dr.size; omega))
    have hpl : Pls w2 w.heap.size l.length l := pl.below dr2
    clear dr d2 hdw hPr
    by_cases hki : k < i
    · have hin : head ++ decT k ∈ l := HI.out.all k hki
      have HN := hide hin
      clear hin
      go_wp2_with (at_lookup; refine look_in _ rfl _ _ rfl w.heap.size l.length l (head ++ decT k) hpl HN.out hsk rfl rfl ?_; intro c)
      go_roundw
      case rel => exact ⟨k + 1, by omega, by go_num, dr2⟩
      case measure => simp [intOf]; omega
    · obtain rfl : k = i := by omega
      have hout : head ++ decT k ∉ l := HI.out.out
      have HN := hide hout
      clear hout
      have hTr := hT.below hdw2 (by omega)
      cases hvk : vld (numN head k) with
      | false =>
        have hvk' : vld (head ++ decT k) = false := hvk
        have HVK := hide hvk
        clear hvk
        go_wp2_with (first | (at_lookup; refine look_out _ rfl _ _ rfl w.heap.size l.length l (head ++ decT k) hpl HN.out hsk rfl rfl ?_; intro c) | (go_at_call 11; refine (valid_any _ _ hTr (by omega)).mono ?_; rintro e w3 ⟨rfl, d3⟩))
        go_ret2
        have e1 : frT (numN head k) = ByteArray.empty := by unfold frT; rw [HVK.out]; rfl
        have e2 : frC (numN head k) = 20 := by unfold frC; rw [HVK.out]; rfl
        rw [e1, e2]
        exact ⟨rfl, hdw2.trans (d3.mono (by omega))⟩
      | true =>
        have hvk' : vld (head ++ decT k) = true := hvk
        have HVK := hide hvk
        clear hvk
        go_wp2_with (first | (at_lookup; refine look_out _ rfl _ _ rfl w.heap.size l.length l (head ++ decT k) hpl HN.out hsk rfl rfl ?_; intro c) | (go_at_call 11; refine (valid_any _ _ hTr (by omega)).mono ?_; rintro e w3 ⟨rfl, d3⟩))
        go_ret2
        have e1 : frT (numN head k) = numN head k := by unfold frT; rw [HVK.out]; rfl
        have e2 : frC (numN head k) = 0 := by unfold frC; rw [HVK.out]; rfl
        rw [e1, e2]
        exact ⟨rfl, hdw2.trans (d3.mono (by omega))⟩

set_option maxRecDepth 100000 in
set_option maxHeartbeats 1000000 in
/-- The reference's Fresh. -/
theorem rfresh_any (v : Value) (l : List ByteArray) (head : ByteArray) (i : Nat) (w : World) (hl : StrS w v l) (sl : Sml l) (hh : head.size ≤ 1048576) (HI : Hid (FrI l head i)) (hP : PowAt w) (hw0 : 1 < w.heap.size) :
    Calls Tryd.prog 32 #[v, .string head] w fun e w' => e = .returned (.tuple #[.string (frT (numN head i)), .int .i64 (frC (numN head i))]) ∧ Below w.heap.size w w' := by
  have lb := sl.1
  have hib := HI.out.le
  have HL := hide hl
  obtain ⟨ao, cap, rfl, _⟩ := hl
  go_enter Tryd.func32, Tryd.ntmps32
  go_wp2
  go_loopw [6] (fun n wr => ∃ k : Nat, k ≤ i ∧ n = .int .i64 k ∧ Below w.heap.size w wr) (fun n _ => i - (intOf n).toNat)
  case atStart => exact ⟨0, Nat.zero_le _, rfl, Below.refl _ _⟩
  case round =>
    obtain ⟨k, hk, rfl, dr⟩ := hrel
    have hsr := dr.size
    have hPr := hP.below dr hw0
    have hcs := decT_size k (by omega)
    have hle : (k : Int) ≤ (l.length : Int) := by omega
    have HLE := hide hle
    go_wp2_with fail
    refine (itoa_any k (by omega) _ hPr).mono ?_
    rintro e w2 ⟨rfl, d2⟩
    have hs2 := d2.size
    have dr2 := dr.trans (d2.mono hsr)
    clear dr d2 hPr
    go_wp2_with fail
    by_cases hki : k < i
    · have hin : head ++ decT k ∈ l := HI.out.all k hki
      refine (place_yes _ l (head ++ decT k) _ _ (HL.out.below dr2) (by omega) hin rfl).mono ?_
      rintro e w3 ⟨rfl, hw⟩
      obtain rfl := hw.symm
      clear hw hin
      go_wp2
      go_roundw
      case rel => exact ⟨k + 1, by omega, by go_num, dr2⟩
      case measure => simp [intOf]; omega
    · obtain rfl : k = i := by omega
      have hout : head ++ decT k ∉ l := HI.out.out
      refine (place_no _ l (head ++ decT k) _ (HL.out.below dr2) (by omega) hout).mono ?_
      rintro e w3 ⟨rfl, hw⟩
      obtain rfl := hw.symm
      clear hw hout
      cases hvk : vld (numN head k) with
      | false =>
        have hvk' : vld (head ++ decT k) = false := hvk
        have HVK := hide hvk
        clear hvk
        go_wp2_with (go_at_call 25; refine (rvalid_any _ _).mono ?_; rintro e w4 ⟨rfl, hw⟩; obtain rfl := hw.symm; clear hw)
        go_ret2
        have e1 : frT (numN head k) = ByteArray.empty := by unfold frT; rw [HVK.out]; rfl
        have e2 : frC (numN head k) = 20 := by unfold frC; rw [HVK.out]; rfl
        rw [e1, e2]
        exact ⟨rfl, dr2⟩
      | true =>
        have hvk' : vld (head ++ decT k) = true := hvk
        have HVK := hide hvk
        clear hvk
        go_wp2_with (go_at_call 25; refine (rvalid_any _ _).mono ?_; rintro e w4 ⟨rfl, hw⟩; obtain rfl := hw.symm; clear hw)
        go_ret2
        have e1 : frT (numN head k) = numN head k := by unfold frT; rw [HVK.out]; rfl
        have e2 : frC (numN head k) = 0 := by unfold frC; rw [HVK.out]; rfl
        rw [e1, e2]
        exact ⟨rfl, dr2⟩
end Go.Proofs.YtnfdifkcchciaaaDoor
