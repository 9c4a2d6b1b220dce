import Derived.Test.YtdgmokelmocejabDoorList
namespace Go.Proofs.YtdgmokelmocejabDoor
open Go.RowKit

/-- A slice value that can be read as these numbers. -/
def Reads (w : World) (ao : Option Addr) (l : List Nat) : Prop := ∀ k, k < l.length → ∃ g, ao = some ⟨g, 0, none⟩ ∧ w.cell? ⟨g, k, none⟩ = some (.int .i64 ((l.getD k 0 : Nat) : Int))

theorem intV_get (l : List Nat) (k : Nat) (h : k < l.length) : (intV l)[k]? = some (.int .i64 ((l.getD k 0 : Nat) : Int)) := by
  simp [intV, h]

theorem owns_reads {w : World} {base : Nat} {v : Value} {l : List Nat} (h : w.ownsRow base 3 1 v l.length (intV l)) : ∃ ao cap, v = .slice ao l.length cap ∧ Reads w ao l := by
  rcases h.2 with ⟨rfl, h0⟩ | ⟨g, cap, cur, rfl, _⟩
  · exact ⟨none, 0, by rw [h0], fun k hk => by omega⟩
  · refine ⟨_, cap, rfl, fun k hk => ⟨g, rfl, ?_⟩⟩
    have := h.cells (g := g) rfl k _ (intV_get l k hk)
    rw [Addr.add_lit] at this
    simpa using this

theorem Reads.drewN {w : World} {ao : Option Addr} {l : List Nat} (h : Reads w ao l) (q : Nat) : Reads (w.drewN q) ao l := h
theorem drewN_drewN (w : World) (p q : Nat) : (w.drewN p).drewN q = w.drewN (p + q) := by
  simp [World.drewN, Nat.add_assoc]

set_option maxHeartbeats 400000 in
theorem same_len (a1 a2 : Option Addr) (c1 c2 n1 n2 : Nat) (w : World) (h : n1 ≠ n2) :
    Calls Tryd.prog 22 #[.slice a1 n1 c1, .slice a2 n2 c2] w fun e w' => e = .returned (.bool false) ∧ w' = w := by
  have hb : ((n1 : Int) != (n2 : Int)) = true := by rw [bne_iff_ne]; omega
  go_enter Tryd.func22, Tryd.ntmps22
  go_wp2
  go_ret
  exact ⟨rfl, rfl⟩

set_option maxHeartbeats 400000 in
theorem same_eq (a1 a2 : Option Addr) (c1 c2 : Nat) (l1 l2 : List Nat) (w : World) (h : l1.length = l2.length) (r1 : Reads w a1 l1) (r2 : Reads w a2 l2) (hlen : l1.length ≤ 100000) :
    Calls Tryd.prog 22 #[.slice a1 l1.length c1, .slice a2 l1.length c2] w fun e w' => e = .returned (.bool (decide (l1 = l2))) ∧ ∃ q, w' = w.drewN q := by
  go_enter Tryd.func22, Tryd.ntmps22
  go_wp2
  go_loopw [5] (fun i wr => ∃ k q : Nat, k ≤ l1.length ∧ i = .int .i64 k ∧ wr = w.drewN q ∧ ∀ j, j < k → l1.getD j 0 = l2.getD j 0) (fun i _ => l1.length - (intOf i).toNat)
  case atStart => exact ⟨0, 0, Nat.zero_le _, rfl, rfl, fun j hj => by omega⟩
  case round =>
    obtain ⟨k, q, hk, rfl, rfl, hj⟩ := hrel
    have HJ := hide hj
    clear hj
    by_cases hlt : k < l1.length
    · obtain ⟨g1, rfl, hc1⟩ := r1 k hlt
      obtain ⟨g2, rfl, hc2⟩ := r2 k (by omega)
      have hk0 : (0 : Int) ≤ k := by omega
      have hk1 : (k : Int) < l1.length := by omega
      have HH := hide h
      obtain ⟨x, hx⟩ : ∃ x : Nat, l1.getD k 0 = x := ⟨_, rfl⟩
      obtain ⟨y, hy⟩ : ∃ y : Nat, l2.getD k 0 = y := ⟨_, rfl⟩
      rw [hx] at hc1
      rw [hy] at hc2
      have HX := hide hx
      have HY := hide hy
      clear r1 r2 h hx hy
      by_cases hab : x = y
      · have hb : ((x : Int) != (y : Int)) = false := by rw [hab]; simp
        have HAB := hide hab
        clear hab
        go_wp2_with fail
        go_quiet (fail)
        go_wp2
        go_roundw
        case rel =>
          refine ⟨k + 1, _, by omega, by go_num, rfl, fun j hj => ?_⟩
          by_cases hjk : j = k
          · subst hjk; rw [HX.out, HY.out, HAB.out]
          · exact HJ.out j (by omega)
        case measure => simp [intOf]; omega
      · have hb : ((x : Int) != (y : Int)) = true := by rw [bne_iff_ne]; omega
        go_wp2_with fail
        go_quiet (fail)
        go_wp2
        go_ret
        refine ⟨ret_bool ?_, _, drewN_drewN _ _ _⟩
        symm
        apply decide_eq_false
        intro e
        subst e
        exact hab (HX.out.symm.trans HY.out)
    · clear r1 r2
      have HH := hide h
      clear h
      go_wp2
      go_ret
      refine ⟨ret_bool ?_, _, rfl⟩
      symm
      apply decide_eq_true
      apply List.ext_getElem HH.out
      intro j h1 h2
      have := HJ.out j (by omega)
      simpa [List.getD, h1, h2] using this

theorem same_any {a1 a2 : Option Addr} {c1 c2 n1 n2 : Nat} {l1 l2 : List Nat} {w : World} (e1 : n1 = l1.length) (e2 : n2 = l2.length) (r1 : Reads w a1 l1) (r2 : Reads w a2 l2) (hlen : l1.length ≤ 100000) :
    Calls Tryd.prog 22 #[.slice a1 n1 c1, .slice a2 n2 c2] w fun e w' => e = .returned (.bool (decide (l1 = l2))) ∧ ∃ q, w' = w.drewN q := by
  subst e1; subst e2
  by_cases h : l1.length = l2.length
  · have := same_eq a1 a2 c1 c2 l1 l2 w h r1 r2 hlen
    rwa [h] at this ⊢
  · rw [decide_eq_false (fun e => h (by rw [e]))]
    refine (same_len a1 a2 c1 c2 _ _ w h).mono ?_
    rintro e w' ⟨rfl, rfl⟩
    exact ⟨rfl, 0, rfl⟩

def rhas (l : List Nat) (i : Int) : Bool := l.any fun (e : Nat) => (e : Int) == i
theorem drop_cons (l : List Nat) (k : Nat) (h : k < l.length) : l.drop k = l.getD k 0 :: l.drop (k + 1) := by
  rw [List.drop_eq_getElem_cons h]; simp [List.getD, h]

set_option maxHeartbeats 400000 in
theorem rhas_any (a1 : Option Addr) (c1 n : Nat) (i : Int) (l : List Nat) (w : World) (r1 : Reads w a1 l) (hlen : l.length ≤ 100000) :
    Calls Tryd.prog 54 #[.agg #[.int .i64 n, .slice a1 l.length c1], .int .i64 i] w fun e w' => e = .returned (.bool (rhas l i)) ∧ Below w.heap.size w w' := by
  go_enter Tryd.func54, Tryd.ntmps54
  go_wp2
  go_loop [5] (fun kk => ∃ k : Nat, k ≤ l.length ∧ kk = .int .i64 k ∧ rhas l i = rhas (l.drop k) i) (fun kk => l.length - (intOf kk).toNat)
  case atStart => exact ⟨0, Nat.zero_le _, rfl, rfl⟩
  case round =>
    obtain ⟨k, hk, rfl, hj⟩ := hrel
    have HJ := hide hj
    clear hj
    by_cases hlt : k < l.length
    · obtain ⟨g1, rfl, hc1⟩ := r1 k hlt
      have hg1 := World.block_lt_of_cell? w _ hc1
      simp only at hg1
      have hd := drop_cons l k hlt
      obtain ⟨x, hx⟩ : ∃ x : Nat, l.getD k 0 = x := ⟨_, rfl⟩
      rw [hx] at hc1 hd
      have HD := hide hd
      clear r1 hx hd
      by_cases hab : ((x : Int) == i) = true
      · go_wp2
        go_ret
        refine ⟨ret_bool ?_, (Below.refl _ _).alloc (Nat.le_refl _) _⟩
        rw [HJ.out, HD.out]; simp [rhas, hab]
      · have hab2 : ((x : Int) == i) = false := by simpa using hab
        clear hab
        go_wp2
        go_round
        case rel =>
          refine ⟨k + 1, by omega, by go_num, ?_⟩
          rw [HJ.out, HD.out]; simp [rhas, hab2]
        case measure => simp [intOf]; omega
    · clear r1
      go_wp2
      go_ret
      refine ⟨ret_bool ?_, (Below.refl _ _).alloc (Nat.le_refl _) _⟩
      rw [HJ.out, List.drop_eq_nil_of_le (by omega)]; rfl

set_option maxHeartbeats 400000 in
theorem rnext_any (a1 : Option Addr) (c1 n : Nat) (i : Int) (l : List Nat) (w : World) (r1 : Reads w a1 l) (hlen : l.length ≤ 100000) :
    Calls Tryd.prog 55 #[.agg #[.int .i64 n, .slice a1 l.length c1], .int .i64 i] w fun e w' => e = .returned (.int .i64 (nextL l i)) ∧ Below w.heap.size w w' := by
  go_enter Tryd.func55, Tryd.ntmps55
  go_wp2
  go_loop [5] (fun kk => ∃ k : Nat, k ≤ l.length ∧ kk = .int .i64 k ∧ nextL l i = nextL (l.drop k) i) (fun kk => l.length - (intOf kk).toNat)
  case atStart => exact ⟨0, Nat.zero_le _, rfl, rfl⟩
  case round =>
    obtain ⟨k, hk, rfl, hj⟩ := hrel
    have HJ := hide hj
    clear hj
    by_cases hlt : k < l.length
    · obtain ⟨g1, rfl, hc1⟩ := r1 k hlt
      have hg1 := World.block_lt_of_cell? w _ hc1
      simp only at hg1
      have hd := drop_cons l k hlt
      obtain ⟨x, hx⟩ : ∃ x : Nat, l.getD k 0 = x := ⟨_, rfl⟩
      rw [hx] at hc1 hd
      have HD := hide hd
      clear r1 hx hd
      by_cases hab : i ≤ (x : Int)
      · go_wp2
        go_ret
        refine ⟨ret_int ?_, (Below.refl _ _).alloc (Nat.le_refl _) _⟩
        rw [HJ.out, HD.out]; simp [nextL, hab]
      · go_wp2
        go_round
        case rel =>
          refine ⟨k + 1, by omega, by go_num, ?_⟩
          rw [HJ.out, HD.out]; exact if_neg hab
        case measure => simp [intOf]; omega
    · clear r1
      go_wp2
      go_ret
      refine ⟨ret_int ?_, (Below.refl _ _).alloc (Nat.le_refl _) _⟩
      rw [HJ.out, List.drop_eq_nil_of_le (by omega)]; rfl

theorem rhas_elems (n X : Nat) (i : Int) (hX : X < 2 ^ n) : rhas (elems n X) i = hasB X i := by
  rw [Bool.eq_iff_iff]
  simp only [rhas, hasB, List.any_eq_true, beq_iff_eq, Bool.and_eq_true, decide_eq_true_eq]
  constructor
  · rintro ⟨e, he, rfl⟩
    exact ⟨by omega, by simpa using (mem_elems.1 he).2⟩
  · rintro ⟨h0, h1⟩
    exact ⟨i.toNat, mem_elems.2 ⟨testBit_lt hX h1, h1⟩, by omega⟩
end Go.Proofs.YtdgmokelmocejabDoor
