import Derived.Test.YtchoopnjckcohaaGreatDoorQaj
set_option maxRecDepth 100000
set_option maxHeartbeats 40000000
namespace Go.Proofs.YtchoopnjckcohaaGreatDoor
open Go.RowKit Go.Maps Go.Shelf
theorem hasB_of {X : Nat} {i : Int} (h0 : 0 ≤ i) (h : X.testBit i.toNat = true) : hasB X i = true := by unfold hasB; simp [h0, h]
def Rch (Ed : List EdT) : List Int → Int → Int → Prop
 | [], p, q => p = q
 | y :: W, p, q => ∃ r, (p, y, r) ∈ Ed ∧ Rch Ed W r q
theorem cpL_ss {zs : List Int} (hs : zs.Pairwise (· ≤ ·)) : (Lib.compact zs).Pairwise (· < ·) := by
 have key : ∀ m, m ≤ zs.length → (Lib.compactUpTo zs.toArray m).Pairwise (· < ·) ∧ (∀ x ∈ Lib.compactUpTo zs.toArray m, ∃ j, j < m ∧ ∃ h : j < zs.length, x = zs[j]) := by
  intro m
  induction m with
  | zero => intro _; exact ⟨by simp [Lib.compactUpTo], fun x hx => by simp [Lib.compactUpTo] at hx⟩
  | succ m ih =>
   intro hm
   obtain ⟨k1, k2⟩ := ih (by omega)
   rw [Lib.compactUpTo_succ]
   by_cases hk : Lib.keeps zs.toArray m = true
   · rw [if_pos hk]
     have hm' : m < zs.length := by omega
     have em : zs.toArray[m]! = zs[m] := by simp [hm']
     refine ⟨?_, fun x hx => ?_⟩
     · rw [List.pairwise_append]
       refine ⟨k1, by simp, fun x hx y hy => ?_⟩
       rw [List.mem_singleton.1 hy, em]
       obtain ⟨j, hj, hjl, rfl⟩ := k2 x hx
       unfold Lib.keeps at hk
       rw [decide_eq_true_eq] at hk
       have hm0 : m ≠ 0 := by omega
       have hk2 := hk.resolve_left hm0
       have e1 : zs.toArray[m - 1]! = zs[m - 1] := by simp [show m - 1 < zs.length by omega]
       rw [em, e1] at hk2
       have l1 : zs[m - 1] ≤ zs[m] := (List.pairwise_iff_getElem.1 hs) (m - 1) m (by omega) hm' (by omega)
       rcases Nat.lt_or_ge j (m - 1) with q | q
       · have l2 : zs[j] ≤ zs[m - 1] := (List.pairwise_iff_getElem.1 hs) j (m - 1) hjl (by omega) q
         omega
       · have : j = m - 1 := by omega
         subst this; omega
     · rcases List.mem_append.1 hx with hx | hx
       · obtain ⟨j, hj, q⟩ := k2 x hx
         exact ⟨j, by omega, q⟩
       · rw [List.mem_singleton.1 hx]; exact ⟨m, by omega, hm', em⟩
   · rw [if_neg hk, List.append_nil]
     exact ⟨k1, fun x hx => by obtain ⟨j, hj, q⟩ := k2 x hx; exact ⟨j, by omega, q⟩⟩
 exact (key zs.length (Nat.le_refl _)).1
theorem sortI_up (L : List Int) : (sortI L).Pairwise (· ≤ ·) := by
 have hp : (sortI L).Pairwise fun a b => decide (a ≤ b) = true := List.pairwise_mergeSort (le := fun x y : Int => decide (x ≤ y)) (fun a b c h1 h2 => by
  simp only [decide_eq_true_eq] at *
  omega) (fun a b => by
  simp only [Bool.or_eq_true, decide_eq_true_eq]
  omega) L
 exact hp.imp fun q => by simpa using q
theorem riseL_ss (L : List Int) : (riseL L).Pairwise (· < ·) := cpL_ss (sortI_up L)
theorem ssL_eq : ∀ (A B : List Int), A.Pairwise (· < ·) → B.Pairwise (· < ·) → (∀ x, x ∈ A ↔ x ∈ B) → A = B
 | [], [], _, _, _ => rfl
 | [], b :: B, _, _, h => absurd ((h b).2 (by simp)) (by simp)
 | a :: A, [], _, _, h => absurd ((h a).1 (by simp)) (by simp)
 | a :: A, b :: B, hA, hB, h => by
  rw [List.pairwise_cons] at hA hB
  have e : a = b := by
   rcases List.mem_cons.1 ((h a).1 (by simp)) with q | q
   · exact q
   · rcases List.mem_cons.1 ((h b).2 (by simp)) with r | r
     · exact r.symm
     · have := hB.1 a q; have := hA.1 b r; omega
  subst e
  congr 1
  refine ssL_eq A B hA.2 hB.2 fun x => ⟨fun q => ?_, fun q => ?_⟩
  · rcases List.mem_cons.1 ((h x).1 (by simp [q])) with r | r
    · subst r; have := hA.1 x q; omega
    · exact r
  · rcases List.mem_cons.1 ((h x).2 (by simp [q])) with r | r
    · subst r; have := hB.1 x q; omega
    · exact r
theorem riseL_same {A B : List Int} (h : ∀ x, x ∈ A ↔ x ∈ B) : riseL A = riseL B := ssL_eq _ _ (riseL_ss A) (riseL_ss B) fun x => by rw [riseL_iff, riseL_iff, h]
theorem riseL_idem (L : List Int) : riseL (riseL L) = riseL L := riseL_same fun x => riseL_iff L x
theorem mem_turnE {L : List EdT} {e : EdT} : e ∈ turnE L ↔ tE e ∈ L := by
 unfold turnE
 constructor
 · intro h
   obtain ⟨x, hx, rfl⟩ := List.mem_map.1 h
   exact hx
 · intro h
   exact List.mem_map.2 ⟨tE e, h, rfl⟩
theorem may_of {n m : Int} {St Fi : List Int} {Ed : List EdT} (h1 : 0 ≤ n ∧ n ≤ 4096) (h2 : 0 ≤ m ∧ m ≤ 128) (h3 : Ed.length ≤ 65536) (h4 : ∀ x ∈ St, 0 ≤ x ∧ x < n) (h5 : ∀ x ∈ Fi, 0 ≤ x ∧ x < n) (h6 : ∀ e ∈ Ed, (0 ≤ e.1 ∧ e.1 < n) ∧ (0 ≤ e.2.1 ∧ e.2.1 < m) ∧ 0 ≤ e.2.2 ∧ e.2.2 < n) : mayA n m St Fi Ed = true := by
 unfold mayA
 simp only [Bool.and_eq_true, List.all_eq_true, decide_eq_true_eq]
 refine ⟨⟨⟨⟨⟨inB_iff.2 (by omega), inB_iff.2 (by omega)⟩, h3⟩, fun x hx => inB_iff.2 (h4 x hx)⟩, fun x hx => inB_iff.2 (h5 x hx)⟩, fun e he => ?_⟩
 obtain ⟨q1, q2, q3⟩ := h6 e he
 unfold edOk
 rw [inB_iff.2 q1, inB_iff.2 q2, inB_iff.2 q3]
 rfl
theorem may_st {n m : Int} {St Fi : List Int} {Ed : List EdT} (h : mayA n m St Fi Ed = true) : (∀ x ∈ St, 0 ≤ x ∧ x < n) ∧ (∀ x ∈ Fi, 0 ≤ x ∧ x < n) := by
 obtain ⟨_, _, _, h4, h5, _⟩ := may_parts h
 exact ⟨fun x hx => inB_iff.1 (List.all_eq_true.1 h4 x hx), fun x hx => inB_iff.1 (List.all_eq_true.1 h5 x hx)⟩
def Tak (St Fi : List Int) (Ed : List EdT) (Wd : List Int) : Prop := ∃ p, p ∈ St ∧ ∃ q, q ∈ Fi ∧ Rch Ed Wd p q
open Classical in
noncomputable def tkB (n m : Int) (St Fi : List Int) (Ed : List EdT) (Wd : List Int) : Bool := decide (wordErr n m St Fi Ed Wd = 0 ∧ Tak St Fi Ed Wd)
theorem wordErr_iff {n m : Int} {St Fi : List Int} {Ed : List EdT} {Wd : List Int} : wordErr n m St Fi Ed Wd = 0 ↔ mayA n m St Fi Ed = true ∧ Wd.all (inB m) = true :=
 ⟨wordErr_zero, fun ⟨h1, h2⟩ => by unfold wordErr; rw [if_pos h1, if_pos h2]⟩
open Classical in
theorem tkB_iff {n m : Int} {St Fi : List Int} {Ed : List EdT} {Wd : List Int} : tkB n m St Fi Ed Wd = true ↔ mayA n m St Fi Ed = true ∧ Wd.all (inB m) = true ∧ Tak St Fi Ed Wd := by
 refine Iff.trans (decide_eq_true_iff (p := wordErr n m St Fi Ed Wd = 0 ∧ Tak St Fi Ed Wd)) ?_
 rw [wordErr_iff, and_assoc]
theorem rch_same {E E' : List EdT} (h : ∀ e, e ∈ E ↔ e ∈ E') : ∀ (W : List Int) (p q : Int), Rch E W p q ↔ Rch E' W p q
 | [], _, _ => Iff.rfl
 | y :: W, p, q => by
  constructor
  · rintro ⟨r, h1, h2⟩; exact ⟨r, (h _).1 h1, (rch_same h W r q).1 h2⟩
  · rintro ⟨r, h1, h2⟩; exact ⟨r, (h _).2 h1, (rch_same h W r q).2 h2⟩
theorem rch_app {E : List EdT} : ∀ (A B : List Int) (p q : Int), Rch E (A ++ B) p q ↔ ∃ r, Rch E A p r ∧ Rch E B r q
 | [], B, p, q => ⟨fun h => ⟨p, rfl, h⟩, fun ⟨r, h1, h2⟩ => by cases h1; exact h2⟩
 | y :: A, B, p, q => by
  constructor
  · rintro ⟨r, h1, h2⟩
    obtain ⟨s, h3, h4⟩ := (rch_app A B r q).1 h2
    exact ⟨s, ⟨r, h1, h3⟩, h4⟩
  · rintro ⟨s, ⟨r, h1, h3⟩, h4⟩
    exact ⟨r, h1, (rch_app A B r q).2 ⟨s, h3, h4⟩⟩
theorem rch_turn {E : List EdT} : ∀ (W : List Int) (p q : Int), Rch (turnE E) W.reverse q p ↔ Rch E W p q
 | [], p, q => ⟨fun h => Eq.symm h, fun h => Eq.symm h⟩
 | y :: W, p, q => by
  rw [List.reverse_cons, rch_app]
  constructor
  · rintro ⟨r, h1, s, h2, h3⟩
    cases h3
    exact ⟨r, mem_turnE.1 h2, (rch_turn W r q).1 h1⟩
  · rintro ⟨r, h1, h2⟩
    exact ⟨r, (rch_turn W r q).2 h2, p, mem_turnE.2 h1, rfl⟩
theorem may_rise {n m : Int} {St Fi : List Int} {Ed : List EdT} (h : mayA n m St Fi Ed = true) : mayA n m (riseL St) (riseL Fi) (riseE Ed) = true := by
 obtain ⟨h1, h2, h3, _, _, h6⟩ := may_parts h
 obtain ⟨h4, h5⟩ := may_st h
 exact may_of h1 h2 (Nat.le_trans (riseE_len Ed) h3) (fun x hx => h4 x ((riseL_iff St x).1 hx)) (fun x hx => h5 x ((riseL_iff Fi x).1 hx)) (fun e he => h6 e ((riseE_iff Ed e).1 he))
theorem tk_normal {n m : Int} {St Fi : List Int} {Ed : List EdT} (h : mayA n m St Fi Ed = true) (Wd : List Int) : tkB n m (riseL St) (riseL Fi) (riseE Ed) Wd = tkB n m St Fi Ed Wd := by
 rw [Bool.eq_iff_iff, tkB_iff, tkB_iff]
 refine and_congr (by rw [h, may_rise h]) (and_congr Iff.rfl ?_)
 constructor
 · rintro ⟨p, hp, q, hq, hR⟩
   exact ⟨p, (riseL_iff _ _).1 hp, q, (riseL_iff _ _).1 hq, (rch_same (riseE_iff Ed) Wd p q).1 hR⟩
 · rintro ⟨p, hp, q, hq, hR⟩
   exact ⟨p, (riseL_iff _ _).2 hp, q, (riseL_iff _ _).2 hq, (rch_same (riseE_iff Ed) Wd p q).2 hR⟩
theorem may_turn {n m : Int} {St Fi : List Int} {Ed : List EdT} (h : mayA n m St Fi Ed = true) : mayA n m (riseL Fi) (riseL St) (riseE (turnE Ed)) = true := by
 obtain ⟨h1, h2, h3, _, _, h6⟩ := may_parts h
 obtain ⟨h4, h5⟩ := may_st h
 refine may_of h1 h2 (Nat.le_trans (riseE_len _) (by rw [turnE_len]; exact h3)) (fun x hx => h5 x ((riseL_iff Fi x).1 hx)) (fun x hx => h4 x ((riseL_iff St x).1 hx)) (fun e he => ?_)
 have q := h6 _ (mem_turnE.1 ((riseE_iff _ e).1 he))
 exact ⟨q.2.2, q.2.1, q.1⟩
def shL (k : Int) (L : List Int) : List Int := L.map (· + k)
def shE (k : Int) (e : EdT) : EdT := (e.1 + k, e.2.1, e.2.2 + k)
def shEs (k : Int) (L : List EdT) : List EdT := L.map (shE k)
theorem mem_shL {k x : Int} {L : List Int} : x ∈ shL k L ↔ x - k ∈ L := by
 unfold shL
 constructor
 · intro h
   obtain ⟨y, hy, rfl⟩ := List.mem_map.1 h
   rw [show y + k - k = y by omega]; exact hy
 · intro h
   exact List.mem_map.2 ⟨_, h, by omega⟩
theorem mem_shEs {k : Int} {e : EdT} {L : List EdT} : e ∈ shEs k L ↔ (e.1 - k, e.2.1, e.2.2 - k) ∈ L := by
 unfold shEs
 constructor
 · intro h
   obtain ⟨y, hy, rfl⟩ := List.mem_map.1 h
   simp only [shE]
   rw [show y.1 + k - k = y.1 by omega, show y.2.2 + k - k = y.2.2 by omega]; exact hy
 · intro h
   refine List.mem_map.2 ⟨_, h, ?_⟩
   obtain ⟨x, y, z⟩ := e
   simp only [shE, Prod.mk.injEq]
   exact ⟨by omega, trivial, by omega⟩
theorem rch_low {k : Int} {A B : List EdT} (hA : ∀ e ∈ A, 0 ≤ e.2.2 ∧ e.2.2 < k) (hB : ∀ e ∈ B, 0 ≤ e.1) : ∀ (W : List Int) (p q : Int), p < k → (Rch (A ++ shEs k B) W p q ↔ Rch A W p q)
 | [], _, _, _ => Iff.rfl
 | y :: W, p, q, hp => by
  constructor
  · rintro ⟨r, h1, h2⟩
    rcases List.mem_append.1 h1 with h1 | h1
    · exact ⟨r, h1, (rch_low hA hB W r q (hA _ h1).2).1 h2⟩
    · have := hB _ (mem_shEs.1 h1)
      simp only at this
      omega
  · rintro ⟨r, h1, h2⟩
    exact ⟨r, List.mem_append.2 (Or.inl h1), (rch_low hA hB W r q (hA _ h1).2).2 h2⟩
theorem rch_high {k : Int} {A B : List EdT} (hA : ∀ e ∈ A, e.1 < k) (hB : ∀ e ∈ B, 0 ≤ e.2.2) : ∀ (W : List Int) (p q : Int), k ≤ p → (Rch (A ++ shEs k B) W p q ↔ Rch B W (p - k) (q - k))
 | [], p, q, _ => ⟨fun h => by cases h; exact rfl, fun h => by have h : p - k = q - k := h; show p = q; omega⟩
 | y :: W, p, q, hp => by
  constructor
  · rintro ⟨r, h1, h2⟩
    rcases List.mem_append.1 h1 with h1 | h1
    · have := hA _ h1
      simp only at this
      omega
    · have h3 := mem_shEs.1 h1
      simp only at h3
      have := hB _ h3
      simp only at this
      exact ⟨r - k, h3, (rch_high hA hB W r q (by omega)).1 h2⟩
  · rintro ⟨r, h1, h2⟩
    have := hB _ h1
    simp only at this
    refine ⟨r + k, List.mem_append.2 (Or.inr (mem_shEs.2 ?_)), (rch_high hA hB W (r + k) q (by omega)).2 ?_⟩
    · simp only
      rw [show r + k - k = r by omega]; exact h1
    · rw [show r + k - k = r by omega]; exact h2
theorem tk_union {n n' m : Int} {St Fi St' Fi' : List Int} {Ed Ed' : List EdT} (h : mayA n m St Fi Ed = true) (h' : mayA n' m St' Fi' Ed' = true) (hn : n + n' ≤ 4096) (hl : (riseE Ed).length + (riseE Ed').length ≤ 65536) (Wd : List Int) :
 mayA (n + n') m (riseL St ++ shL n (riseL St')) (riseL Fi ++ shL n (riseL Fi')) (riseE Ed ++ shEs n (riseE Ed')) = true ∧ tkB (n + n') m (riseL St ++ shL n (riseL St')) (riseL Fi ++ shL n (riseL Fi')) (riseE Ed ++ shEs n (riseE Ed')) Wd = (tkB n m St Fi Ed Wd || tkB n' m St' Fi' Ed' Wd) := by
 have hr := may_rise h
 have hr' := may_rise h'
 rw [← tk_normal h, ← tk_normal h']
 generalize riseL St = S at *
 generalize riseL Fi = F at *
 generalize riseE Ed = E at *
 generalize riseL St' = S' at *
 generalize riseL Fi' = F' at *
 generalize riseE Ed' = E' at *
 obtain ⟨h1, h2, h3, _, _, h6⟩ := may_parts hr
 obtain ⟨h4, h5⟩ := may_st hr
 obtain ⟨k1, k2, k3, _, _, k6⟩ := may_parts hr'
 obtain ⟨k4, k5⟩ := may_st hr'
 have hM : mayA (n + n') m (S ++ shL n S') (F ++ shL n F') (E ++ shEs n E') = true := by
  refine may_of (by omega) h2 (by rw [List.length_append]; unfold shEs; rw [List.length_map]; exact hl) (fun x hx => ?_) (fun x hx => ?_) (fun e he => ?_)
  · rcases List.mem_append.1 hx with q | q
    · have := h4 x q; omega
    · have := k4 _ (mem_shL.1 q); omega
  · rcases List.mem_append.1 hx with q | q
    · have := h5 x q; omega
    · have := k5 _ (mem_shL.1 q); omega
  · rcases List.mem_append.1 he with q | q
    · have := h6 e q; omega
    · have := k6 _ (mem_shEs.1 q)
      simp only at this
      omega
 refine ⟨hM, ?_⟩
 rw [Bool.eq_iff_iff, Bool.or_eq_true, tkB_iff, tkB_iff, tkB_iff]
 have L := rch_low (k := n) (A := E) (B := E') (fun e he => (h6 e he).2.2) (fun e he => (k6 e he).1.1) Wd
 have H := rch_high (k := n) (A := E) (B := E') (fun e he => (h6 e he).1.2) (fun e he => (k6 e he).2.2.1) Wd
 have stay : ∀ (W : List Int) (p q : Int), p < n → Rch E W p q → q < n := by
  intro W
  induction W with
  | nil => intro p q hp hR; cases hR; exact hp
  | cons y W ih =>
   rintro p q hp ⟨r, e, hR⟩
   exact ih r q (h6 _ e).2.2.2 hR
 have rise : ∀ (W : List Int) (p q : Int), 0 ≤ p → Rch E' W p q → 0 ≤ q := by
  intro W
  induction W with
  | nil => intro p q hp hR; cases hR; exact hp
  | cons y W ih =>
   rintro p q hp ⟨r, e, hR⟩
   exact ih r q (k6 _ e).2.2.1 hR
 constructor
 · rintro ⟨_, hw, p, hp, q, hq, hR⟩
   rcases List.mem_append.1 hp with hp | hp
   · left
     have hpn := (h4 p hp).2
     have hR2 := (L p q hpn).1 hR
     refine ⟨hr, hw, p, hp, q, ?_, hR2⟩
     rcases List.mem_append.1 hq with hq | hq
     · exact hq
     · have := (k5 _ (mem_shL.1 hq)).1
       have := stay Wd p q hpn hR2
       omega
   · right
     have hp2 := mem_shL.1 hp
     have hpn := (k4 _ hp2).1
     have hR2 := (H p q (by omega)).1 hR
     refine ⟨hr', hw, p - n, hp2, q - n, ?_, hR2⟩
     rcases List.mem_append.1 hq with hq | hq
     · have := (h5 _ hq).2
       have := rise Wd _ _ hpn hR2
       omega
     · exact mem_shL.1 hq
 · rintro (⟨_, hw, p, hp, q, hq, hR⟩ | ⟨_, hw, p, hp, q, hq, hR⟩)
   · exact ⟨hM, hw, p, List.mem_append.2 (Or.inl hp), q, List.mem_append.2 (Or.inl hq), (L p q (h4 p hp).2).2 hR⟩
   · have hpn := (k4 _ hp).1
     refine ⟨hM, hw, p + n, List.mem_append.2 (Or.inr (mem_shL.2 (by rw [show p + n - n = p by omega]; exact hp))), q + n, List.mem_append.2 (Or.inr (mem_shL.2 (by rw [show q + n - n = q by omega]; exact hq))), (H (p + n) (q + n) (by omega)).2 ?_⟩
     rw [show p + n - n = p by omega, show q + n - n = q by omega]; exact hR
end Go.Proofs.YtchoopnjckcohaaGreatDoor
namespace Go.Proofs.YtchoopnjckcohaaGreatDoor
open Go.RowKit Go.Maps Go.Shelf
attribute [local go_sem] Oper.semAt_some
theorem reverse_bad (w : World) (n m : Int) (a1 a2 a3 : Option Addr) (c1 c2 c3 : Nat) (St Fi : List Int) (Ed : List EdT) (hA : Hid (RdA w a1 a2 a3 St Fi Ed)) (h1 : St.length ≤ 4194304) (h2 : Fi.length ≤ 4194304) (h3 : Ed.length ≤ 4194304) (em : mayA n m St Fi Ed = false) :
 Calls Tryz.prog 61 #[.agg #[.int .i64 n, .int .i64 m, .slice a1 St.length c1, .slice a2 Fi.length c2, .slice a3 Ed.length c3]] w fun e w' => e = .returned (.tuple #[.agg #[.int .i64 0, .int .i64 0, .slice none 0 0, .slice none 0 0, .slice none 0 0], .int .i64 2]) ∧ Below w.heap.size w w' := by
 obtain ⟨W0, hW0⟩ : ∃ W0, (w.alloc (.cells #[.int .i64 n, .int .i64 m, .slice a1 St.length c1, .slice a2 Fi.length c2, .slice a3 Ed.length c3] 25)).alloc (.cells #[.int .i64 0, .int .i64 0, .slice none 0 0, .slice none 0 0, .slice none 0 0] 25) = W0 := ⟨_, rfl⟩
 have HD := hide (box2 w #[.int .i64 n, .int .i64 m, .slice a1 St.length c1, .slice a2 Fi.length c2, .slice a3 Ed.length c3] #[.int .i64 0, .int .i64 0, .slice none 0 0, .slice none 0 0, .slice none 0 0] 25)
 rw [hW0] at HD
 have B0 := HD.out.2.1
 have T1 := valid_any W0 n m a1 a2 a3 c1 c2 c3 St Fi Ed (hide (hA.out.on HD.out.1)) h1 h2 h3
 obtain ⟨k0, k1, k2, k3, k4⟩ := zd5 B0 rfl rfl rfl rfl rfl
 clear B0
 rw [em] at T1
 have T1 : Calls Tryz.prog 75 #[.agg #[.int .i64 n, .int .i64 m, .slice a1 St.length c1, .slice a2 Fi.length c2, .slice a3 Ed.length c3]] W0 fun e w' => e = .returned (.int .i64 2) ∧ Below W0.heap.size W0 w' := T1
 go_enter Tryz.func61, Tryz.ntmps61
 go_upto_region 3 with (go_at_call 75; refine T1.mono ?_; rintro e w1 ⟨rfl, d1⟩)
 have F3 := blk_on HD.out.2.2.1 d1
 obtain ⟨o0, o1, o2, o3, o4⟩ := zd5 F3 rfl rfl rfl rfl rfl
 have f0 : w1.frozen? ⟨w.heap.size + 1, 0, none⟩ = false := fz_of F3
 have f1 : w1.frozen? ⟨w.heap.size + 1, 1, none⟩ = false := fz_of F3
 have f2 : w1.frozen? ⟨w.heap.size + 1, 2, none⟩ = false := fz_of F3
 have f3 : w1.frozen? ⟨w.heap.size + 1, 3, none⟩ = false := fz_of F3
 have f4 : w1.frozen? ⟨w.heap.size + 1, 4, none⟩ = false := fz_of F3
 have O6 := hide (And.intro (set5 w1 (w.heap.size + 1) _ _ _ _ _ (.int .i64 0) (.int .i64 0) (.slice none 0 0) (.slice none 0 0) (.slice none 0 0) 25 F3) (only5 w1 (w.heap.size + 1) (.int .i64 0) (.int .i64 0) (.slice none 0 0) (.slice none 0 0) (.slice none 0 0)))
 clear F3
 go_wp2_with fail
 refine bodyPost_ret (results_c1 (p := 2) (q := 3) (ty := 25) rfl _ _ (w.heap.size + 1) 25 _ (0, 0) _ _ rfl rfl O6.out.1 Tryz.underlying25 rfl (by kernel_rfl)) rfl ?_
 have z0 := HD.out.2.2.2
 have z1 := d1.size
 exact ⟨rfl, (HD.out.1.trans (d1.mono (by omega))).trans (O6.out.2.toBelow (by omega) (fun k hk => by omega))⟩
theorem reverse_ok (w : World) (n m : Int) (a1 a2 a3 : Option Addr) (c1 c2 c3 : Nat) (St Fi : List Int) (Ed : List EdT) (hA : Hid (RdA w a1 a2 a3 St Fi Ed)) (h1 : St.length ≤ 4194304) (h2 : Fi.length ≤ 4194304) (h3 : Ed.length ≤ 4194304) (em : mayA n m St Fi Ed = true) :
 Calls Tryz.prog 61 #[.agg #[.int .i64 n, .int .i64 m, .slice a1 St.length c1, .slice a2 Fi.length c2, .slice a3 Ed.length c3]] w fun e w' => ∃ g1 k1 g2 k2 g3 k3, e = .returned (.tuple #[.agg #[.int .i64 n, .int .i64 m, .slice (some ⟨g1, 0, none⟩) (riseL Fi).length k1, .slice (some ⟨g2, 0, none⟩) (riseL St).length k2, .slice (some ⟨g3, 0, none⟩) (riseE (turnE Ed)).length k3], .int .i64 0]) ∧ Own w.heap.size w' g1 k1 g2 k2 g3 k3 (riseL Fi) (riseL St) (riseE (turnE Ed)) ∧ Below w.heap.size w w' := by
 obtain ⟨W0, hW0⟩ : ∃ W0, (w.alloc (.cells #[.int .i64 n, .int .i64 m, .slice a1 St.length c1, .slice a2 Fi.length c2, .slice a3 Ed.length c3] 25)).alloc (.cells #[.int .i64 0, .int .i64 0, .slice none 0 0, .slice none 0 0, .slice none 0 0] 25) = W0 := ⟨_, rfl⟩
 have HD := hide (box2 w #[.int .i64 n, .int .i64 m, .slice a1 St.length c1, .slice a2 Fi.length c2, .slice a3 Ed.length c3] #[.int .i64 0, .int .i64 0, .slice none 0 0, .slice none 0 0, .slice none 0 0] 25)
 rw [hW0] at HD
 have B0 := HD.out.2.1
 have T1 := valid_any W0 n m a1 a2 a3 c1 c2 c3 St Fi Ed (hide (hA.out.on HD.out.1)) h1 h2 h3
 obtain ⟨k0, k1, k2, k3, k4⟩ := zd5 B0 rfl rfl rfl rfl rfl
 clear B0
 rw [em] at T1
 have T1 : Calls Tryz.prog 75 #[.agg #[.int .i64 n, .int .i64 m, .slice a1 St.length c1, .slice a2 Fi.length c2, .slice a3 Ed.length c3]] W0 fun e w' => e = .returned (.int .i64 0) ∧ Below W0.heap.size W0 w' := T1
 have T2 := hide (fun (w1 : World) (d1 : Below W0.heap.size W0 w1) => turned_any w1 n m a1 a2 a3 c1 c2 c3 St Fi Ed (hide ((hA.out.on HD.out.1).on d1)) h1 h2 h3)
 generalize riseL Fi = S1 at T2 ⊢
 generalize riseL St = F1 at T2 ⊢
 generalize riseE (turnE Ed) = E1 at T2 ⊢
 go_enter Tryz.func61, Tryz.ntmps61
 go_upto_region 4 with (go_at_call 75; refine T1.mono ?_; rintro e w1 ⟨rfl, d1⟩)
 have B1 := blk_on HD.out.2.1 d1
 have H1 := hide (And.intro d1 (blk_on HD.out.2.2.1 d1))
 obtain ⟨y0, y1, y2, y3, y4⟩ := zd5 B1 rfl rfl rfl rfl rfl
 clear k0 k1 k2 k3 k4 B1 d1 T1 hA
 go_wp2_with (go_at_call 99; refine (T2.out w1 H1.out.1).mono ?_; rintro e w2 ⟨g1, k1, g2, k2, g3, k3, rfl, hO, d2⟩; have F3 := blk_on H1.out.2 d2; obtain ⟨o0, o1, o2, o3, o4⟩ := zd5 F3 rfl rfl rfl rfl rfl; have f0 : w2.frozen? ⟨w.heap.size + 1, 0, none⟩ = false := fz_of F3; have f1 : w2.frozen? ⟨w.heap.size + 1, 1, none⟩ = false := fz_of F3; have f2 : w2.frozen? ⟨w.heap.size + 1, 2, none⟩ = false := fz_of F3; have f3 : w2.frozen? ⟨w.heap.size + 1, 3, none⟩ = false := fz_of F3; have f4 : w2.frozen? ⟨w.heap.size + 1, 4, none⟩ = false := fz_of F3; have H2 := hide (And.intro hO (And.intro d2 F3)); clear hO d2 F3)
 have O6 := hide (And.intro (set5 w2 (w.heap.size + 1) _ _ _ _ _ (.int .i64 n) (.int .i64 m) (.slice (some ⟨g1, 0, none⟩) S1.length k1) (.slice (some ⟨g2, 0, none⟩) F1.length k2) (.slice (some ⟨g3, 0, none⟩) E1.length k3) 25 H2.out.2.2) (only5 w2 (w.heap.size + 1) (.int .i64 n) (.int .i64 m) (.slice (some ⟨g1, 0, none⟩) S1.length k1) (.slice (some ⟨g2, 0, none⟩) F1.length k2) (.slice (some ⟨g3, 0, none⟩) E1.length k3)))
 refine bodyPost_ret (results_c1 (p := 2) (q := 3) (ty := 25) rfl _ _ (w.heap.size + 1) 25 _ (0, 0) _ _ rfl rfl O6.out.1 Tryz.underlying25 rfl (by kernel_rfl)) rfl ?_
 have z0 := HD.out.2.2.2
 have z1 := H1.out.1.size
 have z2 := H2.out.2.1.size
 obtain ⟨o1, o2, o3, n1, n2, n3⟩ := H2.out.1
 have q1 := own_at o1
 have q2 := own_at o2
 have q3 := own_at o3
 refine ⟨g1, k1, g2, k2, g3, k3, rfl, ⟨own_only (ownsRow_base (base := w1.heap.size) o1 (by omega)) O6.out.2 (by omega), own_only (ownsRow_base (base := w1.heap.size) o2 (by omega)) O6.out.2 (by omega), own_only (ownsRow_base (base := w1.heap.size) o3 (by omega)) O6.out.2 (by omega), n1, n2, n3⟩, ?_⟩
 exact ((HD.out.1.trans (H1.out.1.mono (by omega))).trans (H2.out.2.1.mono (by omega))).trans (O6.out.2.toBelow (by omega) (fun k hk => by omega))
theorem rd_own {W : World} {B n : Nat} {v : Value} {X : List Int} (h : W.ownsRow B 3 1 v n (X.map (Value.int .i64))) : ∃ ao c, v = .slice ao X.length c ∧ RdN W ao X := by
 have hn : n = X.length := by have := h.1; simpa using this.symm
 subst hn
 rcases h.2 with ⟨hv, h0⟩ | ⟨g, cap, cur, hv, _⟩
 · exact ⟨none, 0, by rw [hv, h0], fun j hj => by omega⟩
 · subst hv
   exact ⟨some ⟨g, 0, none⟩, cap, rfl, rdN_own h (List.prefix_refl X)⟩
end Go.Proofs.YtchoopnjckcohaaGreatDoor
