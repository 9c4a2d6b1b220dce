import Derived.Test.YtchoopnjckcohaaGreatDoorQbh
set_option maxRecDepth 100000
set_option maxHeartbeats 40000000
namespace Go.Proofs.YtchoopnjckcohaaGreatDoor
open Go.RowKit Go.Maps Go.Shelf
theorem tkF_tkB (n m : Int) (St Fi : List Int) (Ed : List EdT) (W : List Int) : tkF n m St Fi Ed W = tkB n m St Fi Ed W := by
 rw [Bool.eq_iff_iff, tkF_iff]
 unfold tkB
 simp only [decide_eq_true_eq, wordErr_iff, and_assoc]
theorem tk_uni {n m n' m' : Int} {Sa Fa : List Int} {Ea : List EdT} {Sb Fb : List Int} {Eb : List EdT} (h0 : (uniAns n m n' m' Sa Fa Ea Sb Fb Eb).er = 0) (W : List Int) : tkA (uniAns n m n' m' Sa Fa Ea Sb Fb Eb) W = (tkF n m Sa Fa Ea W || tkF n' m' Sb Fb Eb W) := by
 have hu : unErr n m n' m' Sa Fa Ea Sb Fb Eb = 0 := by
  by_cases e : unErr n m n' m' Sa Fa Ea Sb Fb Eb = 0
  · exact e
  · unfold uniAns at h0
    rw [if_neg e] at h0
    exact h0
 obtain ⟨em, em', rfl, hnn, hl⟩ := un_zero hu
 unfold uniAns
 rw [if_pos hu, tkF_tkB, tkF_tkB]
 unfold tkA
 simp only
 rw [tkF_tkB]
 exact (tk_union em em' hnn hl W).2
theorem stk_mono {L L' : List Int → Prop} {W : List Int} (h : Stk L W) : ∀ {m : Int}, W.all (inB m) = true → (∀ U, U.all (inB m) = true → L U → L' U) → Stk L' W := by
 induction h with
 | nil => intro m _ _; exact .nil
 | cons h1 h2 _ ih =>
  intro m hW q
  obtain ⟨w1, w2⟩ := all_app.1 hW
  exact .cons h1 (q _ w1 h2) (ih w2 q)
theorem tk_sta {n m : Int} {Sa Fa : List Int} {Ea : List EdT} (h0 : (staA n m Sa Fa Ea).er = 0) (W : List Int) (hW : W.all (inB m) = true) : tkA (staA n m Sa Fa Ea) W = true ↔ Stk (fun U => tkF n m Sa Fa Ea U = true) W := by
 unfold staA at h0 ⊢
 by_cases em : mayA n m Sa Fa Ea = true
 case neg => rw [if_neg em] at h0; cases h0
 rw [if_pos em] at h0 ⊢
 by_cases hn : n < 4096
 case neg => rw [if_neg hn] at h0; cases h0
 rw [if_pos hn] at h0 ⊢
 obtain ⟨N, k, rfl, rfl, hN, hk⟩ := mk_nat em
 simp only [Int.toNat_natCast] at h0 ⊢
 have r1 := may_rise em
 have p1 := may_parts r1
 have s1 := may_st r1
 have tr1 : ∀ U, Tak Sa Fa Ea U ↔ Tak (riseL Sa) (riseL Fa) (riseE Ea) U := fun U => tak_rise.symm
 have hF : ∀ e ∈ movE (riseE Ea) 1, (0 ≤ e.1 ∧ e.1 < ((N + 1 : Nat) : Int)) ∧ (0 ≤ e.2.1 ∧ e.2.1 < (k : Int)) ∧ (0 ≤ e.2.2 ∧ e.2.2 < ((N + 1 : Nat) : Int)) := by
  intro e he
  unfold movE at he
  obtain ⟨e', he', rfl⟩ := List.mem_map.1 he
  have := p1.2.2.2.2.2 e' he'
  simp only
  omega
 have hF1 : ∀ e ∈ movE (riseE Ea) 1, 1 ≤ e.1 ∧ 1 ≤ e.2.2 := by
  intro e he
  unfold movE at he
  obtain ⟨e', he', rfl⟩ := List.mem_map.1 he
  have := p1.2.2.2.2.2 e' he'
  simp only
  omega
 have hB := mem_brL (Fi := movN (riseL Fa) 1) (Bg := movN (riseL Sa) 1) hF
 unfold agaA at h0 ⊢
 by_cases hbig : 65536 < (brL (movE (riseE Ea) 1) (movN (riseL Fa) 1) (movN (riseL Sa) 1) k (N + 1)).length
 · rw [if_pos hbig] at h0; cases h0
 rw [if_neg hbig]
 unfold tkA
 simp only
 rw [tkF_iff]
 have sm : ∀ x ∈ movN (riseL Sa) 1, 1 ≤ x ∧ x < (N : Int) + 1 := fun x hx => by have := s1.1 _ (mem_mov.1 hx); omega
 have fm : ∀ x ∈ movN (riseL Fa) 1, 1 ≤ x ∧ x < (N : Int) + 1 := fun x hx => by have := s1.2 _ (mem_mov.1 hx); omega
 have tk1 : ∀ U, Tak (movN (riseL Sa) 1) (movN (riseL Fa) 1) (movE (riseE Ea) 1) U ↔ Tak Sa Fa Ea U := by
  intro U
  rw [tr1]
  unfold Tak
  constructor
  · rintro ⟨p, hp, q, hq, hr⟩
    exact ⟨p - 1, mem_mov.1 hp, q - 1, mem_mov.1 hq, (rch_shift U p q).1 hr⟩
  · rintro ⟨p, hp, q, hq, hr⟩
    refine ⟨p + 1, mem_mov.2 (by rw [show p + 1 - 1 = p by omega]; exact hp), q + 1, mem_mov.2 (by rw [show q + 1 - 1 = q by omega]; exact hq), (rch_shift U _ _).2 ?_⟩
    rw [show p + 1 - 1 = p by omega, show q + 1 - 1 = q by omega]
    exact hr
 generalize brL (movE (riseE Ea) 1) (movN (riseL Fa) 1) (movN (riseL Sa) 1) k (N + 1) = Br at *
 generalize movN (riseL Sa) 1 = S at *
 generalize movN (riseL Fa) 1 = F at *
 generalize movE (riseE Ea) 1 = E at *
 have hBr : ∀ e ∈ Br, 1 ≤ e.1 ∧ 1 ≤ e.2.2 := by
  intro e he
  rcases (hB e).1 he with h | ⟨⟨q, h, _⟩, h2⟩
  · exact hF1 e h
  · exact ⟨(hF1 _ h).1, (sm _ h2).1⟩
 have up : ∀ (W : List Int) (p q : Int), 1 ≤ p → Rch Br W p q → 1 ≤ q := by
  intro W
  induction W with
  | nil => intro p q hp h; cases h; exact hp
  | cons y W ih => intro p q _ ⟨r, hr, h⟩; exact ih r q (hBr _ hr).2 h
 have hT : Tak ([0] ++ S) ([0] ++ F) Br W ↔ W = [] ∨ Tak S F Br W := by
  unfold Tak
  constructor
  · rintro ⟨p, hp, q, hq, hr⟩
    rcases List.mem_append.1 hp with h | h
    · rw [List.mem_singleton] at h
      subst h
      cases W with
      | nil => exact .inl rfl
      | cons y W =>
       obtain ⟨r, hr, _⟩ := hr
       have := (hBr _ hr).1
       simp only at this
       omega
    · rcases List.mem_append.1 hq with h2 | h2
      · rw [List.mem_singleton] at h2
        subst h2
        have := up W p 0 (sm p h).1 hr
        omega
      · exact .inr ⟨p, h, q, h2, hr⟩
  · rintro (rfl | ⟨p, hp, q, hq, hr⟩)
    · exact ⟨0, by simp, 0, by simp, rfl⟩
    · exact ⟨p, List.mem_append_right _ hp, q, List.mem_append_right _ hq, hr⟩
 have hmay : mayA ((N : Int) + 1) (k : Int) ([0] ++ S) ([0] ++ F) Br = true := by
  refine may_of (by omega) (by omega) (by omega) (fun x hx => ?_) (fun x hx => ?_) (fun e he => ?_)
  · rcases List.mem_append.1 hx with h | h
    · rw [List.mem_singleton] at h; omega
    · have := sm x h; omega
  · rcases List.mem_append.1 hx with h | h
    · rw [List.mem_singleton] at h; omega
    · have := fm x h; omega
  · rcases (hB e).1 he with h | ⟨⟨q, h, _⟩, h2⟩
    · have := hF e h; omega
    · have a := hF _ h
      have b := sm _ h2
      simp only at a
      omega
 constructor
 · rintro ⟨_, _, h⟩
   refine stk_mono ((sta_words hB W.length W (Nat.le_refl _)).1 (hT.1 h)) hW (fun U hU h => ?_)
   exact tkF_iff.2 ⟨em, hU, (tk1 U).1 h⟩
 · intro h
   refine ⟨hmay, hW, hT.2 ((sta_words hB W.length W (Nat.le_refl _)).2 (stk_mono h hW (fun U _ h => ?_)))⟩
   exact (tk1 U).2 (tkF_iff.1 h).2.2
theorem tk_lef {n m : Int} {Sa Fa : List Int} {Ea : List EdT} {V : List Int} (h0 : (lefA n m Sa Fa Ea V).er = 0) (W : List Int) : tkA (lefA n m Sa Fa Ea V) W = tkF n m Sa Fa Ea (V ++ W) := by
 unfold lefA at h0 ⊢
 by_cases e : wordErr n m Sa Fa Ea V = 0
 case neg => rw [if_neg e] at h0; exact absurd h0 e
 rw [if_pos e]
 obtain ⟨em, hV⟩ := wordErr_iff.1 e
 unfold tkA
 simp only
 rw [Bool.eq_iff_iff, tkF_iff, tkF_iff]
 have p1 := may_parts em
 have s1 := may_st em
 have in1 := rch_from (E := Ea) (n := n) (fun e he => by have := p1.2.2.2.2.2 e he; omega)
 have hmay : mayA n m (aftL Ea (riseL Sa) V) (riseL Fa) (riseE Ea) = true := by
  have r := may_parts (may_rise em)
  refine may_of p1.1 p1.2.1 r.2.2.1 (fun x hx => ?_) (may_st (may_rise em)).2 r.2.2.2.2.2
  obtain ⟨p, hp, hr⟩ := (aftL_iff V _ x).1 hx
  exact in1 V p x (s1.1 p ((riseL_iff _ _).1 hp)) hr
 rw [all_app]
 constructor
 · rintro ⟨_, hw, p, hp, q, hq, hr⟩
   obtain ⟨p0, hp0, hr0⟩ := (aftL_iff V _ p).1 hp
   exact ⟨em, ⟨hV, hw⟩, p0, (riseL_iff _ _).1 hp0, q, (riseL_iff _ _).1 hq, (rch_app V W p0 q).2 ⟨p, hr0, (rch_rise W p q).1 hr⟩⟩
 · rintro ⟨_, ⟨_, hw⟩, p, hp, q, hq, hr⟩
   obtain ⟨r, r1, r2⟩ := (rch_app V W p q).1 hr
   exact ⟨hmay, hw, r, (aftL_iff V _ r).2 ⟨p, (riseL_iff _ _).2 hp, r1⟩, q, (riseL_iff _ _).2 hq, (rch_rise W r q).2 r2⟩
theorem tk_rig {n m : Int} {Sa Fa : List Int} {Ea : List EdT} {V : List Int} (h0 : (rigA n m Sa Fa Ea V).er = 0) (W : List Int) : tkA (rigA n m Sa Fa Ea V) W = tkF n m Sa Fa Ea (W ++ V) := by
 unfold rigA at h0 ⊢
 by_cases e : wordErr n m Sa Fa Ea V = 0
 case neg => rw [if_neg e] at h0; exact absurd h0 e
 rw [if_pos e]
 obtain ⟨em, hV⟩ := wordErr_iff.1 e
 unfold tkA
 simp only
 rw [Bool.eq_iff_iff, tkF_iff, tkF_iff]
 have p1 := may_parts em
 have s1 := may_st em
 have key : ∀ x, x ∈ aftL (riseE (turnE Ea)) (riseL Fa) V.reverse ↔ ∃ q ∈ Fa, Rch Ea V x q := by
  intro x
  rw [aftL_iff]
  constructor
  · rintro ⟨q, hq, hr⟩
    exact ⟨q, (riseL_iff _ _).1 hq, (rch_turn V x q).1 ((rch_rise _ _ _).1 hr)⟩
  · rintro ⟨q, hq, hr⟩
    exact ⟨q, (riseL_iff _ _).2 hq, (rch_rise _ _ _).2 ((rch_turn V x q).2 hr)⟩
 have back : ∀ (V : List Int) (x q : Int), 0 ≤ q ∧ q < n → Rch Ea V x q → 0 ≤ x ∧ x < n := by
  intro V
  cases V with
  | nil => intro x q hq h; cases h; exact hq
  | cons y V => intro x q _ ⟨r, hr, _⟩; have := p1.2.2.2.2.2 _ hr; simp only at this; omega
 have hmay : mayA n m (riseL Sa) (aftL (riseE (turnE Ea)) (riseL Fa) V.reverse) (riseE Ea) = true := by
  have r := may_parts (may_rise em)
  refine may_of p1.1 p1.2.1 r.2.2.1 (may_st (may_rise em)).1 (fun x hx => ?_) r.2.2.2.2.2
  obtain ⟨q, hq, hr⟩ := (key x).1 hx
  exact back V x q (s1.2 q hq) hr
 rw [all_app]
 constructor
 · rintro ⟨_, hw, p, hp, q, hq, hr⟩
   obtain ⟨q0, hq0, hr0⟩ := (key q).1 hq
   exact ⟨em, ⟨hw, hV⟩, p, (riseL_iff _ _).1 hp, q0, hq0, (rch_app W V p q0).2 ⟨q, (rch_rise W p q).1 hr, hr0⟩⟩
 · rintro ⟨_, ⟨hw, _⟩, p, hp, q, hq, hr⟩
   obtain ⟨r, r1, r2⟩ := (rch_app W V p q).1 hr
   exact ⟨hmay, hw, p, (riseL_iff _ _).2 hp, r, (key r).2 ⟨q, hq, r2⟩, (rch_rise W p r).2 r1⟩
theorem mem_oneE {V : List Int} {a s r : Int} : (a, s, r) ∈ oneE V ↔ ∃ k : Nat, V[k]? = some s ∧ a = (k : Int) ∧ r = (k : Int) + 1 := by
 unfold oneE
 rw [List.mem_map]
 constructor
 · rintro ⟨⟨x, k⟩, h, e⟩
   rw [List.mem_zipIdx_iff_getElem?] at h
   simp only [Prod.mk.injEq] at e
   obtain ⟨rfl, rfl, rfl⟩ := e
   exact ⟨k, h, rfl, rfl⟩
 · rintro ⟨k, h, rfl, rfl⟩
   exact ⟨(s, k), List.mem_zipIdx_iff_getElem?.2 h, rfl⟩
theorem rch_one {V : List Int} : ∀ (W : List Int) (i : Nat) (q : Int), i ≤ V.length → (Rch (oneE V) W (i : Int) q ↔ ∃ T, V.drop i = W ++ T ∧ q = ((i + W.length : Nat) : Int))
 | [], i, q, _ => by
  simp only [Rch, List.nil_append, List.length_nil, Nat.add_zero]
  exact ⟨fun h => ⟨V.drop i, rfl, h.symm⟩, fun ⟨_, _, h⟩ => h.symm⟩
 | y :: W, i, q, hi => by
  simp only [Rch]
  constructor
  · rintro ⟨r, hr, hR⟩
    obtain ⟨k, h1, h2, rfl⟩ := mem_oneE.1 hr
    obtain rfl : k = i := by omega
    obtain ⟨hk, h1⟩ := List.getElem?_eq_some_iff.1 h1
    obtain ⟨T, e1, e2⟩ := (rch_one W (k + 1) q hk).1 (by rw [Int.natCast_add]; exact hR)
    refine ⟨T, ?_, ?_⟩
    · rw [List.drop_eq_getElem_cons hk, h1, e1, List.cons_append]
    · rw [e2, List.length_cons]; omega
  · rintro ⟨T, e1, e2⟩
    have hk : i < V.length := by
     by_cases h : i < V.length
     · exact h
     · rw [List.drop_eq_nil_of_le (by omega)] at e1
       cases e1
    rw [List.drop_eq_getElem_cons hk, List.cons_append] at e1
    injection e1 with e3 e4
    refine ⟨(i : Int) + 1, mem_oneE.2 ⟨i, by rw [List.getElem?_eq_getElem hk, e3], rfl, rfl⟩, ?_⟩
    have := (rch_one W (i + 1) q hk).2 ⟨T, e4, by rw [e2, List.length_cons]; omega⟩
    rwa [Int.natCast_add] at this
theorem tk_one {V : List Int} {s : Int} (h0 : (onA V s).er = 0) (W : List Int) : tkA (onA V s) W = true ↔ W = V := by
 unfold onA at h0 ⊢
 by_cases e1 : V.any (badS s) = true
 · rw [if_pos e1] at h0; cases h0
 rw [if_neg e1] at h0 ⊢
 by_cases e2 : symOk s = true
 case neg => rw [if_neg e2] at h0; cases h0
 rw [if_pos e2] at h0 ⊢
 by_cases e3 : V.length < 4096
 case neg => rw [if_neg e3] at h0; cases h0
 rw [if_pos e3]
 have hV := bad_all.1 (Bool.eq_false_iff.2 e1)
 have hs : 0 ≤ s ∧ s ≤ 128 := by unfold symOk at e2; simpa using e2
 unfold tkA
 simp only
 rw [tkF_iff]
 unfold Tak
 constructor
 · rintro ⟨_, _, p, hp, q, hq, hr⟩
   rw [List.mem_singleton] at hp hq
   subst hp hq
   obtain ⟨T, e4, e5⟩ := (rch_one W 0 _ (Nat.zero_le _)).1 hr
   rw [List.drop_zero] at e4
   have : T = [] := by
    apply List.eq_nil_of_length_eq_zero
    have := congrArg List.length e4
    rw [List.length_append] at this
    omega
   rw [e4, this, List.append_nil]
 · rintro rfl
   refine ⟨may_of (by omega) (by omega) (by rw [oneE_len]; omega) (fun x hx => by rw [List.mem_singleton] at hx; omega) (fun x hx => by rw [List.mem_singleton] at hx; omega) (fun e he => ?_), all_rng.2 hV, 0, by simp, (W.length : Int), by simp, (rch_one W 0 _ (Nat.zero_le _)).2 ⟨[], by simp, by simp⟩⟩
   obtain ⟨k, h1, h2, h3⟩ := mem_oneE.1 (show (e.1, e.2.1, e.2.2) ∈ oneE W from he)
   have hk := (List.getElem?_eq_some_iff.1 h1).1
   have := hV _ (List.mem_of_getElem? h1)
   omega
theorem tk_all {s : Int} (h0 : (alA s).er = 0) (W : List Int) (hW : W.all (inB s) = true) : tkA (alA s) W = true := by
 unfold alA at h0 ⊢
 by_cases e2 : symOk s = true
 case neg => rw [if_neg e2] at h0; cases h0
 rw [if_pos e2]
 obtain ⟨k, rfl, hk⟩ := sym_nat e2
 unfold tkA
 simp only
 rw [tkF_iff]
 have hm : ∀ e, e ∈ allE k ↔ ∃ j : Nat, j < k ∧ e = (0, (j : Int), 0) := by
  intro e
  unfold allE
  simp only [List.mem_map, List.mem_range]
  exact exists_congr fun j => and_congr_right fun _ => eq_comm
 rw [Int.toNat_natCast]
 refine ⟨may_of (by omega) (by omega) (by rw [allE_len]; omega) (fun x hx => by rw [List.mem_singleton] at hx; omega) (fun x hx => by rw [List.mem_singleton] at hx; omega) (fun e he => ?_), hW, 0, by simp, 0, by simp, ?_⟩
 · obtain ⟨j, hj, rfl⟩ := (hm e).1 he
   simp only
   omega
 · have hw := all_rng.1 hW
   clear hW
   induction W with
   | nil => rfl
   | cons y W ih =>
    obtain ⟨y0, y1⟩ := hw y (by simp)
    obtain ⟨j, rfl⟩ := Int.eq_ofNat_of_zero_le y0
    exact ⟨0, (hm _).2 ⟨j, by omega, rfl⟩, ih (fun x hx => hw x (by simp [hx]))⟩
theorem tk_non {s : Int} (W : List Int) : tkA (noA s) W = false := by
 rw [Bool.eq_false_iff]
 unfold noA tkA
 intro h
 split at h
 · obtain ⟨_, _, p, hp, _⟩ := tkF_iff.1 h
   simp at hp
 · unfold badA at h
   obtain ⟨_, _, p, hp, _⟩ := tkF_iff.1 h
   simp at hp
end Go.Proofs.YtchoopnjckcohaaGreatDoor
namespace Go.Proofs.YtchoopnjckcohaaGreatDoor
open Go.RowKit Go.Maps Go.Shelf
attribute [local go_sem] Oper.semAt_some
def splB (LA LB : List Int → Bool) (W : List Int) : Bool := (List.range (W.length + 1)).any fun i => LA (W.take i) && LB (W.drop i)
theorem spl_iff {LA LB : List Int → Bool} {W : List Int} : splB LA LB W = true ↔ ∃ U V, W = U ++ V ∧ LA U = true ∧ LB V = true := by
 unfold splB
 rw [List.any_eq_true]
 constructor
 · rintro ⟨i, _, h⟩
   rw [Bool.and_eq_true] at h
   exact ⟨W.take i, W.drop i, (List.take_append_drop i W).symm, h.1, h.2⟩
 · rintro ⟨U, V, rfl, h1, h2⟩
   refine ⟨U.length, List.mem_range.2 (by rw [List.length_append]; omega), ?_⟩
   rw [List.take_left, List.drop_left, h1, h2]
   rfl
theorem spl_no {LA LB : List Int → Bool} {W : List Int} (h : ∀ j, j < W.length + 1 → (LA (W.take j) && LB (W.drop j)) = false) : splB LA LB W = false := by
 unfold splB
 rw [List.any_eq_false]
 intro i hi
 rw [h i (List.mem_range.1 hi)]
 simp
theorem spl_yes {LA LB : List Int → Bool} {W : List Int} {j : Nat} (hj : j < W.length + 1) (h : (LA (W.take j) && LB (W.drop j)) = true) : splB LA LB W = true := by
 unfold splB
 rw [List.any_eq_true]
 exact ⟨j, List.mem_range.2 hj, h⟩
theorem split_any (w : World) (n m n' m' : Int) (a1 a2 a3 b1 b2 b3 : Option Addr) (c1 c2 c3 d1 d2 d3 n1 n2 n3 l1 l2 l3 : Nat) (Sa Fa Sb Fb : List Int) (Ea Eb : List EdT) (en : Hid (Sa.length = n1 ∧ Fa.length = n2 ∧ Ea.length = n3 ∧ Sb.length = l1 ∧ Fb.length = l2 ∧ Eb.length = l3)) (hA : Hid (RdA w a1 a2 a3 Sa Fa Ea)) (hB : Hid (RdA w b1 b2 b3 Sb Fb Eb)) (h1 : n1 ≤ 4194304) (h2 : n2 ≤ 4194304) (h3 : n3 ≤ 4194304) (h4 : l1 ≤ 4194304) (h5 : l2 ≤ 4194304) (h6 : l3 ≤ 4194304) (aw : Option Addr) (nw cw : Nat) (Wd : List Int) (HNW : Hid (Wd.length = nw)) (hU : Hid (RdN w aw Wd)) (hcw : nw ≤ cw) (hnw : nw ≤ 4194304) :
 Calls Tryz.prog 30 #[.agg #[.int .i64 n, .int .i64 m, .slice a1 n1 c1, .slice a2 n2 c2, .slice a3 n3 c3], .agg #[.int .i64 n', .int .i64 m', .slice b1 l1 d1, .slice b2 l2 d2, .slice b3 l3 d3], .slice aw nw cw] w fun e w' => e = .returned (.bool (splB (tkF n m Sa Fa Ea) (tkF n' m' Sb Fb Eb) Wd)) ∧ Below w.heap.size w w' := by
 obtain ⟨W0, hW0⟩ : ∃ W0, (w.alloc (.cells #[.int .i64 n, .int .i64 m, .slice a1 n1 c1, .slice a2 n2 c2, .slice a3 n3 c3] 25)).alloc (.cells #[.int .i64 n', .int .i64 m', .slice b1 l1 d1, .slice b2 l2 d2, .slice b3 l3 d3] 25) = W0 := ⟨_, rfl⟩
 have HD := hide (box2 w #[.int .i64 n, .int .i64 m, .slice a1 n1 c1, .slice a2 n2 c2, .slice a3 n3 c3] #[.int .i64 n', .int .i64 m', .slice b1 l1 d1, .slice b2 l2 d2, .slice b3 l3 d3] 25)
 rw [hW0] at HD
 go_enter Tryz.func30, Tryz.ntmps30
 go_wp2_with fail
 clear hW0
 go_loopw [7] (fun iv wr => ∃ i : Nat, i ≤ nw + 1 ∧ iv = .int .i64 (i : Int) ∧ Hid (Below W0.heap.size W0 wr ∧ ∀ j, j < i → ((tkF n m Sa Fa Ea) (Wd.take j) && (tkF n' m' Sb Fb Eb) (Wd.drop j)) = false)) (fun iv _ => nw + 1 - (intOf iv).toNat)
 case atStart => exact ⟨0, Nat.zero_le _, rfl, hide ⟨Below.refl _ _, fun j hj => by omega⟩⟩
 case round =>
  obtain ⟨i, hi, rfl, HY⟩ := hrel
  by_cases hle : i ≤ nw
  · have i1 : (i : Int) ≤ (nw : Int) := by omega
    have HW := hide HY.out.1
    have TA : Hid (∀ W, Below wr.heap.size wr W → ∀ (ad : Option Addr) (c : Nat), RdN W ad (Wd.take i) → Calls Tryz.prog 11 #[.agg #[.int .i64 n, .int .i64 m, .slice a1 n1 c1, .slice a2 n2 c2, .slice a3 n3 c3], .slice ad i c] W fun e w' => e = .returned (.bool ((tkF n m Sa Fa Ea) (Wd.take i))) ∧ Below W.heap.size W w') := hide (fun W d ad c hr => by
     have q := ltakes_any W n m a1 a2 a3 c1 c2 c3 Sa Fa Ea ad c (Wd.take i) (hide (hA.out.on (HD.out.1.trans ((HW.out.trans (d.mono HW.out.size)).mono HD.out.1.size)))) (hide hr) (by have := en.out; omega) (by have := en.out; omega) (by have := en.out; omega) (by rw [List.length_take]; omega)
     rw [en.out.1, en.out.2.1, en.out.2.2.1, List.length_take, HNW.out, Nat.min_eq_left hle] at q
     exact q)
    have TB : Hid (∀ W, Below wr.heap.size wr W → ∀ (ad : Option Addr) (c : Nat), RdN W ad (Wd.drop i) → Calls Tryz.prog 11 #[.agg #[.int .i64 n', .int .i64 m', .slice b1 l1 d1, .slice b2 l2 d2, .slice b3 l3 d3], .slice ad (nw - i) c] W fun e w' => e = .returned (.bool ((tkF n' m' Sb Fb Eb) (Wd.drop i))) ∧ Below W.heap.size W w') := hide (fun W d ad c hr => by
     have q := ltakes_any W n' m' b1 b2 b3 d1 d2 d3 Sb Fb Eb ad c (Wd.drop i) (hide (hB.out.on (HD.out.1.trans ((HW.out.trans (d.mono HW.out.size)).mono HD.out.1.size)))) (hide hr) (by have := en.out; omega) (by have := en.out; omega) (by have := en.out; omega) (by rw [List.length_drop, HNW.out]; omega)
     rw [en.out.2.2.2.1, en.out.2.2.2.2.1, en.out.2.2.2.2.2, List.length_drop, HNW.out] at q
     exact q)
    obtain ⟨va, hva⟩ : ∃ v, (tkF n m Sa Fa Ea) (Wd.take i) = v := ⟨_, rfl⟩
    obtain ⟨vb, hvb⟩ : ∃ v, (tkF n' m' Sb Fb Eb) (Wd.drop i) = v := ⟨_, rfl⟩
    rw [hva] at TA
    rw [hvb] at TB
    have HV := hide (And.intro hva hvb)
    clear hva hvb
    go_upto_region 4 with fail
    go_cut [25] (fun v W => v = .bool (va && vb) ∧ Hid (Below W0.heap.size W0 W))
    case first =>
     cases va with
     | false =>
      have hmo : MonIL 0 [vI 0 (.agg #[.int .i64 n, .int .i64 m, .slice a1 n1 c1, .slice a2 n2 c2, .slice a3 n3 c3]), vI 1 (.slice aw nw cw), vI 2 (.int .i64 (i : Int)), pI 3 (wdP i (Wd.take i)), vI 4 (.bool false), vI 5 (.bool false), vI 6 (undef), vI 7 (undef), vI 8 (undef), vI 9 (undef), vI 10 (undef), vI 11 (.bool false)] := ⟨vI_mono _ _, vI_mono _ _, vI_mono _ _, pI_mono wdP_mono, vI_mono _ _, vI_mono _ _, vI_mono _ _, vI_mono _ _, vI_mono _ _, vI_mono _ _, vI_mono _ _, vI_mono _ _, trivial⟩
      refine wp_region_sl _ (by kernel_rfl) (by kernel_rfl) (by kernel_rfl) (by kernel_rfl) hmo ⟨?o0, ?o1, ?o2, ?o3, ?o4, ?o5, ?o6, ?o7, ?o8, ?o9, ?o10, ?o11, trivial⟩ ?fin
      case o0 =>
       intro At yy W hy hb d hd K hK
       obtain ⟨s3, s3'⟩ := zsb (hb 3 rfl : _ = .pointer (some ⟨w.heap.size, 0, none⟩))
       clear hd hy hb
       have bx1 := blk_on HD.out.2.1 (HW.out.trans (d.mono HW.out.size))
       have bx2 := blk_on HD.out.2.2.1 (HW.out.trans (d.mono HW.out.size))
       obtain ⟨y0, y1, y2, y3, y4⟩ := zd5 bx1 rfl rfl rfl rfl rfl
       obtain ⟨x0, x1, x2, x3, x4⟩ := zd5 bx2 rfl rfl rfl rfl rfl
       clear bx1 bx2
       go_simp
       exact zkq hK hmo d (if_pos rfl)
      case o1 =>
       intro At yy W hy hb d hd K hK
       obtain ⟨s2, s2'⟩ := zsb (hb 2 rfl : _ = .slice aw nw cw)
       clear hd hy hb
       go_simp
       exact zkq hK hmo d (if_pos rfl)
      case o2 =>
       intro At yy W hy hb d hd K hK
       obtain ⟨s7, s7'⟩ := zsb (hb 7 rfl : _ = .int .i64 (i : Int))
       clear hd hy hb
       go_simp
       exact zkq hK hmo d (if_pos rfl)
      case o3 =>
       intro At yy W hy hb d hd K hK
       have hkc : i ≤ cw := by omega
       obtain ⟨s15, s15'⟩ := zsg 1 15 .data hy hd rfl
       obtain ⟨s16, s16'⟩ := zsg 2 16 .data hy hd rfl
       clear hd hy hb
       go_simp
       exact zkq hK hmo d ⟨aw, cw, if_pos rfl, rd_take (hU.out.on (HD.out.1.trans ((HW.out.trans (d.mono HW.out.size)).mono HD.out.1.size))) i⟩
      case o4 =>
       intro At yy W hy hb d hd K hK
       have f3 := hd ⟨3, .data⟩ (by simp) rfl rfl
       obtain ⟨_, _, _, _, ad, c, e3, h3⟩ := f3
       obtain ⟨s14, s14'⟩ := zsg 0 14 .data hy hd rfl
       obtain ⟨s17, s17'⟩ := zsb ((hy 3 _ 17 rfl rfl).trans e3)
       clear hd hy hb
       go_simp
       go_wp2_with (go_at_call 11; refine (TA.out _ d ad c h3).mono ?_; rintro e wa ⟨rfl, dR⟩)
       exact hK.out _ wa (stp_of hmo d dR) (if_pos rfl)
      case o5 =>
       intro At yy W hy hb d hd K hK
       obtain ⟨s18, s18'⟩ := zsg 4 18 .data hy hd rfl
       clear hd hy hb
       go_simp
       exact zkq hK hmo d (if_pos rfl)
      case o6 =>
       intro At yy W hy hb d hd K hK
       have g19 := zgd 5 19 hy hd rfl
       clear hd hy hb
       go_simp
       exact zkq hK hmo d (if_pos rfl)
      case o7 =>
       intro At yy W hy hb d hd K hK
       have g19 := zgd 5 19 hy hd rfl
       clear hd hy hb
       go_simp
       exact zkq hK hmo d (if_pos rfl)
      case o8 =>
       intro At yy W hy hb d hd K hK
       have g19 := zgd 5 19 hy hd rfl
       clear hd hy hb
       go_simp
       exact zkq hK hmo d (if_pos rfl)
      case o9 =>
       intro At yy W hy hb d hd K hK
       have e7 := zev (hd ⟨7, .data⟩ (by simp) rfl rfl) rfl
       have e8 := zev (hd ⟨8, .data⟩ (by simp) rfl rfl) rfl
       have g19 := zgd 5 19 hy hd rfl
       clear hd hy hb
       go_simp
       exact zkq hK hmo d (if_pos rfl)
      case o10 =>
       intro At yy W hy hb d hd K hK
       have e6 := zev (hd ⟨6, .data⟩ (by simp) rfl rfl) rfl
       have e9 := zev (hd ⟨9, .data⟩ (by simp) rfl rfl) rfl
       have g19 := zgd 5 19 hy hd rfl
       clear hd hy hb
       go_simp
       exact zkq hK hmo d (if_pos rfl)
      case o11 =>
       intro At yy W hy hb d hd K hK
       obtain ⟨s19, s19'⟩ := zsg 5 19 .data hy hd rfl
       obtain ⟨s24, s24'⟩ := zsg 10 24 .data hy hd rfl
       clear hd hy hb
       go_simp
       exact zkq hK hmo d (if_pos rfl)
      case fin =>
       intro yy lo hi W hM
       show wpList _ _ _ [] _ _
       have e0 := hM.v 0 (by simp) rfl rfl rfl
       have e1 := hM.v 1 (by simp) rfl rfl rfl
       have e2 := hM.v 2 (by simp) rfl rfl rfl
       have e4 := hM.v 4 (by simp) rfl rfl rfl
       have e5 := hM.v 5 (by simp) rfl rfl rfl
       have e6 := hM.v 6 (by simp) rfl rfl rfl
       have e7 := hM.v 7 (by simp) rfl rfl rfl
       have e8 := hM.v 8 (by simp) rfl rfl rfl
       have e9 := hM.v 9 (by simp) rfl rfl rfl
       have e10 := hM.v 10 (by simp) rfl rfl rfl
       have e11 := hM.v 11 (by simp) rfl rfl rfl
       have DW := hide (HW.out.trans (hM.d.mono HW.out.size))
       obtain ⟨_, _, e3, _⟩ := hM.fact 3 (by simp) rfl (notR_all 3 rfl)
       simp only [fills, Act.put, List.take, List.length, List.setIfInBounds_toArray, List.set_cons_zero, List.set_cons_succ, e0, e1, e2, e4, e5, e6, e7, e8, e9, e10, e11, e3]
       clear hM hmo e0 e1 e2 e4 e5 e6 e7 e8 e9 e10 e11
       go_wp2_with fail
       go_meet
       exact ⟨rfl, DW⟩
     | true =>
      have hmo : MonIL 0 [vI 0 (.agg #[.int .i64 n, .int .i64 m, .slice a1 n1 c1, .slice a2 n2 c2, .slice a3 n3 c3]), vI 1 (.slice aw nw cw), vI 2 (.int .i64 (i : Int)), pI 3 (wdP i (Wd.take i)), vI 4 (.bool true), vI 5 (.bool true), vI 6 (.agg #[.int .i64 n', .int .i64 m', .slice b1 l1 d1, .slice b2 l2 d2, .slice b3 l3 d3]), vI 7 (.slice aw nw cw), vI 8 (.int .i64 (i : Int)), pI 9 (wdP (nw - i) (Wd.drop i)), vI 10 (.bool vb), vI 11 (.bool vb)] := ⟨vI_mono _ _, vI_mono _ _, vI_mono _ _, pI_mono wdP_mono, vI_mono _ _, vI_mono _ _, vI_mono _ _, vI_mono _ _, vI_mono _ _, pI_mono wdP_mono, vI_mono _ _, vI_mono _ _, trivial⟩
      refine wp_region_sl _ (by kernel_rfl) (by kernel_rfl) (by kernel_rfl) (by kernel_rfl) hmo ⟨?o0, ?o1, ?o2, ?o3, ?o4, ?o5, ?o6, ?o7, ?o8, ?o9, ?o10, ?o11, trivial⟩ ?fin
      case o0 =>
       intro At yy W hy hb d hd K hK
       obtain ⟨s3, s3'⟩ := zsb (hb 3 rfl : _ = .pointer (some ⟨w.heap.size, 0, none⟩))
       clear hd hy hb
       have bx1 := blk_on HD.out.2.1 (HW.out.trans (d.mono HW.out.size))
       have bx2 := blk_on HD.out.2.2.1 (HW.out.trans (d.mono HW.out.size))
       obtain ⟨y0, y1, y2, y3, y4⟩ := zd5 bx1 rfl rfl rfl rfl rfl
       obtain ⟨x0, x1, x2, x3, x4⟩ := zd5 bx2 rfl rfl rfl rfl rfl
       clear bx1 bx2
       go_simp
       exact zkq hK hmo d (if_pos rfl)
      case o1 =>
       intro At yy W hy hb d hd K hK
       obtain ⟨s2, s2'⟩ := zsb (hb 2 rfl : _ = .slice aw nw cw)
       clear hd hy hb
       go_simp
       exact zkq hK hmo d (if_pos rfl)
      case o2 =>
       intro At yy W hy hb d hd K hK
       obtain ⟨s7, s7'⟩ := zsb (hb 7 rfl : _ = .int .i64 (i : Int))
       clear hd hy hb
       go_simp
       exact zkq hK hmo d (if_pos rfl)
      case o3 =>
       intro At yy W hy hb d hd K hK
       have hkc : i ≤ cw := by omega
       obtain ⟨s15, s15'⟩ := zsg 1 15 .data hy hd rfl
       obtain ⟨s16, s16'⟩ := zsg 2 16 .data hy hd rfl
       clear hd hy hb
       go_simp
       exact zkq hK hmo d ⟨aw, cw, if_pos rfl, rd_take (hU.out.on (HD.out.1.trans ((HW.out.trans (d.mono HW.out.size)).mono HD.out.1.size))) i⟩
      case o4 =>
       intro At yy W hy hb d hd K hK
       have f3 := hd ⟨3, .data⟩ (by simp) rfl rfl
       obtain ⟨_, _, _, _, ad, c, e3, h3⟩ := f3
       obtain ⟨s14, s14'⟩ := zsg 0 14 .data hy hd rfl
       obtain ⟨s17, s17'⟩ := zsb ((hy 3 _ 17 rfl rfl).trans e3)
       clear hd hy hb
       go_simp
       go_wp2_with (go_at_call 11; refine (TA.out _ d ad c h3).mono ?_; rintro e wa ⟨rfl, dR⟩)
       exact hK.out _ wa (stp_of hmo d dR) (if_pos rfl)
      case o5 =>
       intro At yy W hy hb d hd K hK
       obtain ⟨s18, s18'⟩ := zsg 4 18 .data hy hd rfl
       clear hd hy hb
       go_simp
       exact zkq hK hmo d (if_pos rfl)
      case o6 =>
       intro At yy W hy hb d hd K hK
       obtain ⟨s4, s4'⟩ := zsb (hb 4 rfl : _ = .pointer (some ⟨w.heap.size + 1, 0, none⟩))
       have g19 := zgd 5 19 hy hd rfl
       clear hd hy hb
       have bx1 := blk_on HD.out.2.1 (HW.out.trans (d.mono HW.out.size))
       have bx2 := blk_on HD.out.2.2.1 (HW.out.trans (d.mono HW.out.size))
       obtain ⟨y0, y1, y2, y3, y4⟩ := zd5 bx1 rfl rfl rfl rfl rfl
       obtain ⟨x0, x1, x2, x3, x4⟩ := zd5 bx2 rfl rfl rfl rfl rfl
       clear bx1 bx2
       go_simp
       exact zkq hK hmo d (if_pos rfl)
      case o7 =>
       intro At yy W hy hb d hd K hK
       obtain ⟨s2, s2'⟩ := zsb (hb 2 rfl : _ = .slice aw nw cw)
       have g19 := zgd 5 19 hy hd rfl
       clear hd hy hb
       go_simp
       exact zkq hK hmo d (if_pos rfl)
      case o8 =>
       intro At yy W hy hb d hd K hK
       obtain ⟨s7, s7'⟩ := zsb (hb 7 rfl : _ = .int .i64 (i : Int))
       have g19 := zgd 5 19 hy hd rfl
       clear hd hy hb
       go_simp
       exact zkq hK hmo d (if_pos rfl)
      case o9 =>
       intro At yy W hy hb d hd K hK
       obtain ⟨s21, s21'⟩ := zsg 7 21 .data hy hd rfl
       obtain ⟨s22, s22'⟩ := zsg 8 22 .data hy hd rfl
       have g19 := zgd 5 19 hy hd rfl
       clear hd hy hb
       go_simp
       exact zkq hK hmo d ⟨_, _, if_pos rfl, rd_drop (hU.out.on (HD.out.1.trans ((HW.out.trans (d.mono HW.out.size)).mono HD.out.1.size))) (by rw [HNW.out]; exact hcw) (by rw [HNW.out]; exact hle)⟩
      case o10 =>
       intro At yy W hy hb d hd K hK
       have f9 := hd ⟨9, .data⟩ (by simp) rfl rfl
       obtain ⟨_, _, _, _, ad, c, e9, h9⟩ := f9
       obtain ⟨s20, s20'⟩ := zsg 6 20 .data hy hd rfl
       obtain ⟨s23, s23'⟩ := zsb ((hy 9 _ 23 rfl rfl).trans e9)
       have g19 := zgd 5 19 hy hd rfl
       clear hd hy hb
       go_simp
       go_wp2_with (go_at_call 11; refine (TB.out _ d ad c h9).mono ?_; rintro e wa ⟨rfl, dR⟩)
       exact hK.out _ wa (stp_of hmo d dR) (if_pos rfl)
      case o11 =>
       intro At yy W hy hb d hd K hK
       obtain ⟨s19, s19'⟩ := zsg 5 19 .data hy hd rfl
       obtain ⟨s24, s24'⟩ := zsg 10 24 .data hy hd rfl
       clear hd hy hb
       go_simp
       exact zkq hK hmo d (if_pos rfl)
      case fin =>
       intro yy lo hi W hM
       show wpList _ _ _ [] _ _
       have e0 := hM.v 0 (by simp) rfl rfl rfl
       have e1 := hM.v 1 (by simp) rfl rfl rfl
       have e2 := hM.v 2 (by simp) rfl rfl rfl
       have e4 := hM.v 4 (by simp) rfl rfl rfl
       have e5 := hM.v 5 (by simp) rfl rfl rfl
       have e6 := hM.v 6 (by simp) rfl rfl rfl
       have e7 := hM.v 7 (by simp) rfl rfl rfl
       have e8 := hM.v 8 (by simp) rfl rfl rfl
       have e10 := hM.v 10 (by simp) rfl rfl rfl
       have e11 := hM.v 11 (by simp) rfl rfl rfl
       have DW := hide (HW.out.trans (hM.d.mono HW.out.size))
       obtain ⟨_, _, e3, _⟩ := hM.fact 3 (by simp) rfl (notR_all 3 rfl)
       obtain ⟨_, _, e9, _⟩ := hM.fact 9 (by simp) rfl (notR_all 9 rfl)
       simp only [fills, Act.put, List.take, List.length, List.setIfInBounds_toArray, List.set_cons_zero, List.set_cons_succ, e0, e1, e2, e4, e5, e6, e7, e8, e10, e11, e3, e9]
       clear hM hmo e0 e1 e2 e4 e5 e6 e7 e8 e10 e11
       go_wp2_with fail
       go_meet
       exact ⟨rfl, DW⟩
    case rest =>
     rename World => wc
     obtain ⟨rfl, HC⟩ := hcut
     cases hv : (va && vb) with
     | true =>
      go_wp2_with fail
      go_ret
      exact ⟨by rw [spl_yes (j := i) (by rw [HNW.out]; omega) (by rw [HV.out.1, HV.out.2]; exact hv)]; rfl, HD.out.1.trans (HC.out.mono HD.out.1.size)⟩
     | false =>
      go_wp2_with fail
      exact ⟨⟨i + 1, by omega, by go_num, hide ⟨HC.out, fun j hj => by
       by_cases e : j = i
       · subst e; rw [HV.out.1, HV.out.2]; exact hv
       · exact HY.out.2 j (by omega)⟩⟩, by simp [intOf]; omega⟩
  · have i1 : ¬ (i : Int) ≤ (nw : Int) := by omega
    go_wp2_with fail
    go_ret
    exact ⟨by rw [spl_no (fun j hj => HY.out.2 j (by have := HNW.out; omega))]; rfl, HD.out.1.trans (HY.out.1.mono HD.out.1.size)⟩
end Go.Proofs.YtchoopnjckcohaaGreatDoor
