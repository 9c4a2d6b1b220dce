import Derived.Test.YtchoopnjckcohaaGreatDoorEf
set_option maxRecDepth 100000
set_option maxHeartbeats 40000000
namespace Go.Proofs.YtchoopnjckcohaaGreatDoor
open Go.RowKit Go.Maps Go.Shelf
attribute [local go_sem] Oper.semAt_some
def enP (f1 f2 : Nat → Bool) (x : PrT) : Bool := f1 x.1.toNat && f2 x.2.toNat
def enT (f1 f2 : Nat → Bool) (ps : List PrT) (k : Nat) : List Int := ((List.range k).filter fun j => ((ps[j]?).map (enP f1 f2)).getD false).map (fun j : Nat => (j : Int))
theorem enT_snoc (f1 f2 : Nat → Bool) (ps : List PrT) (k : Nat) (h : k < ps.length) : enT f1 f2 ps (k + 1) = enT f1 f2 ps k ++ if enP f1 f2 ps[k] then [(k : Int)] else [] := by
 unfold enT
 rw [List.range_succ, List.filter_append, List.map_append]
 congr 1
 simp only [List.filter_cons, List.filter_nil, List.getElem?_eq_getElem h, Option.map_some, Option.getD_some]
 split <;> rfl
theorem enT_len (f1 f2 : Nat → Bool) (ps : List PrT) (k : Nat) : (enT f1 f2 ps k).length ≤ k := by
 unfold enT
 rw [List.length_map]
 exact Nat.le_trans (List.length_filter_le _ _) (Nat.le_of_eq (List.length_range))
theorem ending_any (w : World) (D b bm : Nat) (f : Value) (bud : Int) (vp ve vn : Value) (ps : List PrT) (es : List EdT) (nn : Nat) (xn : List Value) (h1 h2 N1 N2 : Nat) (f1 f2 : Nat → Bool) (h : Hid (SS D w b bm f bud vp ve vn ps es nn xn)) (m1 : Hid (Mrw w h1 4 N1 (fun c => .bool (f1 c)) N1)) (m2 : Hid (Mrw w h2 4 N2 (fun c => .bool (f2 c)) N2)) (hb : Hid (∀ x ∈ ps, (0 ≤ x.1 ∧ x.1 < (N1 : Int)) ∧ 0 ≤ x.2 ∧ x.2 < (N2 : Int))) (hl : ps.length ≤ 4096) :
 Calls Tryz.prog 92 #[.pointer (some ⟨b, 0, none⟩), .slice (some ⟨h1, 0, none⟩) N1 N1, .slice (some ⟨h2, 0, none⟩) N2 N2] w fun e w' => ∃ v', e = .returned v' ∧ Hid (w'.ownsRow w.heap.size 3 1 v' (enT f1 f2 ps ps.length).length ((enT f1 f2 ps ps.length).map (Value.int .i64)) ∧ Below w.heap.size w w') := by
 obtain ⟨ap, cp, hv⟩ := own_slice h.out.po
 have HV := hide hv
 have c3 : w.cell? ⟨b, 3, none⟩ = some (.slice ap ps.length cp) := by rw [← hv]; exact cell_of h.out.bx rfl
 clear hv
 go_enter Tryz.func92, Tryz.ntmps92
 go_wp2_with fail
 go_loopw [7, 15] (fun v iv wr => ∃ k : Nat, k ≤ ps.length ∧ iv = .int .i64 (k : Int) ∧ Hid (wr.ownsRow w.heap.size 3 1 v (enT f1 f2 ps k).length ((enT f1 f2 ps k).map (Value.int .i64)) ∧ Below w.heap.size w wr)) (fun _ iv _ => ps.length - (intOf iv).toNat)
 case atStart => exact ⟨0, Nat.zero_le _, rfl, hide ⟨by show World.ownsRow _ _ _ _ _ ([] : List Int).length (([] : List Int).map _); exact World.ownsRow_nil _ _ _ _, Below.refl _ _⟩⟩
 case round =>
  obtain ⟨k, hk, rfl, HY⟩ := hrel
  by_cases hlt : k < ps.length
  · have i0 : (0 : Int) ≤ (k : Int) := by omega
    have i1 : (k : Int) < (ps.length : Int) := by omega
    obtain ⟨gp, hvp⟩ : ∃ gp, ap = some ⟨gp, 0, none⟩ := by
     rcases h.out.po.2 with ⟨_, e0⟩ | ⟨g, cap, cur, e, _⟩
     · omega
     · rw [HV.out] at e; cases e; exact ⟨g, rfl⟩
    subst hvp
    have HP := h.out.po
    rw [HV.out] at HP
    have q := pr_at HP k hlt
    obtain ⟨⟨l1, l2⟩, l3, l4⟩ := hb.out _ (List.getElem_mem hlt)
    have HSN := hide (enT_snoc f1 f2 ps k hlt)
    obtain ⟨p, hp⟩ := Int.eq_ofNat_of_zero_le l1
    obtain ⟨r, hr⟩ := Int.eq_ofNat_of_zero_le l3
    have hpr : ps[k] = ((p : Int), (r : Int)) := Prod.ext hp hr
    rw [hpr] at q HSN l2 l4
    have z1 : wr.cell? ⟨gp, k * 2, none⟩ = some (.int .i64 (p : Int)) := (HY.out.2.cell (p := ⟨gp, k * 2, none⟩) (World.block_lt_of_cell? w _ q.1)).trans q.1
    have z2 : wr.cell? ⟨gp, k * 2 + 1, none⟩ = some (.int .i64 (r : Int)) := (HY.out.2.cell (p := ⟨gp, k * 2 + 1, none⟩) (World.block_lt_of_cell? w _ q.2)).trans q.2
    obtain ⟨X, hX⟩ : ∃ X, wr.alloc (.cells #[.int .i64 (p : Int), .int .i64 (r : Int)] 79) = X := ⟨_, rfl⟩
    have HD : Hid (Below wr.heap.size wr X ∧ X.heap[wr.heap.size]? = some (.cells #[.int .i64 (p : Int), .int .i64 (r : Int)] 79 (0, 0))) := hide (by rw [← hX]; exact ⟨(Below.refl _ _).alloc (Nat.le_refl _) _, World.alloc_heap_new _ _⟩)
    have dX : Below w.heap.size w X := HY.out.2.trans (HD.out.1.mono HY.out.2.size)
    obtain ⟨x0, x1⟩ := zd2 HD.out.2 rfl rfl
    have j0 : (0 : Int) ≤ (p : Int) := by omega
    have j1 : (p : Int) < (N1 : Int) := l2
    have j2 : (0 : Int) ≤ (r : Int) := by omega
    have j3 : (r : Int) < (N2 : Int) := l4
    have b1 : X.cell? ⟨h1, p, none⟩ = some (.bool (f1 p)) := (m1.out.below dX m1.out.lt).at p (by omega)
    have b2 : X.cell? ⟨h2, r, none⟩ = some (.bool (f2 r)) := (m2.out.below dX m2.out.lt).at r (by omega)
    have hel := enT_len f1 f2 ps k
    have HO : Hid (X.ownsRow w.heap.size 3 1 u7 (enT f1 f2 ps k).length ((enT f1 f2 ps k).map (Value.int .i64))) := hide (own_below HY.out.1 HD.out.1)
    have HDX := hide dX
    clear dX q hp hr hpr l1 l2 l3 l4 HP
    cases e1 : f1 p with
    | false =>
     rw [e1] at b1
     go_wp2_with fail
     refine ⟨⟨k + 1, by omega, by go_num, hide ⟨?_, HDX.out⟩⟩, by simp [intOf]; omega⟩
     rw [HSN.out]
     simp only [enP, Int.toNat_natCast, e1, Bool.false_and]
     simpa using HO.out
    | true =>
     rw [e1] at b1
     cases e2 : f2 r with
     | false =>
      rw [e2] at b2
      go_wp2_with fail
      refine ⟨⟨k + 1, by omega, by go_num, hide ⟨?_, HDX.out⟩⟩, by simp [intOf]; omega⟩
      rw [HSN.out]
      simp only [enP, Int.toNat_natCast, e1, e2, Bool.and_false]
      simpa using HO.out
     | true =>
      rw [e2] at b2
      go_wp2_with (at_builtin; refine wpList_appI rfl _ _ rfl w.heap.size u7 (enT f1 f2 ps k) rfl (own_below HO.out ((Below.refl _ _).alloc (Nat.le_refl _) _)) X.heap.size (k : Int) rfl (World.alloc_heap_new _ _) (by omega) w (HDX.out.alloc HDX.out.size _) (Nat.le_refl _) ?_; intro v5 w5 HO5 HB5)
      refine ⟨⟨k + 1, by omega, by go_num, hide ⟨?_, HB5.out⟩⟩, by simp [intOf]; omega⟩
      rw [HSN.out]
      simp only [enP, Int.toNat_natCast, e1, e2, Bool.and_self, if_true]
      exact HO5.out
  · obtain rfl : k = ps.length := by omega
    have i1 : ¬ (ps.length : Int) < (ps.length : Int) := by omega
    go_wp2_with fail
    refine bodyPost_ret (results_tmp rfl _ _ _) rfl ?_
    exact ⟨_, rfl, HY⟩
theorem metF_inv (bud : Int) (fl : Bool) : ∀ (T ps : List PrT) (ns : List Int) (er : Int) (ps' : List PrT) (ns' : List Int), metF bud fl ps T ns = (er, ps', ns') → ps.Nodup → (∃ x, ps' = ps ++ x) ∧ ps'.Nodup ∧ (∀ t ∈ ps', t ∈ ps ∨ t ∈ T) ∧ (er = 0 → (∀ t ∈ T, t ∈ ps') ∧ (fl = false → ∀ n, n ∈ ns' ↔ n ∈ ns ∨ ∃ t ∈ T, n = (ps'.idxOf t : Int))) ∧ (fl = true → ns' = ns)
 | [], ps, ns, er, ps', ns', h, hn => by
  rw [metF] at h
  cases h
  exact ⟨⟨[], by simp⟩, hn, fun t ht => .inl ht, fun _ => ⟨fun t ht => by simp at ht, fun _ n => by simp⟩, fun _ => rfl⟩
 | t :: ts, ps, ns, er, ps', ns', h, hn => by
  rw [metF] at h
  by_cases hm : t ∈ ps
  · rw [if_pos hm] at h
    obtain ⟨⟨x, hx⟩, q2, q3, q4, q5⟩ := metF_inv bud fl ts ps _ er ps' ns' h hn
    refine ⟨⟨x, hx⟩, q2, fun y hy => (q3 y hy).imp id (fun e => by simp [e]), fun he => ⟨fun y hy => ?_, fun hf n => ?_⟩, fun hf => by rw [q5 hf, if_pos hf]⟩
    · rcases List.mem_cons.1 hy with rfl | hy
      · rw [hx]; exact List.mem_append_left _ hm
      · exact (q4 he).1 y hy
    · rw [(q4 he).2 hf n, hf]
      have e1 : ps'.idxOf t = ps.idxOf t := by rw [hx, List.idxOf_append, if_pos hm]
      simp only [Bool.false_eq_true, if_false, List.mem_append, List.mem_cons, List.not_mem_nil, or_false, exists_eq_or_imp, e1]
      constructor
      · rintro ((h | h) | h)
        · exact .inl h
        · exact .inr (.inl h)
        · exact .inr (.inr h)
      · rintro (h | h | h)
        · exact .inl (.inl h)
        · exact .inl (.inr h)
        · exact .inr h
  · rw [if_neg hm] at h
    by_cases h1 : bud ≤ (ps.length : Int)
    · rw [if_pos h1] at h
      cases h
      exact ⟨⟨[], by simp⟩, hn, fun t ht => .inl ht, fun he => absurd he (by decide), fun _ => rfl⟩
    · rw [if_neg h1] at h
      by_cases h2 : 4096 ≤ ps.length
      · rw [if_pos h2] at h
        cases h
        exact ⟨⟨[], by simp⟩, hn, fun t ht => .inl ht, fun he => absurd he (by decide), fun _ => rfl⟩
      · rw [if_neg h2] at h
        have hn2 : (ps ++ [t]).Nodup := by
         rw [List.nodup_append]
         refine ⟨hn, by simp, fun a ha b hb => ?_⟩
         rw [List.mem_singleton] at hb
         rintro rfl
         exact hm (hb ▸ ha)
        obtain ⟨⟨x, hx⟩, q2, q3, q4, q5⟩ := metF_inv bud fl ts (ps ++ [t]) _ er ps' ns' h hn2
        have ht : t ∈ ps ++ [t] := by simp
        refine ⟨⟨[t] ++ x, by rw [hx, List.append_assoc]⟩, q2, fun y hy => ?_, fun he => ⟨fun y hy => ?_, fun hf n => ?_⟩, fun hf => by rw [q5 hf, if_pos hf]⟩
        · rcases q3 y hy with e | e
          · rcases List.mem_append.1 e with e | e
            · exact .inl e
            · rw [List.mem_singleton] at e
              exact .inr (by simp [e])
          · exact .inr (by simp [e])
        · rcases List.mem_cons.1 hy with rfl | hy
          · rw [hx]; exact List.mem_append_left _ ht
          · exact (q4 he).1 y hy
        · rw [(q4 he).2 hf n, hf]
          have e1 : ps'.idxOf t = ps.length := by
           rw [hx, List.idxOf_append, if_pos ht, List.idxOf_append, if_neg hm]
           simp
          simp only [Bool.false_eq_true, if_false, List.mem_append, List.mem_cons, List.not_mem_nil, or_false, exists_eq_or_imp, e1]
          constructor
          · rintro ((h | h) | h)
            · exact .inl h
            · exact .inr (.inl h)
            · exact .inr (.inr h)
          · rintro (h | h | h)
            · exact .inl (.inl h)
            · exact .inl (.inr h)
            · exact .inr h
def stp (E1 E2 : List EdT) (x : PrT) (c : Nat) (y : PrT) : Prop := (x.1, (c : Int), y.1) ∈ E1 ∧ (x.2, (c : Int), y.2) ∈ E2
theorem mem_toF {Ed : List EdT} {p s : Nat} {x : Int} : x ∈ toL (fromL Ed p (s : Int)) ↔ ((p : Int), (s : Int), x) ∈ Ed := by
 unfold toL
 rw [List.mem_map]
 constructor
 · rintro ⟨e, he, rfl⟩
   obtain ⟨h, h1, h2⟩ := fromL_iff.1 he
   rw [← h1, ← h2]
   exact h
 · intro h
   exact ⟨_, fromL_iff.2 ⟨h, rfl, rfl⟩, rfl⟩
theorem mem_prs {E1 E2 : List EdT} {p q s : Nat} {y : PrT} : y ∈ prsL (toL (fromL E1 p (s : Int))) (toL (fromL E2 q (s : Int))) ↔ stp E1 E2 ((p : Int), (q : Int)) s y := by
 unfold prsL stp
 rw [List.mem_flatMap]
 constructor
 · rintro ⟨a, ha, h⟩
   obtain ⟨b, hb, rfl⟩ := List.mem_map.1 h
   exact ⟨mem_toF.1 ha, mem_toF.1 hb⟩
 · rintro ⟨h1, h2⟩
   exact ⟨y.1, mem_toF.2 h1, List.mem_map.2 ⟨y.2, mem_toF.2 h2, rfl⟩⟩
def hnd (m i s a c : Nat) : Prop := (a < i ∧ c < m) ∨ (a = i ∧ c < s)
structure RnI (E1 E2 : List EdT) (m N1 N2 : Nat) (ps0 ps : List PrT) (es : List EdT) (i s : Nat) : Prop where
 pre : ∃ x, ps = ps0 ++ x
 nd : ps.Nodup
 bd : ∀ x ∈ ps, ∃ p q : Nat, x = ((p : Int), (q : Int)) ∧ p < N1 ∧ q < N2
 le : es.length ≤ 69632
 cl : ∀ (a c : Nat) (x y : PrT), ps[a]? = some x → hnd m i s a c → stp E1 E2 x c y → y ∈ ps
 ed : es.length ≤ 65536 → ∀ e : EdT, e ∈ es ↔ ∃ (a c : Nat) (x y : PrT), ps[a]? = some x ∧ hnd m i s a c ∧ stp E1 E2 x c y ∧ e = ((a : Int), (c : Int), (ps.idxOf y : Int))
structure RnQ (N m : Nat) (E : List EdT) : Prop where
 ss : SsE E
 sy : ∀ e ∈ E, 0 ≤ e.2.1 ∧ e.2.1 < (m : Int)
 tt : ∀ e ∈ E, 0 ≤ e.2.2 ∧ e.2.2 < (N : Int)
 hN : N ≤ 4096
 hm : m ≤ 128
 hl : E.length ≤ 4194304
theorem RnQ.rq {N m : Nat} {E : List EdT} (h : RnQ N m E) {p s : Nat} (hp : p < N) (hs : s < m) : RwQ m (N * m) p s E :=
 ⟨h.ss, h.sy, hs, by
  have := Nat.mul_le_mul_right m (show p + 1 ≤ N from hp)
  rw [Nat.add_mul, Nat.one_mul] at this
  omega, Nat.le_trans (Nat.mul_le_mul h.hN h.hm) (by decide), h.hl⟩
theorem stp_in {E1 E2 : List EdT} {N1 N2 m : Nat} (h1 : RnQ N1 m E1) (h2 : RnQ N2 m E2) {x y : PrT} {c : Nat} (h : stp E1 E2 x c y) : ∃ p q : Nat, y = ((p : Int), (q : Int)) ∧ p < N1 ∧ q < N2 := by
 obtain ⟨l1, l2⟩ := h1.tt _ h.1
 obtain ⟨l3, l4⟩ := h2.tt _ h.2
 obtain ⟨p, hp⟩ := Int.eq_ofNat_of_zero_le l1
 obtain ⟨q, hq⟩ := Int.eq_ofNat_of_zero_le l3
 exact ⟨p, q, Prod.ext hp hq, by simp only at hp l2; omega, by simp only at hq l4; omega⟩
theorem okPr_of {y : PrT} {N1 N2 : Nat} (hN1 : N1 ≤ 4096) (hN2 : N2 ≤ 4096) (h : ∃ p q : Nat, y = ((p : Int), (q : Int)) ∧ p < N1 ∧ q < N2) : okPr y := by
 obtain ⟨p, q, rfl, h1, h2⟩ := h
 exact ⟨⟨by simp only; omega, by simp only; omega⟩, by simp only; omega, by simp only; omega⟩
theorem toL_nodup {E : List EdT} (h : SsE E) (p s : Nat) : (toL (fromL E p (s : Int))).Nodup := by
 have hs := fromL_ss h p (s : Int)
 unfold toL
 refine List.pairwise_map.2 (List.Pairwise.imp_of_mem ?_ hs)
 intro a b ha hb q e
 obtain ⟨_, a1, a2⟩ := fromL_iff.1 ha
 obtain ⟨_, b1, b2⟩ := fromL_iff.1 hb
 obtain rfl : a = b := Prod.ext (a1.trans b1.symm) (Prod.ext (a2.trans b2.symm) e)
 simp [ltE] at q
theorem prs_nodup {E1 E2 : List EdT} (h1 : SsE E1) (h2 : SsE E2) (p q s : Nat) : (prsL (toL (fromL E1 p (s : Int))) (toL (fromL E2 q (s : Int)))).Nodup := by
 have d1 := toL_nodup h1 p s
 have d2 := toL_nodup h2 q s
 generalize toL (fromL E1 p (s : Int)) = X at *
 generalize toL (fromL E2 q (s : Int)) = Y at *
 unfold prsL List.Nodup
 rw [List.pairwise_flatMap]
 refine ⟨fun a _ => List.pairwise_map.2 (d2.imp fun hne e => hne (Prod.mk.inj e).2), d1.imp fun hne x hx y hy e => ?_⟩
 obtain ⟨u, _, rfl⟩ := List.mem_map.1 hx
 obtain ⟨v, _, rfl⟩ := List.mem_map.1 hy
 exact hne (Prod.mk.inj e).1
theorem idx_app {ps x : List PrT} {y : PrT} (h : y ∈ ps) : (ps ++ x).idxOf y = ps.idxOf y := by rw [List.idxOf_append, if_pos h]
theorem get_app {ps x : List PrT} {a : Nat} {y : PrT} (h : ps[a]? = some y) : (ps ++ x)[a]? = some y := by
 rw [List.getElem?_append_left (List.getElem?_eq_some_iff.1 h).1]
 exact h
theorem get_back {ps x : List PrT} {a : Nat} {y : PrT} (ha : a < ps.length) (h : (ps ++ x)[a]? = some y) : ps[a]? = some y := by
 rw [List.getElem?_append_left ha] at h
 exact h
theorem RnI.sym {E1 E2 : List EdT} {m N1 N2 : Nat} {ps0 ps ps' : List PrT} {es : List EdT} {i s : Nat} (h : RnI E1 E2 m N1 N2 ps0 ps es i s) (g1 : RnQ N1 m E1) (g2 : RnQ N2 m E2) {p q : Nat} (hi : i < ps.length) (hpq : ps[i] = ((p : Int), (q : Int))) {bud : Int} {ns : List Int} (he : metF bud (decide (65536 < es.length)) ps (prsL (toL (fromL E1 p (s : Int))) (toL (fromL E2 q (s : Int)))) [] = (0, ps', ns)) (hn : ns.length ≤ 4096) : RnI E1 E2 m N1 N2 ps0 ps' (ledL es (i : Int) (s : Int) (riseL ns)) i (s + 1) := by
 obtain ⟨⟨x, hx⟩, k2, k3, k4, k5⟩ := metF_inv _ _ _ _ _ _ _ _ he h.nd
 obtain ⟨k6, k7⟩ := k4 rfl
 obtain ⟨z, hz⟩ := h.pre
 have hI : ps[i]? = some ((p : Int), (q : Int)) := by rw [List.getElem?_eq_getElem hi, hpq]
 have hps : ∀ (a : Nat) (y : PrT), hnd m i (s + 1) a 0 ∨ a ≤ i → ps'[a]? = some y → ps[a]? = some y := by
  intro a y ha hy
  rw [hx] at hy
  refine get_back ?_ hy
  rcases ha with (ha | ha) | ha <;> omega
 have hle : ∀ a c, hnd m i (s + 1) a c → a ≤ i := fun a c ha => by rcases ha with ha | ha <;> omega
 have hcs : ∀ a c, hnd m i (s + 1) a c ↔ hnd m i s a c ∨ (a = i ∧ c = s) := by
  intro a c
  unfold hnd
  omega
 have hcl : ∀ (a c : Nat) (x y : PrT), ps'[a]? = some x → hnd m i (s + 1) a c → stp E1 E2 x c y → (y ∈ ps ∧ hnd m i s a c ∧ ps[a]? = some x) ∨ (a = i ∧ c = s ∧ x = ((p : Int), (q : Int)) ∧ y ∈ prsL (toL (fromL E1 p (s : Int))) (toL (fromL E2 q (s : Int)))) := by
  intro a c u y hu hh hs
  have hu2 := hps a u (.inr (hle a c hh)) hu
  rcases (hcs a c).1 hh with h1 | ⟨rfl, rfl⟩
  · exact .inl ⟨h.cl a c u y hu2 h1 hs, h1, hu2⟩
  · rw [hI] at hu2
    cases hu2
    exact .inr ⟨rfl, rfl, rfl, mem_prs.2 hs⟩
 refine ⟨⟨z ++ x, by rw [hx, hz, List.append_assoc]⟩, k2, fun y hy => ?_, ?_, fun a c u y hu hh hs => ?_, fun hl e => ?_⟩
 · rcases k3 y hy with e | e
   · exact h.bd y e
   · exact stp_in g1 g2 (mem_prs.1 e)
 · rw [ledL_len]
   have q1 := riseL_len ns
   have q2 := h.le
   by_cases hf : 65536 < es.length
   · have := k5 (by rw [decide_eq_true hf])
     subst this
     rw [List.length_nil] at q1
     omega
   · omega
 · rcases hcl a c u y hu hh hs with e | e
   · rw [hx]; exact List.mem_append_left _ e.1
   · exact k6 y e.2.2.2
 · rw [ledL_len] at hl
   have hl2 : es.length ≤ 65536 := by omega
   have hf : decide (65536 < es.length) = false := by simp; omega
   have q7 := k7 hf
   unfold ledL
   rw [List.mem_append, List.mem_map, h.ed hl2]
   constructor
   · rintro (⟨a, c, u, y, e1, e2, e3, e4⟩ | ⟨n, e1, e2⟩)
     · refine ⟨a, c, u, y, by rw [hx]; exact get_app e1, (hcs a c).2 (.inl e2), e3, ?_⟩
       rw [e4, hx, idx_app (h.cl a c u y e1 e2 e3)]
     · rw [riseL_iff, q7] at e1
       rcases e1 with e1 | ⟨t, ht, rfl⟩
       · simp at e1
       · exact ⟨i, s, ((p : Int), (q : Int)), t, by rw [hx]; exact get_app hI, (hcs i s).2 (.inr ⟨rfl, rfl⟩), mem_prs.1 ht, e2.symm⟩
   · rintro ⟨a, c, u, y, e1, e2, e3, e4⟩
     rcases hcl a c u y e1 e2 e3 with e | e
     · refine .inl ⟨a, c, u, y, e.2.2, e.2.1, e3, ?_⟩
       rw [e4, hx, idx_app e.1]
     · obtain ⟨rfl, rfl, rfl, e5⟩ := e
       refine .inr ⟨_, ?_, e4.symm⟩
       rw [riseL_iff, q7]
       exact .inr ⟨y, e5, rfl⟩
theorem RnI.next {E1 E2 : List EdT} {m N1 N2 : Nat} {ps0 ps : List PrT} {es : List EdT} {i : Nat} (h : RnI E1 E2 m N1 N2 ps0 ps es i m) : RnI E1 E2 m N1 N2 ps0 ps es (i + 1) 0 := by
 have hh : ∀ a c, hnd m (i + 1) 0 a c ↔ hnd m i m a c := by
  intro a c
  unfold hnd
  omega
 refine ⟨h.pre, h.nd, h.bd, h.le, fun a c x y e1 e2 e3 => h.cl a c x y e1 ((hh a c).1 e2) e3, fun hl e => ?_⟩
 rw [h.ed hl]
 simp only [hh]
structure RnS (w : World) (D b bm kv : Nat) (f : Value) (bud : Int) (E1 E2 : List EdT) (m N1 N2 : Nat) (ps0 : List PrT) (i s : Nat) (vp ve vn : Value) (ps : List PrT) (es : List EdT) (nn : Nat) (xn : List Value) (W : World) : Prop where
 ss : SS D W b bm f bud vp ve vn ps es nn xn
 on : Only w W (fun k => k = b ∨ k = bm ∨ (D ≤ k ∧ k ≠ kv))
 rn : RnI E1 E2 m N1 N2 ps0 ps es i s
 pl : ps.length ≤ 4096
 nv : (∀ k, vp.ownBlock = some k → k ≠ kv) ∧ (∀ k, ve.ownBlock = some k → k ≠ kv) ∧ ∀ k, vn.ownBlock = some k → k ≠ kv
def RnE (w : World) (D b bm kv : Nat) (f : Value) (bud : Int) (E1 E2 : List EdT) (m N1 N2 : Nat) (ps0 : List PrT) (er : Int) (W : World) : Prop := (er ≠ 0 ∧ Only w W (fun k => k = b ∨ k = bm ∨ (D ≤ k ∧ k ≠ kv))) ∨ (er = 0 ∧ ∃ vp ve vn ps es nn xn, RnS w D b bm kv f bud E1 E2 m N1 N2 ps0 ps.length 0 vp ve vn ps es nn xn W ∧ es.length ≤ 65536)
theorem run_any (w : World) (D b bm kv b1 b2 B1 B2 m N1 N2 : Nat) (E1 E2 : List EdT) (a1 a2 : Option Addr) (c1 c2 g1 g2 : Nat) (bud : Int) (vp ve vn : Value) (ps : List PrT) (es : List EdT) (nn : Nat) (xn : List Value) (h : Hid (RnS w D b bm kv (.func (.func 94) #[] #[.pointer (some ⟨b1, 0, none⟩), .pointer (some ⟨b2, 0, none⟩)]) bud E1 E2 m N1 N2 ps 0 0 vp ve vn ps es nn xn w)) (hD : Hid (b < D ∧ bm < D ∧ D ≤ w.heap.size)) (hkv : kv < w.heap.size)
 (hR1 : Hid (RwT (fun k => k < D ∧ k ≠ b ∧ k ≠ bm) w b1 B1 m (N1 * m) E1 a1 c1 g1)) (hR2 : Hid (RwT (fun k => k < D ∧ k ≠ b ∧ k ≠ bm) w b2 B2 m (N2 * m) E2 a2 c2 g2)) (hq : Hid (RnQ N1 m E1 ∧ RnQ N2 m E2)) :
 Calls Tryz.prog 91 #[.pointer (some ⟨b, 0, none⟩), .int .i64 (m : Int)] w fun e w' => ∃ er, e = .returned (.int .i64 er) ∧ Hid (RnE w D b bm kv (.func (.func 94) #[] #[.pointer (some ⟨b1, 0, none⟩), .pointer (some ⟨b2, 0, none⟩)]) bud E1 E2 m N1 N2 ps er w') := by
 obtain ⟨M4, hM4⟩ : ∃ M : Nat, 4096 ≤ M := ⟨4096, Nat.le_refl _⟩
 have hm := hq.out.1.hm
 go_enter Tryz.func91, Tryz.ntmps91
 go_wp2_with fail
 go_loopw [5] (fun fv wr => ∃ (i : Nat) (vp ve vn : Value) (ps' : List PrT) (es' : List EdT) (nn : Nat) (xn : List Value), i ≤ ps'.length ∧ fv = .int .i64 (i : Int) ∧ Hid (RnS w D b bm kv (.func (.func 94) #[] #[.pointer (some ⟨b1, 0, none⟩), .pointer (some ⟨b2, 0, none⟩)]) bud E1 E2 m N1 N2 ps i 0 vp ve vn ps' es' nn xn wr)) (fun fv _ => M4 - (intOf fv).toNat)
 case atStart => exact ⟨0, vp, ve, vn, ps, es, nn, xn, Nat.zero_le _, rfl, h⟩
 case round =>
  rename World => wo
  obtain ⟨i, vp', ve', vn', ps', es', nn', xn', hi, rfl, HS⟩ := hrel
  obtain ⟨ap, cp, hv⟩ := own_slice HS.out.ss.po
  have c3 : wo.cell? ⟨b, 3, none⟩ = some (.slice ap ps'.length cp) := by rw [← hv]; exact cell_of HS.out.ss.bx rfl
  clear hv
  have hpl := HS.out.pl
  by_cases hlt : i < ps'.length
  · have i1 : (i : Int) < (ps'.length : Int) := by omega
    go_wp2_with fail
    clear c3 i1
    go_loopw [18] (fun sv wr => ∃ (s : Nat) (vp ve vn : Value) (ps2 : List PrT) (es2 : List EdT) (nn : Nat) (xn : List Value), s ≤ m ∧ i < ps2.length ∧ sv = .int .i64 (s : Int) ∧ Hid (RnS w D b bm kv (.func (.func 94) #[] #[.pointer (some ⟨b1, 0, none⟩), .pointer (some ⟨b2, 0, none⟩)]) bud E1 E2 m N1 N2 ps i s vp ve vn ps2 es2 nn xn wr)) (fun sv _ => m - (intOf sv).toNat)
    case atStart => exact ⟨0, vp', ve', vn', ps', es', nn', xn', Nat.zero_le _, hlt, rfl, HS⟩
    case round =>
     obtain ⟨s, vp2, ve2, vn2, ps2, es2, nn2, xn2, hs, hi2, rfl, HY⟩ := hrel
     clear HS hlt
     by_cases hsm : s < m
     · have s1 : (s : Int) < (m : Int) := by omega
       obtain ⟨p, q, hpq, hp, hq2⟩ := HY.out.rn.bd _ (List.getElem_mem hi2)
       have TF := follow_any wr D b bm kv b1 b2 B1 B2 m (N1 * m) (N2 * m) E1 E2 a1 a2 c1 c2 g1 g2 i p q s bud vp2 ve2 vn2 ps2 es2 nn2 xn2 (hide HY.out.ss) (hide ⟨hD.out.1, hD.out.2.1, Nat.le_trans hD.out.2.2 HY.out.on.size⟩) hi2 (hide hpq) HY.out.pl (hide ⟨Nat.lt_of_lt_of_le hkv HY.out.on.size, HY.out.nv⟩) (hide (hR1.out.kp (KpT.ofOnly HY.out.on (fun k h1 h2 => by omega)))) (hide (hR2.out.kp (KpT.ofOnly HY.out.on (fun k h1 h2 => by omega)))) (hide (hq.out.1.rq hp hsm)) (hide (hq.out.2.rq hq2 hsm)) (hide (fun t ht => okPr_of hq.out.1.hN hq.out.2.hN (stp_in hq.out.1 hq.out.2 (mem_prs.1 ht)))) (hide (prs_nodup hq.out.1.ss hq.out.2.ss p q s)) (by have := HY.out.rn.le; omega)
       have HPQ := hide hpq
       clear hpq hp hq2
       go_upto_region 8 with (go_at_call 130; refine TF.mono ?_; rintro e w3 ⟨er, vp3, ve3, vn3, ps3, ns, nn3, xn3, rfl, HF⟩)
       clear TF
       by_cases he : er = 0
       · subst he
         have HN : Hid (RnS w D b bm kv (.func (.func 94) #[] #[.pointer (some ⟨b1, 0, none⟩), .pointer (some ⟨b2, 0, none⟩)]) bud E1 E2 m N1 N2 ps i (s + 1) vp3 ve3 vn3 ps3 (ledL es2 (i : Int) (s : Int) (riseL ns)) nn3 xn3 w3 ∧ i < ps3.length) := hide (by
          have q1 := HF.out
          have q2 := q1.ss
          rw [if_pos rfl] at q2
          refine ⟨⟨q2, HY.out.on.trans (q1.on), HY.out.rn.sym hq.out.1 hq.out.2 hi2 HPQ.out q1.eq (q1.nl rfl), q1.pl, q1.nv⟩, ?_⟩
          obtain ⟨⟨x, hx⟩, _⟩ := metF_inv _ _ _ _ _ _ _ _ q1.eq HY.out.rn.nd
          rw [hx, List.length_append]
          omega)
         go_wp2_with fail
         exact ⟨⟨s + 1, vp3, ve3, vn3, ps3, _, nn3, xn3, hsm, HN.out.2, by go_num, hide HN.out.1⟩, by simp [intOf]; omega⟩
       · have HN := hide (HY.out.on.trans HF.out.on)
         go_wp2_with fail
         go_ret
         exact ⟨er, rfl, hide (.inl ⟨he, HN.out⟩)⟩
     · have s1 : ¬ (s : Int) < (m : Int) := by omega
       obtain rfl : s = m := by omega
       have TL := lost_any wr D b bm (.func (.func 94) #[] #[.pointer (some ⟨b1, 0, none⟩), .pointer (some ⟨b2, 0, none⟩)]) bud vp2 ve2 vn2 ps2 es2 nn2 xn2 (hide HY.out.ss)
       by_cases hL : 65536 < es2.length ∧ 4096 < bud
       · rw [decide_eq_true hL] at TL
         clear hL
         go_wp2_with (go_at_call 131; refine TL.mono ?_; rintro e w3 ⟨rfl, hw⟩; obtain rfl := hw.symm; clear hw)
         go_ret
         exact ⟨8, rfl, hide (.inl ⟨by decide, HY.out.on⟩)⟩
       · rw [decide_eq_false hL] at TL
         clear hL
         have hpl2 := HY.out.pl
         go_wp2_with (go_at_call 131; refine TL.mono ?_; rintro e w3 ⟨rfl, hw⟩; obtain rfl := hw.symm; clear hw)
         exact ⟨⟨i + 1, vp2, ve2, vn2, ps2, es2, nn2, xn2, hi2, by go_num, hide ⟨HY.out.ss, HY.out.on, HY.out.rn.next, HY.out.pl, HY.out.nv⟩⟩, by simp [intOf]; omega⟩
  · have i1 : ¬ (i : Int) < (ps'.length : Int) := by omega
    have HE : Hid (i = ps'.length) := hide (by omega)
    have TL := full_any wo D b bm (.func (.func 94) #[] #[.pointer (some ⟨b1, 0, none⟩), .pointer (some ⟨b2, 0, none⟩)]) bud vp' ve' vn' ps' es' nn' xn' (hide HS.out.ss)
    by_cases hL : 65536 < es'.length
    · rw [decide_eq_true hL] at TL
      clear hL
      go_wp2_with (go_at_call 132; refine TL.mono ?_; rintro e w3 ⟨rfl, hw⟩; obtain rfl := hw.symm; clear hw)
      go_ret
      exact ⟨8, rfl, hide (.inl ⟨by decide, HS.out.on⟩)⟩
    · rw [decide_eq_false hL] at TL
      have HL := hide hL
      clear hL
      go_wp2_with (go_at_call 132; refine TL.mono ?_; rintro e w3 ⟨rfl, hw⟩; obtain rfl := hw.symm; clear hw)
      go_ret
      exact ⟨0, rfl, hide (.inr ⟨rfl, vp', ve', vn', ps', es', nn', xn', by rw [← HE.out]; exact HS.out, by have := HL.out; omega⟩)⟩
theorem wpList_appJ {ops : Array Oper} {rest : List Oper} {o : Oper} {a : Act} {Q : Exit → Act → World → Prop} {w : World} (hgd : o.guard = none) (s x : Operand)
 (ho : o.op = .call { callee := .builtin .append, args := #[s, x], argTypes := #[22, 22] }) (B : Nat) (v : Value) (X : List Int) (hs : a.eval s = v) (hown : w.ownsRow B 3 1 v X.length (X.map (Value.int .i64))) (p : Nat) (y : Int) (hx : a.eval x = .slice (some ⟨p, 0, none⟩) 1 1) (hp : w.heap[p]? = some (.cells #[.int .i64 y] 3 (0, 0))) (hl : X.length ≤ 16777216) (hB : B ≤ w.heap.size)
 (h : ∀ v' w', Hid (w'.ownsRow B 3 1 v' (X ++ [y]).length ((X ++ [y]).map (Value.int .i64))) → Hid (Only w w' (fun k => v.ownBlock = some k)) → wpList Tryz.prog ops Q rest (a.put o.dst v') w') : wpList Tryz.prog ops Q (o :: rest) a w := by
 obtain ⟨i3, hi3, hz30, hz31, hz32⟩ := info_parts info3
 refine wpList_append_own_at _ hgd s x 22 ho B 3 i3 _ 1 8 Tryz.underlying22 hi3 hz30 hz31 hz32 rfl (by omega) v X.length (X.map (Value.int .i64)) hs hown ⟨p, 0, none⟩ 1 1 [.int .i64 y] hx rfl (one_cells hp) (by simp [Value.oneCell']) (by unfold maxLen; omega) (by omega) (by omega) ?_
 intro v2 w2 h2 hgr _ _
 exact h v2 w2 (hide (by rw [List.map_append, List.length_append]; exact h2)) (hide (grown_only hgr))
def MtB (D b bm : Nat) (f : Value) (bud : Int) (vp ve vn : Value) (ps : List PrT) (es : List EdT) (ns : List Int) (nn : Nat) (xn : List Value) (t : PrT) (num er : Int) (W W' : World) : Prop := (er = 0 ∧ ∃ vp2 ps2, MtA D b bm f bud false vp ve vn ps es ns nn xn t num vp2 ps2 W W') ∨ (er ≠ 0 ∧ Below W.heap.size W W')
theorem meet_v (w : World) (D b bm : Nat) (f : Value) (bud : Int) (vp ve vn : Value) (ps : List PrT) (es : List EdT) (ns : List Int) (nn : Nat) (xn : List Value) (p r : Int) (h : Hid (SS D w b bm f bud vp ve vn ps es nn xn)) (hok : Hid (okPr (p, r))) (hbD : Hid (b < D ∧ D ≤ w.heap.size)) (hl : ps.length ≤ 4096) :
 Calls Tryz.prog 129 #[.pointer (some ⟨b, 0, none⟩), .agg #[.int .i64 p, .int .i64 r]] w fun e w' => ∃ num er, e = .returned (.tuple #[.int .i64 num, .int .i64 er]) ∧ Hid (MtB D b bm f bud vp ve vn ps es ns nn xn (p, r) num er w w') := by
 refine (meet_u w D b bm f bud false vp ve vn ps es ns nn xn (p, r) h hok hbD hl).mono ?_
 rintro e w' (⟨num, vp2, ps2, rfl, HM⟩ | ⟨er, rfl, he, HM⟩)
 · exact ⟨num, 0, rfl, hide (.inl ⟨rfl, vp2, ps2, HM.out⟩)⟩
 · exact ⟨0, er, rfl, hide (.inr ⟨by omega, HM.out.2⟩)⟩
structure BgI (w : World) (D b bm : Nat) (f : Value) (bud : Int) (T : List PrT) (k : Nat) (v vp : Value) (ps : List PrT) (ns : List Int) (W : World) : Prop where
 eq : metF bud false [] T [] = metF bud false ps (T.drop k) ns
 ss : SS D W b bm f bud vp (.slice none 0 0) (.slice none 0 0) ps [] 0 []
 ow : W.ownsRow w.heap.size 3 1 v ns.length (ns.map (Value.int .i64))
 on : Only w W (fun k => k = b ∨ k = bm ∨ D ≤ k)
 pl : ps.length ≤ 4096
 le : ns.length ≤ k
theorem bgI_next {w : World} {D b bm : Nat} {f : Value} {bud : Int} {T : List PrT} {k : Nat} {v vp v5 vp2 : Value} {ps ps2 : List PrT} {ns : List Int} {W W1 Wa w5 : World} {t : PrT} {num : Int} (h : BgI w D b bm f bud T k v vp ps ns W) (hD : b < D ∧ bm < D ∧ D ≤ w.heap.size) (hk : k < T.length) (ht : T[k] = t) (a : MtA D b bm f bud false vp (.slice none 0 0) (.slice none 0 0) ps [] ns 0 [] t num vp2 ps2 W W1) (d : Below W1.heap.size W1 Wa) (o : w5.ownsRow w.heap.size 3 1 v5 (ns ++ [num]).length ((ns ++ [num]).map (Value.int .i64))) (oo : Only Wa w5 (fun k => v.ownBlock = some k)) : BgI w D b bm f bud T (k + 1) v5 vp2 ps2 (ns ++ [num]) w5 := by
 have hv := fun k e => (h.ow.lt k e).1
 have o1 : Only W1 w5 (fun k => v.ownBlock = some k) := (Only.ofBelow d).trans oo
 have v1 := row_only h.ow a.on (fun k hk e => by
  have := hv k hk
  rcases e with e | e | e
  · omega
  · omega
  · exact rows_differ h.ss.po h.ow (by decide) e hk)
 refine ⟨?_, a.ss.onlyR o1 (fun e => by have := hv _ e; omega) (fun e => by have := hv _ e; omega) (fun k hk e => rows_differ a.ss.po v1 (by decide) hk e) (fun k hk => by cases hk) (fun k hk => by cases hk), o, ?_, a.pl, by simp; have := h.le; omega⟩
 · rw [h.eq, List.drop_eq_getElem_cons hk, ht, a.eq]
   rfl
 · refine h.on.trans ((a.on.mono (fun k _ e => ?_)).trans (o1.mono (fun k _ e => ?_)))
   · rcases e with e | e | e
     · exact .inl e
     · exact .inr (.inl e)
     · exact .inr (.inr (h.ss.po.lt k e).1)
   · have := hv k e
     exact .inr (.inr (by omega))
def BgE (w : World) (D b bm : Nat) (f : Value) (bud : Int) (T : List PrT) (v : Value) (er : Int) (W : World) : Prop := (er ≠ 0 ∧ Only w W (fun k => k = b ∨ k = bm ∨ D ≤ k)) ∨ (er = 0 ∧ ∃ vp ps ns, BgI w D b bm f bud T T.length v vp ps ns W ∧ metF bud false [] T [] = (0, ps, ns))
theorem below_ro {w W W' : World} {D b bm : Nat} (h : Only w W (fun k => k = b ∨ k = bm ∨ D ≤ k)) (d : Below W.heap.size W W') : Only w W' (fun k => k = b ∨ k = bm ∨ D ≤ k) := h.trans (Only.ofBelow d)
theorem BgE.on {w : World} {D b bm : Nat} {f : Value} {bud : Int} {T : List PrT} {v : Value} {er : Int} {W : World} (h : BgE w D b bm f bud T v er W) : Only w W (fun k => k = b ∨ k = bm ∨ D ≤ k) := by
 rcases h with ⟨_, h⟩ | ⟨_, _, _, _, h, _⟩
 · exact h
 · exact h.on
theorem begin_any (w : World) (D b bm : Nat) (f : Value) (bud : Int) (a1 a2 : Option Addr) (c1 c2 : Nat) (F1 F2 : List Int) (h : Hid (SS D w b bm f bud (.slice none 0 0) (.slice none 0 0) (.slice none 0 0) [] [] 0 [])) (hD : Hid (b < D ∧ bm < D ∧ D ≤ w.heap.size))
 (hA1 : Hid (∀ W', KpT (fun k => k < D ∧ k ≠ b ∧ k ≠ bm) w W' → RdN W' a1 F1)) (hA2 : Hid (∀ W', KpT (fun k => k < D ∧ k ≠ b ∧ k ≠ bm) w W' → RdN W' a2 F2)) (hb : Hid (∀ t ∈ prsL F1 F2, okPr t)) (hl1 : F1.length ≤ 4096) (hl2 : F2.length ≤ 4096) :
 Calls Tryz.prog 90 #[.pointer (some ⟨b, 0, none⟩), .slice a1 F1.length c1, .slice a2 F2.length c2] w fun e w' => ∃ av nv cv er, e = .returned (.tuple #[.slice av nv cv, .int .i64 er]) ∧ Hid (BgE w D b bm f bud (prsL F1 F2) (.slice av nv cv) er w') := by
 have HT := hide (prsL_len F1 F2)
 have HAT := hide (prsL_at F1 F2)
 obtain ⟨T, hT⟩ : ∃ T, prsL F1 F2 = T := ⟨_, rfl⟩
 rw [hT] at HT HAT hb ⊢
 clear hT
 obtain ⟨n1, hn1⟩ : ∃ n, F1.length = n := ⟨_, rfl⟩
 obtain ⟨n2, hn2⟩ : ∃ n, F2.length = n := ⟨_, rfl⟩
 rw [hn1, hn2] at HT
 rw [hn1] at hl1 ⊢
 rw [hn2] at hl2 ⊢
 have HN := hide (And.intro hn1 hn2)
 clear hn1 hn2
 go_enter Tryz.func90, Tryz.ntmps90
 go_wp2_with fail
 go_loopw [8, 17] (fun v iv wr => ∃ (i : Nat) (vp : Value) (ps : List PrT) (ns : List Int), i ≤ n1 ∧ iv = .int .i64 (i : Int) ∧ Hid (BgI w D b bm f bud T (i * n2) v vp ps ns wr)) (fun _ iv _ => n1 - (intOf iv).toNat)
 case atStart => exact ⟨0, (.slice none 0 0), [], [], Nat.zero_le _, rfl, hide ⟨by simp, h.out, by show World.ownsRow _ _ _ _ _ ([] : List Int).length (([] : List Int).map _); exact World.ownsRow_nil _ _ _ _, ⟨rfl, rfl, rfl, Nat.le_refl _, fun _ _ _ => rfl⟩, by simp, by simp⟩⟩
 case round =>
  rename World => wo
  obtain ⟨i, vp, ps, ns, hi, rfl, HS⟩ := hrel
  by_cases hlt : i < n1
  · have i1 : (i : Int) < (n1 : Int) := by omega
    have i0 : (0 : Int) ≤ (i : Int) := by omega
    have hi1 : i < F1.length := by have := HN.out.1; omega
    have q1 := hA1.out wo (KpT.ofOnly HS.out.on (fun k h1 h2 => by omega)) i hi1
    obtain ⟨p, hp⟩ : ∃ p, F1[i] = p := ⟨_, rfl⟩
    rw [hp] at q1
    obtain ⟨g1, o1, ea1, z1⟩ := q1
    subst ea1
    have HP := hide hp
    clear hp
    go_wp2_with fail
    clear z1 i1 i0
    go_loopw [8, 23] (fun v jv wr => ∃ (j : Nat) (vp : Value) (ps : List PrT) (ns : List Int), j ≤ n2 ∧ jv = .int .i64 (j : Int) ∧ Hid (BgI w D b bm f bud T (i * n2 + j) v vp ps ns wr)) (fun _ jv _ => n2 - (intOf jv).toNat)
    case atStart => exact ⟨0, vp, ps, ns, Nat.zero_le _, rfl, HS⟩
    case round =>
     obtain ⟨j, vp2, ps2, ns2, hj, rfl, HY⟩ := hrel
     clear HS
     by_cases hjl : j < n2
     · have j1 : (j : Int) < (n2 : Int) := by omega
       have j0 : (0 : Int) ≤ (j : Int) := by omega
       have hj1 : j < F2.length := by have := HN.out.2; omega
       have q2 := hA2.out wr (KpT.ofOnly HY.out.on (fun k h1 h2 => by omega)) j hj1
       obtain ⟨r, hr⟩ : ∃ r, F2[j] = r := ⟨_, rfl⟩
       rw [hr] at q2
       obtain ⟨g2, o2, ea2, z2⟩ := q2
       subst ea2
       have HK : Hid (∃ hk : i * n2 + j < T.length, T[i * n2 + j] = (p, r)) := hide (by
        have e2 := HN.out.2
        subst e2
        have hk : i * F2.length + j < T.length := by
         rw [HT.out]
         have := Nat.mul_le_mul_right F2.length (show i + 1 ≤ n1 from hlt)
         rw [Nat.add_mul, Nat.one_mul] at this
         omega
        exact ⟨hk, by rw [HAT.out i j hi1 hj1 hk, HP.out, hr]⟩)
       clear hr
       have TM := meet_v wr D b bm f bud vp2 (.slice none 0 0) (.slice none 0 0) ps2 [] ns2 0 [] p r (hide HY.out.ss) (hide (by obtain ⟨hk, e⟩ := HK.out; rw [← e]; exact hb.out _ (List.getElem_mem hk))) (hide ⟨hD.out.1, Nat.le_trans hD.out.2.2 HY.out.on.size⟩) HY.out.pl
       go_upto_region 9 with (go_at_call 129; refine TM.mono ?_; rintro e w3 ⟨num, er, rfl, HM⟩)
       clear TM z2
       by_cases he : er = 0
       · subst he
         have HM2 : Hid (∃ vp2' ps2', MtA D b bm f bud false vp2 (.slice none 0 0) (.slice none 0 0) ps2 [] ns2 0 [] (p, r) num vp2' ps2' wr w3) := hide (by
          rcases HM.out with ⟨_, q⟩ | ⟨q, _⟩
          · exact q
          · exact absurd rfl q)
         have HV : Hid (w3.ownsRow w.heap.size 3 1 u8 ns2.length (ns2.map (Value.int .i64))) := hide (by
          obtain ⟨vp3, ps3, a⟩ := HM2.out
          exact row_only HY.out.ow a.on (fun k hk e => by
           have := (HY.out.ow.lt k hk).1
           have := hD.out
           rcases e with e | e | e
           · omega
           · omega
           · exact rows_differ HY.out.ss.po HY.out.ow (by decide) e hk))
         have hln : ns2.length ≤ 16777216 := by
          have := HY.out.le
          have q1 : i * n2 ≤ 4096 * 4096 := Nat.mul_le_mul (by omega) hl2
          have q2 : i * n2 + j ≤ n1 * n2 := by
           have := Nat.mul_le_mul_right n2 (show i + 1 ≤ n1 from hlt)
           rw [Nat.add_mul, Nat.one_mul] at this
           omega
          have q3 : n1 * n2 ≤ 4096 * 4096 := Nat.mul_le_mul hl1 hl2
          omega
         have hwz : w.heap.size ≤ w3.heap.size := Nat.le_trans HY.out.on.size (by obtain ⟨vp3, ps3, a⟩ := HM2.out; exact a.on.size)
         go_wp2_with (at_builtin; refine wpList_appJ rfl _ _ rfl w.heap.size u8 ns2 rfl (own_below HV.out ((Below.refl _ _).alloc (Nat.le_refl _) _)) w3.heap.size num rfl (World.alloc_heap_new _ _) hln (by simp; omega) ?_; intro v5 w5 HO5 HB5)
         have HN5 : Hid (∃ vp3 ps3, BgI w D b bm f bud T (i * n2 + j + 1) v5 vp3 ps3 (ns2 ++ [num]) w5) := hide (by
          obtain ⟨vp3, ps3, a⟩ := HM2.out
          obtain ⟨hk, e⟩ := HK.out
          exact ⟨vp3, ps3, bgI_next HY.out hD.out hk e a ((Below.refl _ _).alloc (Nat.le_refl _) _) HO5.out HB5.out⟩)
         clear HO5 HB5 hwz hln
         obtain ⟨vp3, ps3, q⟩ := HN5.out
         exact ⟨⟨j + 1, vp3, ps3, _, hjl, by go_num, hide q⟩, by simp [intOf]; omega⟩
       · have HN5 : Hid (Only w w3 (fun k => k = b ∨ k = bm ∨ D ≤ k)) := hide (by
          rcases HM.out with ⟨q, _⟩ | ⟨_, q⟩
          · exact absurd q he
          · exact below_ro HY.out.on q)
         go_wp2_with fail
         refine bodyPost_ret (results_tmp2 rfl _ _ _) rfl ?_
         exact ⟨_, _, _, er, rfl, hide (.inl ⟨he, HN5.out⟩)⟩
     · have j1 : ¬ (j : Int) < (n2 : Int) := by omega
       obtain rfl : j = n2 := by omega
       go_wp2_with fail
       exact ⟨⟨i + 1, vp2, ps2, ns2, hlt, by go_num, hide (by rw [Nat.add_mul, Nat.one_mul]; exact HY.out)⟩, by simp [intOf]; omega⟩
  · have i1 : ¬ (i : Int) < (n1 : Int) := by omega
    obtain rfl : i = n1 := by omega
    obtain ⟨av, cv, hv⟩ := own_slice HS.out.ow
    subst hv
    go_wp2_with fail
    refine bodyPost_ret (results_tmp2 rfl _ _ _) rfl ?_
    refine ⟨_, _, _, 0, rfl, hide (.inr ⟨rfl, vp, ps, ns, ?_⟩)⟩
    have q := HS.out
    rw [← HT.out] at q
    refine ⟨q, ?_⟩
    rw [q.eq, List.drop_length]
    rfl
end Go.Proofs.YtchoopnjckcohaaGreatDoor
