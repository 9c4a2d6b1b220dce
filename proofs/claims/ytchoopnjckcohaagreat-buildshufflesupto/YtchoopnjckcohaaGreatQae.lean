import Derived.Test.YtchoopnjckcohaaGreatQad
import Derived.Lib.AppendZerosOnto
namespace Go.Proofs.YtchoopnjckcohaaGreat
open Go.RowKit Go.Maps Go.Shelf
attribute [local go_sem] Oper.semAt_some
/-! ### run -/
structure RnS (w : World) (D b bm kv : Nat) (f : Value) (bud : Int) (E1 E2 : List EdT) (m N1 N2 : Nat) (ps0 : List PrT) (i s : Nat) (vp ve vn : Value) (ps : List PrT) (es : List EdT) (nn : Nat) (xn : List Value) (W : World) : Prop where
  ss : SS D W b bm f bud vp ve vn ps es nn xn
  on : Only w W (fun k => k = b ∨ k = bm ∨ (D ≤ k ∧ k ≠ kv))
  rn : RnI E1 E2 m N1 N2 ps0 ps es i s
  pl : ps.length ≤ 4096
  nv : (∀ k, vp.ownBlock = some k → k ≠ kv) ∧ (∀ k, ve.ownBlock = some k → k ≠ kv) ∧ ∀ k, vn.ownBlock = some k → k ≠ kv
/-- How run ends. -/
def RnE (w : World) (D b bm kv : Nat) (f : Value) (bud : Int) (E1 E2 : List EdT) (m N1 N2 : Nat) (ps0 : List PrT) (er : Int) (W : World) : Prop := (er ≠ 0 ∧ Only w W (fun k => k = b ∨ k = bm ∨ (D ≤ k ∧ k ≠ kv))) ∨ (er = 0 ∧ ∃ vp ve vn ps es nn xn, RnS w D b bm kv f bud E1 E2 m N1 N2 ps0 ps.length 0 vp ve vn ps es nn xn W ∧ es.length ≤ 65536)
set_option maxRecDepth 100000 in
set_option maxHeartbeats 4000000 in
theorem run_any (w : World) (D b bm kv b1 b2 B1 B2 m N1 N2 : Nat) (E1 E2 : List EdT) (a1 a2 : Option Addr) (c1 c2 g1 g2 : Nat) (bud : Int) (vp ve vn : Value) (ps : List PrT) (es : List EdT) (nn : Nat) (xn : List Value) (h : Hid (RnS w D b bm kv (.func (.func 39) #[] #[.pointer (some ⟨b1, 0, none⟩), .pointer (some ⟨b2, 0, none⟩)]) bud E1 E2 m N1 N2 ps 0 0 vp ve vn ps es nn xn w)) (hD : Hid (b < D ∧ bm < D ∧ D ≤ w.heap.size)) (hkv : kv < w.heap.size)
    (hR1 : Hid (RwT (fun k => k < D ∧ k ≠ b ∧ k ≠ bm) w b1 B1 m (N1 * m) E1 a1 c1 g1)) (hR2 : Hid (RwT (fun k => k < D ∧ k ≠ b ∧ k ≠ bm) w b2 B2 m (N2 * m) E2 a2 c2 g2)) (hq : Hid (RnQ N1 m E1 ∧ RnQ N2 m E2)) :
    Calls Tryz.prog 36 #[.pointer (some ⟨b, 0, none⟩), .int .i64 (m : Int)] w fun e w' => ∃ er, e = .returned (.int .i64 er) ∧ Hid (RnE w D b bm kv (.func (.func 39) #[] #[.pointer (some ⟨b1, 0, none⟩), .pointer (some ⟨b2, 0, none⟩)]) bud E1 E2 m N1 N2 ps er w') := by
  obtain ⟨M4, hM4⟩ : ∃ M : Nat, 4096 ≤ M := ⟨4096, Nat.le_refl _⟩
  have hm := hq.out.1.hm
  go_enter Tryz.func36, Tryz.ntmps36
  go_wp2_with fail
  go_loopw [5] (fun fv wr => ∃ (i : Nat) (vp ve vn : Value) (ps' : List PrT) (es' : List EdT) (nn : Nat) (xn : List Value), i ≤ ps'.length ∧ fv = .int .i64 (i : Int) ∧ Hid (RnS w D b bm kv (.func (.func 39) #[] #[.pointer (some ⟨b1, 0, none⟩), .pointer (some ⟨b2, 0, none⟩)]) bud E1 E2 m N1 N2 ps i 0 vp ve vn ps' es' nn xn wr)) (fun fv _ => M4 - (intOf fv).toNat)
  case atStart => exact ⟨0, vp, ve, vn, ps, es, nn, xn, Nat.zero_le _, rfl, h⟩
  case round =>
    rename World => wo
    obtain ⟨i, vp', ve', vn', ps', es', nn', xn', hi, rfl, HS⟩ := hrel
    obtain ⟨ap, cp, hv⟩ := own_slice HS.out.ss.po
    have c3 : wo.cell? ⟨b, 3, none⟩ = some (.slice ap ps'.length cp) := by rw [← hv]; exact cell_of HS.out.ss.bx rfl
    clear hv
    have hpl := HS.out.pl
    by_cases hlt : i < ps'.length
    · have i1 : (i : Int) < (ps'.length : Int) := by omega
      go_wp2_with fail
      clear c3 i1
      go_loopw [18] (fun sv wr => ∃ (s : Nat) (vp ve vn : Value) (ps2 : List PrT) (es2 : List EdT) (nn : Nat) (xn : List Value), s ≤ m ∧ i < ps2.length ∧ sv = .int .i64 (s : Int) ∧ Hid (RnS w D b bm kv (.func (.func 39) #[] #[.pointer (some ⟨b1, 0, none⟩), .pointer (some ⟨b2, 0, none⟩)]) bud E1 E2 m N1 N2 ps i s vp ve vn ps2 es2 nn xn wr)) (fun sv _ => m - (intOf sv).toNat)
      case atStart => exact ⟨0, vp', ve', vn', ps', es', nn', xn', Nat.zero_le _, hlt, rfl, HS⟩
      case round =>
        obtain ⟨s, vp2, ve2, vn2, ps2, es2, nn2, xn2, hs, hi2, rfl, HY⟩ := hrel
        clear HS hlt
        by_cases hsm : s < m
        · have s1 : (s : Int) < (m : Int) := by omega
          obtain ⟨p, q, hpq, hp, hq2⟩ := HY.out.rn.bd _ (List.getElem_mem hi2)
          have TF := follow_any wr D b bm kv b1 b2 B1 B2 m (N1 * m) (N2 * m) E1 E2 a1 a2 c1 c2 g1 g2 i p q s bud vp2 ve2 vn2 ps2 es2 nn2 xn2 (hide HY.out.ss) (hide ⟨hD.out.1, hD.out.2.1, Nat.le_trans hD.out.2.2 HY.out.on.size⟩) hi2 (hide hpq) HY.out.pl (hide ⟨Nat.lt_of_lt_of_le hkv HY.out.on.size, HY.out.nv⟩) (hide (hR1.out.kp (KpT.ofOnly HY.out.on (fun k h1 h2 => by omega)))) (hide (hR2.out.kp (KpT.ofOnly HY.out.on (fun k h1 h2 => by omega)))) (hide (hq.out.1.rq hp hsm)) (hide (hq.out.2.rq hq2 hsm)) (hide (fun t ht => okPr_of hq.out.1.hN hq.out.2.hN (stp_in hq.out.1 hq.out.2 ⟨p, q, rfl, hp, hq2⟩ (mem_prs.1 ht)))) (hide (trn_le hq.out.1 hq.out.2 p q s)) (by have := HY.out.rn.le; omega)
          have HPQ := hide hpq
          clear hpq hp hq2
          go_upto_region 8 with (go_at_call 59; refine TF.mono ?_; rintro e w3 ⟨er, vp3, ve3, vn3, ps3, ns, nn3, xn3, rfl, HF⟩)
          clear TF
          by_cases he : er = 0
          · subst he
            have HN : Hid (RnS w D b bm kv (.func (.func 39) #[] #[.pointer (some ⟨b1, 0, none⟩), .pointer (some ⟨b2, 0, none⟩)]) bud E1 E2 m N1 N2 ps i (s + 1) vp3 ve3 vn3 ps3 (ledL es2 (i : Int) (s : Int) (riseL ns)) nn3 xn3 w3 ∧ i < ps3.length) := hide (by
              have q1 := HF.out
              have q2 := q1.ss
              rw [if_pos rfl] at q2
              refine ⟨⟨q2, HY.out.on.trans (q1.on), HY.out.rn.sym hq.out.1 hq.out.2 hi2 HPQ.out q1.eq (q1.nl rfl), q1.pl, q1.nv⟩, ?_⟩
              obtain ⟨⟨x, hx⟩, _⟩ := metF_inv _ _ _ _ _ _ _ _ q1.eq HY.out.rn.nd
              rw [hx, List.length_append]
              omega)
            go_wp2_with fail
            exact ⟨⟨s + 1, vp3, ve3, vn3, ps3, _, nn3, xn3, hsm, HN.out.2, by go_num, hide HN.out.1⟩, by simp [intOf]; omega⟩
          · have HN := hide (HY.out.on.trans HF.out.on)
            go_wp2_with fail
            go_ret
            exact ⟨er, rfl, hide (.inl ⟨he, HN.out⟩)⟩
        · have s1 : ¬ (s : Int) < (m : Int) := by omega
          obtain rfl : s = m := by omega
          have TL := lost_any wr D b bm (.func (.func 39) #[] #[.pointer (some ⟨b1, 0, none⟩), .pointer (some ⟨b2, 0, none⟩)]) bud vp2 ve2 vn2 ps2 es2 nn2 xn2 (hide HY.out.ss)
          by_cases hL : 65536 < es2.length ∧ 4096 < bud
          · rw [decide_eq_true hL] at TL
            clear hL
            go_wp2_with (go_at_call 60; refine TL.mono ?_; rintro e w3 ⟨rfl, hw⟩; obtain rfl := hw.symm; clear hw)
            go_ret
            exact ⟨8, rfl, hide (.inl ⟨by decide, HY.out.on⟩)⟩
          · rw [decide_eq_false hL] at TL
            clear hL
            have hpl2 := HY.out.pl
            go_wp2_with (go_at_call 60; refine TL.mono ?_; rintro e w3 ⟨rfl, hw⟩; obtain rfl := hw.symm; clear hw)
            exact ⟨⟨i + 1, vp2, ve2, vn2, ps2, es2, nn2, xn2, hi2, by go_num, hide ⟨HY.out.ss, HY.out.on, HY.out.rn.next, HY.out.pl, HY.out.nv⟩⟩, by simp [intOf]; omega⟩
    · have i1 : ¬ (i : Int) < (ps'.length : Int) := by omega
      have HE : Hid (i = ps'.length) := hide (by omega)
      have TL := full_any wo D b bm (.func (.func 39) #[] #[.pointer (some ⟨b1, 0, none⟩), .pointer (some ⟨b2, 0, none⟩)]) bud vp' ve' vn' ps' es' nn' xn' (hide HS.out.ss)
      by_cases hL : 65536 < es'.length
      · rw [decide_eq_true hL] at TL
        clear hL
        go_wp2_with (go_at_call 61; refine TL.mono ?_; rintro e w3 ⟨rfl, hw⟩; obtain rfl := hw.symm; clear hw)
        go_ret
        exact ⟨8, rfl, hide (.inl ⟨by decide, HS.out.on⟩)⟩
      · rw [decide_eq_false hL] at TL
        have HL := hide hL
        clear hL
        go_wp2_with (go_at_call 61; refine TL.mono ?_; rintro e w3 ⟨rfl, hw⟩; obtain rfl := hw.symm; clear hw)
        go_ret
        exact ⟨0, rfl, hide (.inr ⟨rfl, vp', ve', vn', ps', es', nn', xn', by rw [← HE.out]; exact HS.out, by have := HL.out; omega⟩)⟩
/-! ### begin -/
theorem wpList_appJ {ops : Array Oper} {rest : List Oper} {o : Oper} {a : Act} {Q : Exit → Act → World → Prop} {w : World} (hgd : o.guard = none) (s x : Operand)
    (ho : o.op = .call { callee := .builtin .append, args := #[s, x], argTypes := #[22, 22] }) (B : Nat) (v : Value) (X : List Int) (hs : a.eval s = v) (hown : w.ownsRow B 3 1 v X.length (X.map (Value.int .i64))) (p : Nat) (y : Int) (hx : a.eval x = .slice (some ⟨p, 0, none⟩) 1 1) (hp : w.heap[p]? = some (.cells #[.int .i64 y] 3 (0, 0))) (hl : X.length ≤ 16777216) (hB : B ≤ w.heap.size)
    (h : ∀ v' w', Hid (w'.ownsRow B 3 1 v' (X ++ [y]).length ((X ++ [y]).map (Value.int .i64))) → Hid (Only w w' (fun k => v.ownBlock = some k)) → wpList Tryz.prog ops Q rest (a.put o.dst v') w') : wpList Tryz.prog ops Q (o :: rest) a w := by
  obtain ⟨i3, hi3, hz30, hz31, hz32⟩ := info_parts info3
  refine wpList_append_own_at _ hgd s x 22 ho B 3 i3 _ 1 8 Tryz.underlying22 hi3 hz30 hz31 hz32 rfl (by omega) v X.length (X.map (Value.int .i64)) hs hown ⟨p, 0, none⟩ 1 1 [.int .i64 y] hx rfl (one_cells hp) (by simp [Value.oneCell']) (by unfold maxLen; omega) (by omega) (by omega) ?_
  intro v2 w2 h2 hgr _ _
  exact h v2 w2 (hide (by rw [List.map_append, List.length_append]; exact h2)) (hide (grown_only hgr))
/-- What meet says, in one shape. -/
def MtB (D b bm : Nat) (f : Value) (bud : Int) (vp ve vn : Value) (ps : List PrT) (es : List EdT) (ns : List Int) (nn : Nat) (xn : List Value) (t : PrT) (num er : Int) (W W' : World) : Prop := (er = 0 ∧ ∃ vp2 ps2, MtA D b bm f bud false vp ve vn ps es ns nn xn t num vp2 ps2 W W') ∨ (er ≠ 0 ∧ Below W.heap.size W W')
theorem meet_v (w : World) (D b bm : Nat) (f : Value) (bud : Int) (vp ve vn : Value) (ps : List PrT) (es : List EdT) (ns : List Int) (nn : Nat) (xn : List Value) (p r : Int) (h : Hid (SS D w b bm f bud vp ve vn ps es nn xn)) (hok : Hid (okPr (p, r))) (hbD : Hid (b < D ∧ D ≤ w.heap.size)) (hl : ps.length ≤ 4096) :
    Calls Tryz.prog 58 #[.pointer (some ⟨b, 0, none⟩), .agg #[.int .i64 p, .int .i64 r]] w fun e w' => ∃ num er, e = .returned (.tuple #[.int .i64 num, .int .i64 er]) ∧ Hid (MtB D b bm f bud vp ve vn ps es ns nn xn (p, r) num er w w') := by
  refine (meet_u w D b bm f bud false vp ve vn ps es ns nn xn (p, r) h hok hbD hl).mono ?_
  rintro e w' (⟨num, vp2, ps2, rfl, HM⟩ | ⟨er, rfl, he, HM⟩)
  · exact ⟨num, 0, rfl, hide (.inl ⟨rfl, vp2, ps2, HM.out⟩)⟩
  · exact ⟨0, er, rfl, hide (.inr ⟨by omega, HM.out.2⟩)⟩
/-- What begin holds. -/
structure BgI (w : World) (D b bm : Nat) (f : Value) (bud : Int) (T : List PrT) (k : Nat) (v vp : Value) (ps : List PrT) (ns : List Int) (W : World) : Prop where
  eq : metF bud false [] T [] = metF bud false ps (T.drop k) ns
  ss : SS D W b bm f bud vp (.slice none 0 0) (.slice none 0 0) ps [] 0 []
  ow : W.ownsRow w.heap.size 3 1 v ns.length (ns.map (Value.int .i64))
  on : Only w W (fun k => k = b ∨ k = bm ∨ D ≤ k)
  pl : ps.length ≤ 4096
  le : ns.length ≤ k
theorem bgI_next {w : World} {D b bm : Nat} {f : Value} {bud : Int} {T : List PrT} {k : Nat} {v vp v5 vp2 : Value} {ps ps2 : List PrT} {ns : List Int} {W W1 Wa w5 : World} {t : PrT} {num : Int} (h : BgI w D b bm f bud T k v vp ps ns W) (hD : b < D ∧ bm < D ∧ D ≤ w.heap.size) (hk : k < T.length) (ht : T[k] = t) (a : MtA D b bm f bud false vp (.slice none 0 0) (.slice none 0 0) ps [] ns 0 [] t num vp2 ps2 W W1) (d : Below W1.heap.size W1 Wa) (o : w5.ownsRow w.heap.size 3 1 v5 (ns ++ [num]).length ((ns ++ [num]).map (Value.int .i64))) (oo : Only Wa w5 (fun k => v.ownBlock = some k)) : BgI w D b bm f bud T (k + 1) v5 vp2 ps2 (ns ++ [num]) w5 := by
  have hv := fun k e => (h.ow.lt k e).1
  have o1 : Only W1 w5 (fun k => v.ownBlock = some k) := (Only.ofBelow d).trans oo
  have v1 := row_only h.ow a.on (fun k hk e => by
    have := hv k hk
    rcases e with e | e | e
    · omega
    · omega
    · exact rows_differ h.ss.po h.ow (by decide) e hk)
  refine ⟨?_, a.ss.onlyR o1 (fun e => by have := hv _ e; omega) (fun e => by have := hv _ e; omega) (fun k hk e => rows_differ a.ss.po v1 (by decide) hk e) (fun k hk => by cases hk) (fun k hk => by cases hk), o, ?_, a.pl, by simp; have := h.le; omega⟩
  · rw [h.eq, List.drop_eq_getElem_cons hk, ht, a.eq]
    rfl
  · refine h.on.trans ((a.on.mono (fun k _ e => ?_)).trans (o1.mono (fun k _ e => ?_)))
    · rcases e with e | e | e
      · exact .inl e
      · exact .inr (.inl e)
      · exact .inr (.inr (h.ss.po.lt k e).1)
    · have := hv k e
      exact .inr (.inr (by omega))
/-- How begin ends. -/
def BgE (w : World) (D b bm : Nat) (f : Value) (bud : Int) (T : List PrT) (v : Value) (er : Int) (W : World) : Prop := (er ≠ 0 ∧ Only w W (fun k => k = b ∨ k = bm ∨ D ≤ k)) ∨ (er = 0 ∧ ∃ vp ps ns, BgI w D b bm f bud T T.length v vp ps ns W ∧ metF bud false [] T [] = (0, ps, ns))
theorem below_ro {w W W' : World} {D b bm : Nat} (h : Only w W (fun k => k = b ∨ k = bm ∨ D ≤ k)) (d : Below W.heap.size W W') : Only w W' (fun k => k = b ∨ k = bm ∨ D ≤ k) := h.trans (Only.ofBelow d)
theorem BgE.on {w : World} {D b bm : Nat} {f : Value} {bud : Int} {T : List PrT} {v : Value} {er : Int} {W : World} (h : BgE w D b bm f bud T v er W) : Only w W (fun k => k = b ∨ k = bm ∨ D ≤ k) := by
  rcases h with ⟨_, h⟩ | ⟨_, _, _, _, h, _⟩
  · exact h
  · exact h.on
set_option maxRecDepth 100000 in
set_option maxHeartbeats 4000000 in
theorem begin_any (w : World) (D b bm : Nat) (f : Value) (bud : Int) (a1 a2 : Option Addr) (c1 c2 : Nat) (F1 F2 : List Int) (h : Hid (SS D w b bm f bud (.slice none 0 0) (.slice none 0 0) (.slice none 0 0) [] [] 0 [])) (hD : Hid (b < D ∧ bm < D ∧ D ≤ w.heap.size))
    (hA1 : Hid (∀ W', KpT (fun k => k < D ∧ k ≠ b ∧ k ≠ bm) w W' → RdN W' a1 F1)) (hA2 : Hid (∀ W', KpT (fun k => k < D ∧ k ≠ b ∧ k ≠ bm) w W' → RdN W' a2 F2)) (hb : Hid (∀ t ∈ prsL F1 F2, okPr t)) (hl1 : F1.length ≤ 4096) (hl2 : F2.length ≤ 4096) :
    Calls Tryz.prog 35 #[.pointer (some ⟨b, 0, none⟩), .slice a1 F1.length c1, .slice a2 F2.length c2] w fun e w' => ∃ av nv cv er, e = .returned (.tuple #[.slice av nv cv, .int .i64 er]) ∧ Hid (BgE w D b bm f bud (prsL F1 F2) (.slice av nv cv) er w') := by
  have HT := hide (prsL_len F1 F2)
  have HAT := hide (prsL_at F1 F2)
  obtain ⟨T, hT⟩ : ∃ T, prsL F1 F2 = T := ⟨_, rfl⟩
  rw [hT] at HT HAT hb ⊢
  clear hT
  obtain ⟨n1, hn1⟩ : ∃ n, F1.length = n := ⟨_, rfl⟩
  obtain ⟨n2, hn2⟩ : ∃ n, F2.length = n := ⟨_, rfl⟩
  rw [hn1, hn2] at HT
  rw [hn1] at hl1 ⊢
  rw [hn2] at hl2 ⊢
  have HN := hide (And.intro hn1 hn2)
  clear hn1 hn2
  go_enter Tryz.func35, Tryz.ntmps35
  go_wp2_with fail
  go_loopw [8, 17] (fun v iv wr => ∃ (i : Nat) (vp : Value) (ps : List PrT) (ns : List Int), i ≤ n1 ∧ iv = .int .i64 (i : Int) ∧ Hid (BgI w D b bm f bud T (i * n2) v vp ps ns wr)) (fun _ iv _ => n1 - (intOf iv).toNat)
  case atStart => exact ⟨0, (.slice none 0 0), [], [], Nat.zero_le _, rfl, hide ⟨by simp, h.out, by show World.ownsRow _ _ _ _ _ ([] : List Int).length (([] : List Int).map _); exact World.ownsRow_nil _ _ _ _, ⟨rfl, rfl, rfl, Nat.le_refl _, fun _ _ _ => rfl⟩, by simp, by simp⟩⟩
  case round =>
    rename World => wo
    obtain ⟨i, vp, ps, ns, hi, rfl, HS⟩ := hrel
    by_cases hlt : i < n1
    · have i1 : (i : Int) < (n1 : Int) := by omega
      have i0 : (0 : Int) ≤ (i : Int) := by omega
      have hi1 : i < F1.length := by have := HN.out.1; omega
      have q1 := hA1.out wo (KpT.ofOnly HS.out.on (fun k h1 h2 => by omega)) i hi1
      obtain ⟨p, hp⟩ : ∃ p, F1[i] = p := ⟨_, rfl⟩
      rw [hp] at q1
      obtain ⟨g1, o1, ea1, z1⟩ := q1
      subst ea1
      have HP := hide hp
      clear hp
      go_wp2_with fail
      clear z1 i1 i0
      go_loopw [8, 23] (fun v jv wr => ∃ (j : Nat) (vp : Value) (ps : List PrT) (ns : List Int), j ≤ n2 ∧ jv = .int .i64 (j : Int) ∧ Hid (BgI w D b bm f bud T (i * n2 + j) v vp ps ns wr)) (fun _ jv _ => n2 - (intOf jv).toNat)
      case atStart => exact ⟨0, vp, ps, ns, Nat.zero_le _, rfl, HS⟩
      case round =>
        obtain ⟨j, vp2, ps2, ns2, hj, rfl, HY⟩ := hrel
        clear HS
        by_cases hjl : j < n2
        · have j1 : (j : Int) < (n2 : Int) := by omega
          have j0 : (0 : Int) ≤ (j : Int) := by omega
          have hj1 : j < F2.length := by have := HN.out.2; omega
          have q2 := hA2.out wr (KpT.ofOnly HY.out.on (fun k h1 h2 => by omega)) j hj1
          obtain ⟨r, hr⟩ : ∃ r, F2[j] = r := ⟨_, rfl⟩
          rw [hr] at q2
          obtain ⟨g2, o2, ea2, z2⟩ := q2
          subst ea2
          have HK : Hid (∃ hk : i * n2 + j < T.length, T[i * n2 + j] = (p, r)) := hide (by
            have e2 := HN.out.2
            subst e2
            have hk : i * F2.length + j < T.length := by
              rw [HT.out]
              have := Nat.mul_le_mul_right F2.length (show i + 1 ≤ n1 from hlt)
              rw [Nat.add_mul, Nat.one_mul] at this
              omega
            exact ⟨hk, by rw [HAT.out i j hi1 hj1 hk, HP.out, hr]⟩)
          clear hr
          have TM := meet_v wr D b bm f bud vp2 (.slice none 0 0) (.slice none 0 0) ps2 [] ns2 0 [] p r (hide HY.out.ss) (hide (by obtain ⟨hk, e⟩ := HK.out; rw [← e]; exact hb.out _ (List.getElem_mem hk))) (hide ⟨hD.out.1, Nat.le_trans hD.out.2.2 HY.out.on.size⟩) HY.out.pl
          go_upto_region 9 with (go_at_call 58; refine TM.mono ?_; rintro e w3 ⟨num, er, rfl, HM⟩)
          clear TM z2
          by_cases he : er = 0
          · subst he
            have HM2 : Hid (∃ vp2' ps2', MtA D b bm f bud false vp2 (.slice none 0 0) (.slice none 0 0) ps2 [] ns2 0 [] (p, r) num vp2' ps2' wr w3) := hide (by
              rcases HM.out with ⟨_, q⟩ | ⟨q, _⟩
              · exact q
              · exact absurd rfl q)
            have HV : Hid (w3.ownsRow w.heap.size 3 1 u8 ns2.length (ns2.map (Value.int .i64))) := hide (by
              obtain ⟨vp3, ps3, a⟩ := HM2.out
              exact row_only HY.out.ow a.on (fun k hk e => by
                have := (HY.out.ow.lt k hk).1
                have := hD.out
                rcases e with e | e | e
                · omega
                · omega
                · exact rows_differ HY.out.ss.po HY.out.ow (by decide) e hk))
            have hln : ns2.length ≤ 16777216 := by
              have := HY.out.le
              have q1 : i * n2 ≤ 4096 * 4096 := Nat.mul_le_mul (by omega) hl2
              have q2 : i * n2 + j ≤ n1 * n2 := by
                have := Nat.mul_le_mul_right n2 (show i + 1 ≤ n1 from hlt)
                rw [Nat.add_mul, Nat.one_mul] at this
                omega
              have q3 : n1 * n2 ≤ 4096 * 4096 := Nat.mul_le_mul hl1 hl2
              omega
            have hwz : w.heap.size ≤ w3.heap.size := Nat.le_trans HY.out.on.size (by obtain ⟨vp3, ps3, a⟩ := HM2.out; exact a.on.size)
            go_wp2_with (at_builtin; refine wpList_appJ rfl _ _ rfl w.heap.size u8 ns2 rfl (own_below HV.out ((Below.refl _ _).alloc (Nat.le_refl _) _)) w3.heap.size num rfl (World.alloc_heap_new _ _) hln (by simp; omega) ?_; intro v5 w5 HO5 HB5)
            have HN5 : Hid (∃ vp3 ps3, BgI w D b bm f bud T (i * n2 + j + 1) v5 vp3 ps3 (ns2 ++ [num]) w5) := hide (by
              obtain ⟨vp3, ps3, a⟩ := HM2.out
              obtain ⟨hk, e⟩ := HK.out
              exact ⟨vp3, ps3, bgI_next HY.out hD.out hk e a ((Below.refl _ _).alloc (Nat.le_refl _) _) HO5.out HB5.out⟩)
            clear HO5 HB5 hwz hln
            obtain ⟨vp3, ps3, q⟩ := HN5.out
            exact ⟨⟨j + 1, vp3, ps3, _, hjl, by go_num, hide q⟩, by simp [intOf]; omega⟩
          · have HN5 : Hid (Only w w3 (fun k => k = b ∨ k = bm ∨ D ≤ k)) := hide (by
              rcases HM.out with ⟨q, _⟩ | ⟨_, q⟩
              · exact absurd q he
              · exact below_ro HY.out.on q)
            go_wp2_with fail
            refine bodyPost_ret (results_tmp2 rfl _ _ _) rfl ?_
            exact ⟨_, _, _, er, rfl, hide (.inl ⟨he, HN5.out⟩)⟩
        · have j1 : ¬ (j : Int) < (n2 : Int) := by omega
          obtain rfl : j = n2 := by omega
          go_wp2_with fail
          exact ⟨⟨i + 1, vp2, ps2, ns2, hlt, by go_num, hide (by rw [Nat.add_mul, Nat.one_mul]; exact HY.out)⟩, by simp [intOf]; omega⟩
    · have i1 : ¬ (i : Int) < (n1 : Int) := by omega
      obtain rfl : i = n1 := by omega
      obtain ⟨av, cv, hv⟩ := own_slice HS.out.ow
      subst hv
      go_wp2_with fail
      refine bodyPost_ret (results_tmp2 rfl _ _ _) rfl ?_
      refine ⟨_, _, _, 0, rfl, hide (.inr ⟨rfl, vp, ps, ns, ?_⟩)⟩
      have q := HS.out
      rw [← HT.out] at q
      refine ⟨q, ?_⟩
      rw [q.eq, List.drop_length]
      rfl
/-! ### both: two automata in order, over the same symbols -/
theorem results_c2 {P : Program} {fn : Func} {p q r : Tmp} {ty : TypeId} (h : fn.results = #[.cell p ty, .cell q ty, .tmp r]) (tmps : Array Value) (w : World) (g g' : Nat) (t : TypeId) (cs cs' : Array Value) (fr : Nat × Nat) (d : TypeDesc) (x : Value)
    (hp : tmps.getD p undef = .pointer (some ⟨g, 0, none⟩)) (hp2 : tmps.getD q undef = .pointer (some ⟨g', 0, none⟩)) (hq : tmps.getD r undef = x) (hg : w.heap[g]? = some (.cells cs t fr)) (hg2 : w.heap[g']? = some (.cells cs' t fr))
    (hu : P.underlying ty = some d) (hd : (match d with | .struct _ | .array _ _ => true | _ => false) = true) (hi : (P.info? ty).map (·.size) = some cs.size) (hi2 : (P.info? ty).map (·.size) = some cs'.size) :
    (results fn tmps).run P w = .ok (.tuple #[.agg cs, .agg cs', x]) w := by
  have hp' : tmps[p]?.getD undef = .pointer (some ⟨g, 0, none⟩) := by simpa using hp
  have hp2' : tmps[q]?.getD undef = .pointer (some ⟨g', 0, none⟩) := by simpa using hp2
  have hq' : tmps[r]?.getD undef = x := by simpa using hq
  simp [results, h, hp', hp2', hq', asAddr, run_loadVar_row w g t ty cs fr d hg hu hd hi, run_loadVar_row w g' t ty cs' fr d hg2 hu hd hi2]
/-- Two boxes, one behind the other, filled. -/
theorem two5 {W : World} {g g' : Nat} {v0 v1 v2 v3 v4 u0 u1 u2 u3 u4 x0 x1 x2 x3 x4 z0 z1 z2 z3 z4 : Value} (h : W.heap[g]? = some (.cells #[v0, v1, v2, v3, v4] 25 (0, 0))) (h' : W.heap[g']? = some (.cells #[u0, u1, u2, u3, u4] 25 (0, 0))) (ne : g ≠ g') :
    ((((((((((W.setCell ⟨g, 0, none⟩ (x0)).setCell ⟨g, 1, none⟩ (x1)).setCell ⟨g, 2, none⟩ (x2)).setCell ⟨g, 3, none⟩ (x3)).setCell ⟨g, 4, none⟩ (x4)).setCell ⟨g', 0, none⟩ (z0)).setCell ⟨g', 1, none⟩ (z1)).setCell ⟨g', 2, none⟩ (z2)).setCell ⟨g', 3, none⟩ (z3)).setCell ⟨g', 4, none⟩ (z4)).heap[g]? = some (.cells #[x0, x1, x2, x3, x4] 25 (0, 0)) ∧ ((((((((((W.setCell ⟨g, 0, none⟩ (x0)).setCell ⟨g, 1, none⟩ (x1)).setCell ⟨g, 2, none⟩ (x2)).setCell ⟨g, 3, none⟩ (x3)).setCell ⟨g, 4, none⟩ (x4)).setCell ⟨g', 0, none⟩ (z0)).setCell ⟨g', 1, none⟩ (z1)).setCell ⟨g', 2, none⟩ (z2)).setCell ⟨g', 3, none⟩ (z3)).setCell ⟨g', 4, none⟩ (z4)).heap[g']? = some (.cells #[z0, z1, z2, z3, z4] 25 (0, 0)) ∧ Only W ((((((((((W.setCell ⟨g, 0, none⟩ (x0)).setCell ⟨g, 1, none⟩ (x1)).setCell ⟨g, 2, none⟩ (x2)).setCell ⟨g, 3, none⟩ (x3)).setCell ⟨g, 4, none⟩ (x4)).setCell ⟨g', 0, none⟩ (z0)).setCell ⟨g', 1, none⟩ (z1)).setCell ⟨g', 2, none⟩ (z2)).setCell ⟨g', 3, none⟩ (z3)).setCell ⟨g', 4, none⟩ (z4)) (fun k => k = g ∨ k = g') := by
  have s1 := set5 W g _ _ _ _ _ x0 x1 x2 x3 x4 25 h
  have o1 := only5 W g x0 x1 x2 x3 x4
  have t1 := (o1.block g' (Array.getElem?_eq_some_iff.1 h').1 (fun e => ne e.symm)).trans h'
  generalize (((((W.setCell ⟨g, 0, none⟩ (x0)).setCell ⟨g, 1, none⟩ (x1)).setCell ⟨g, 2, none⟩ (x2)).setCell ⟨g, 3, none⟩ (x3)).setCell ⟨g, 4, none⟩ (x4)) = W1 at s1 o1 t1 ⊢
  have s2 := set5 W1 g' _ _ _ _ _ z0 z1 z2 z3 z4 25 t1
  have o2 := only5 W1 g' z0 z1 z2 z3 z4
  have s3 := (o2.block g (Array.getElem?_eq_some_iff.1 s1).1 (fun e => ne e)).trans s1
  exact ⟨s3, s2, ⟨o2.os.trans o1.os, o2.tape.trans o1.tape, o2.output.trans o1.output, Nat.le_trans o1.size o2.size, fun k hk hn => (o2.block k (Nat.lt_of_lt_of_le hk o1.size) (fun e => hn (.inr e))).trans (o1.block k hk (fun e => hn (.inl e)))⟩⟩
set_option maxRecDepth 100000 in
set_option maxHeartbeats 4000000 in
theorem both_a (w : World) (n m n' m' : Int) (a1 a2 a3 b1 b2 b3 : Option Addr) (c1 c2 c3 d1 d2 d3 : Nat) (Sa Fa Sb Fb : List Int) (Ea Eb : List EdT) (hA : Hid (RdA w a1 a2 a3 Sa Fa Ea)) (_hB : Hid (RdA w b1 b2 b3 Sb Fb Eb)) (h1 : Sa.length ≤ 4194304) (h2 : Fa.length ≤ 4194304) (h3 : Ea.length ≤ 4194304) (_h4 : Sb.length ≤ 4194304) (_h5 : Fb.length ≤ 4194304) (_h6 : Eb.length ≤ 4194304) (em : mayA n m Sa Fa Ea = false) :
    Calls Tryz.prog 31 #[.agg #[.int .i64 n, .int .i64 m, .slice a1 Sa.length c1, .slice a2 Fa.length c2, .slice a3 Ea.length c3], .agg #[.int .i64 n', .int .i64 m', .slice b1 Sb.length d1, .slice b2 Fb.length d2, .slice b3 Eb.length d3]] w fun e w' => e = .returned (.tuple #[.agg #[.int .i64 0, .int .i64 0, .slice none 0 0, .slice none 0 0, .slice none 0 0], .agg #[.int .i64 0, .int .i64 0, .slice none 0 0, .slice none 0 0, .slice none 0 0], .int .i64 2]) ∧ Below w.heap.size w w' := by
  obtain ⟨W0, hW0⟩ : ∃ W0, (((w.alloc (.cells #[.int .i64 n, .int .i64 m, .slice a1 Sa.length c1, .slice a2 Fa.length c2, .slice a3 Ea.length c3] 25)).alloc (.cells #[.int .i64 n', .int .i64 m', .slice b1 Sb.length d1, .slice b2 Fb.length d2, .slice b3 Eb.length d3] 25)).alloc (.cells #[.int .i64 0, .int .i64 0, .slice none 0 0, .slice none 0 0, .slice none 0 0] 25)).alloc (.cells #[.int .i64 0, .int .i64 0, .slice none 0 0, .slice none 0 0, .slice none 0 0] 25) = W0 := ⟨_, rfl⟩
  have HD := hide (And.intro (box4 w (.cells #[.int .i64 n, .int .i64 m, .slice a1 Sa.length c1, .slice a2 Fa.length c2, .slice a3 Ea.length c3] 25) (.cells #[.int .i64 n', .int .i64 m', .slice b1 Sb.length d1, .slice b2 Fb.length d2, .slice b3 Eb.length d3] 25) (.cells #[.int .i64 0, .int .i64 0, .slice none 0 0, .slice none 0 0, .slice none 0 0] 25) (.cells #[.int .i64 0, .int .i64 0, .slice none 0 0, .slice none 0 0, .slice none 0 0] 25)) (show ((((w.alloc (.cells #[.int .i64 n, .int .i64 m, .slice a1 Sa.length c1, .slice a2 Fa.length c2, .slice a3 Ea.length c3] 25)).alloc (.cells #[.int .i64 n', .int .i64 m', .slice b1 Sb.length d1, .slice b2 Fb.length d2, .slice b3 Eb.length d3] 25)).alloc (.cells #[.int .i64 0, .int .i64 0, .slice none 0 0, .slice none 0 0, .slice none 0 0] 25)).alloc (.cells #[.int .i64 0, .int .i64 0, .slice none 0 0, .slice none 0 0, .slice none 0 0] 25)).heap.size = w.heap.size + 4 by simp))
  rw [hW0] at HD
  have y0 : W0.cell? ⟨w.heap.size, 0, none⟩ = some (.int .i64 n) := cell_of HD.out.1.2.1 rfl
  have y1 : W0.cell? ⟨w.heap.size, 1, none⟩ = some (.int .i64 m) := cell_of HD.out.1.2.1 rfl
  have y2 : W0.cell? ⟨w.heap.size, 2, none⟩ = some (.slice a1 Sa.length c1) := cell_of HD.out.1.2.1 rfl
  have y3 : W0.cell? ⟨w.heap.size, 3, none⟩ = some (.slice a2 Fa.length c2) := cell_of HD.out.1.2.1 rfl
  have y4 : W0.cell? ⟨w.heap.size, 4, none⟩ = some (.slice a3 Ea.length c3) := cell_of HD.out.1.2.1 rfl
  have TN := normal_bad W0 n m a1 a2 a3 c1 c2 c3 Sa Fa Ea (hide (hA.out.on HD.out.1.1)) h1 h2 h3 em
  clear em
  go_enter Tryz.func31, Tryz.ntmps31
  go_upto_region 3 with (go_at_call 53; refine TN.mono ?_; rintro e w1 ⟨rfl, D1⟩; have HF1 := hide D1; have F4 := blk_on HD.out.1.2.2.2.1 D1; have o0 : w1.cell? ⟨w.heap.size + 1 + 1, 0, none⟩ = some (.int .i64 0) := cell_of F4 rfl; have f0 : w1.frozen? ⟨w.heap.size + 1 + 1, 0, none⟩ = false := fz_of F4; have o1 : w1.cell? ⟨w.heap.size + 1 + 1, 1, none⟩ = some (.int .i64 0) := cell_of F4 rfl; have f1 : w1.frozen? ⟨w.heap.size + 1 + 1, 1, none⟩ = false := fz_of F4; have o2 : w1.cell? ⟨w.heap.size + 1 + 1, 2, none⟩ = some (.slice none 0 0) := cell_of F4 rfl; have f2 : w1.frozen? ⟨w.heap.size + 1 + 1, 2, none⟩ = false := fz_of F4; have o3 : w1.cell? ⟨w.heap.size + 1 + 1, 3, none⟩ = some (.slice none 0 0) := cell_of F4 rfl; have f3 : w1.frozen? ⟨w.heap.size + 1 + 1, 3, none⟩ = false := fz_of F4; have o4 : w1.cell? ⟨w.heap.size + 1 + 1, 4, none⟩ = some (.slice none 0 0) := cell_of F4 rfl; have f4 : w1.frozen? ⟨w.heap.size + 1 + 1, 4, none⟩ = false := fz_of F4; clear F4 D1)
  obtain ⟨W2, hW2⟩ : ∃ W2, (((((w1.setCell ⟨w.heap.size + 1 + 1, 0, none⟩ (.int .i64 0)).setCell ⟨w.heap.size + 1 + 1, 1, none⟩ (.int .i64 0)).setCell ⟨w.heap.size + 1 + 1, 2, none⟩ (.slice none 0 0)).setCell ⟨w.heap.size + 1 + 1, 3, none⟩ (.slice none 0 0)).setCell ⟨w.heap.size + 1 + 1, 4, none⟩ (.slice none 0 0)) = W2 := ⟨_, rfl⟩
  rw [hW2]
  have H2 : Hid (W2.heap[w.heap.size + 1 + 1]? = some (.cells #[.int .i64 0, .int .i64 0, .slice none 0 0, .slice none 0 0, .slice none 0 0] 25 (0, 0)) ∧ W2.heap[w.heap.size + 1 + 1 + 1]? = some (.cells #[.int .i64 0, .int .i64 0, .slice none 0 0, .slice none 0 0, .slice none 0 0] 25 (0, 0)) ∧ Below w.heap.size w W2) := hide (by
    have q4 := blk_on HD.out.1.2.2.2.1 HF1.out
    have q5 := blk_on HD.out.1.2.2.2.2 HF1.out
    have o := only5 w1 (w.heap.size + 1 + 1) (.int .i64 0) (.int .i64 0) (.slice none 0 0) (.slice none 0 0) (.slice none 0 0)
    have d := HD.out.1.1.trans (HF1.out.mono HD.out.1.1.size)
    rw [← hW2]
    exact ⟨set5 w1 (w.heap.size + 1 + 1) _ _ _ _ _ _ _ _ _ _ 25 q4, (o.block _ (Array.getElem?_eq_some_iff.1 q5).1 (by omega)).trans q5, d.trans (o.toBelow d.size (fun k hk => by omega))⟩)
  clear hW2 HF1 o0 f0 o1 f1 o2 f2 o3 f3 o4 f4
  have o0 : W2.cell? ⟨w.heap.size + 1 + 1, 0, none⟩ = some (.int .i64 0) := cell_of H2.out.1 rfl
  have f0 : W2.frozen? ⟨w.heap.size + 1 + 1, 0, none⟩ = false := fz_of H2.out.1
  have o1 : W2.cell? ⟨w.heap.size + 1 + 1, 1, none⟩ = some (.int .i64 0) := cell_of H2.out.1 rfl
  have f1 : W2.frozen? ⟨w.heap.size + 1 + 1, 1, none⟩ = false := fz_of H2.out.1
  have o2 : W2.cell? ⟨w.heap.size + 1 + 1, 2, none⟩ = some (.slice none 0 0) := cell_of H2.out.1 rfl
  have f2 : W2.frozen? ⟨w.heap.size + 1 + 1, 2, none⟩ = false := fz_of H2.out.1
  have o3 : W2.cell? ⟨w.heap.size + 1 + 1, 3, none⟩ = some (.slice none 0 0) := cell_of H2.out.1 rfl
  have f3 : W2.frozen? ⟨w.heap.size + 1 + 1, 3, none⟩ = false := fz_of H2.out.1
  have o4 : W2.cell? ⟨w.heap.size + 1 + 1, 4, none⟩ = some (.slice none 0 0) := cell_of H2.out.1 rfl
  have f4 : W2.frozen? ⟨w.heap.size + 1 + 1, 4, none⟩ = false := fz_of H2.out.1
  have p0 : W2.cell? ⟨w.heap.size + 1 + 1 + 1, 0, none⟩ = some (.int .i64 0) := cell_of H2.out.2.1 rfl
  have g0 : W2.frozen? ⟨w.heap.size + 1 + 1 + 1, 0, none⟩ = false := fz_of H2.out.2.1
  have p1 : W2.cell? ⟨w.heap.size + 1 + 1 + 1, 1, none⟩ = some (.int .i64 0) := cell_of H2.out.2.1 rfl
  have g1 : W2.frozen? ⟨w.heap.size + 1 + 1 + 1, 1, none⟩ = false := fz_of H2.out.2.1
  have p2 : W2.cell? ⟨w.heap.size + 1 + 1 + 1, 2, none⟩ = some (.slice none 0 0) := cell_of H2.out.2.1 rfl
  have g2 : W2.frozen? ⟨w.heap.size + 1 + 1 + 1, 2, none⟩ = false := fz_of H2.out.2.1
  have p3 : W2.cell? ⟨w.heap.size + 1 + 1 + 1, 3, none⟩ = some (.slice none 0 0) := cell_of H2.out.2.1 rfl
  have g3 : W2.frozen? ⟨w.heap.size + 1 + 1 + 1, 3, none⟩ = false := fz_of H2.out.2.1
  have p4 : W2.cell? ⟨w.heap.size + 1 + 1 + 1, 4, none⟩ = some (.slice none 0 0) := cell_of H2.out.2.1 rfl
  have g4 : W2.frozen? ⟨w.heap.size + 1 + 1 + 1, 4, none⟩ = false := fz_of H2.out.2.1
  have O6 := hide (two5 (x0 := .int .i64 0) (x1 := .int .i64 0) (x2 := .slice none 0 0) (x3 := .slice none 0 0) (x4 := .slice none 0 0) (z0 := .int .i64 0) (z1 := .int .i64 0) (z2 := .slice none 0 0) (z3 := .slice none 0 0) (z4 := .slice none 0 0) H2.out.1 H2.out.2.1 (by omega))
  go_wp2_with fail
  refine bodyPost_ret (results_c2 (p := 4) (q := 5) (r := 6) (ty := 25) rfl _ _ (w.heap.size + 1 + 1) (w.heap.size + 1 + 1 + 1) 25 _ _ (0, 0) _ _ rfl rfl rfl O6.out.1 O6.out.2.1 Tryz.underlying25 rfl (by kernel_rfl) (by kernel_rfl)) rfl ?_
  exact ⟨rfl, H2.out.2.2.trans (O6.out.2.2.toBelow H2.out.2.2.size (fun k hk => by omega))⟩
theorem ownO_own {B : Nat} {w : World} {g1 k1 g2 k2 g3 k3 : Nat} {S F : List Int} {E : List EdT} (h : Own B w g1 k1 g2 k2 g3 k3 S F E) : OwnO B w (.slice (some ⟨g1, 0, none⟩) S.length k1) (.slice (some ⟨g2, 0, none⟩) F.length k2) (.slice (some ⟨g3, 0, none⟩) E.length k3) S F E :=
  ⟨h.s, h.f, h.e, fun g hg hh => by
    simp only [Value.ownBlock, Option.some.injEq] at hg hh
    exact h.n12 (hg.trans hh.symm)⟩
set_option maxRecDepth 100000 in
set_option maxHeartbeats 4000000 in
theorem both_b (w : World) (n m n' m' : Int) (a1 a2 a3 b1 b2 b3 : Option Addr) (c1 c2 c3 d1 d2 d3 : Nat) (Sa Fa Sb Fb : List Int) (Ea Eb : List EdT) (hA : Hid (RdA w a1 a2 a3 Sa Fa Ea)) (hB : Hid (RdA w b1 b2 b3 Sb Fb Eb)) (h1 : Sa.length ≤ 4194304) (h2 : Fa.length ≤ 4194304) (h3 : Ea.length ≤ 4194304) (h4 : Sb.length ≤ 4194304) (h5 : Fb.length ≤ 4194304) (h6 : Eb.length ≤ 4194304) (em : mayA n m Sa Fa Ea = true) (em' : mayA n' m' Sb Fb Eb = false) :
    Calls Tryz.prog 31 #[.agg #[.int .i64 n, .int .i64 m, .slice a1 Sa.length c1, .slice a2 Fa.length c2, .slice a3 Ea.length c3], .agg #[.int .i64 n', .int .i64 m', .slice b1 Sb.length d1, .slice b2 Fb.length d2, .slice b3 Eb.length d3]] w fun e w' => e = .returned (.tuple #[.agg #[.int .i64 0, .int .i64 0, .slice none 0 0, .slice none 0 0, .slice none 0 0], .agg #[.int .i64 0, .int .i64 0, .slice none 0 0, .slice none 0 0, .slice none 0 0], .int .i64 2]) ∧ Below w.heap.size w w' := by
  obtain ⟨W0, hW0⟩ : ∃ W0, (((w.alloc (.cells #[.int .i64 n, .int .i64 m, .slice a1 Sa.length c1, .slice a2 Fa.length c2, .slice a3 Ea.length c3] 25)).alloc (.cells #[.int .i64 n', .int .i64 m', .slice b1 Sb.length d1, .slice b2 Fb.length d2, .slice b3 Eb.length d3] 25)).alloc (.cells #[.int .i64 0, .int .i64 0, .slice none 0 0, .slice none 0 0, .slice none 0 0] 25)).alloc (.cells #[.int .i64 0, .int .i64 0, .slice none 0 0, .slice none 0 0, .slice none 0 0] 25) = W0 := ⟨_, rfl⟩
  have HD := hide (And.intro (box4 w (.cells #[.int .i64 n, .int .i64 m, .slice a1 Sa.length c1, .slice a2 Fa.length c2, .slice a3 Ea.length c3] 25) (.cells #[.int .i64 n', .int .i64 m', .slice b1 Sb.length d1, .slice b2 Fb.length d2, .slice b3 Eb.length d3] 25) (.cells #[.int .i64 0, .int .i64 0, .slice none 0 0, .slice none 0 0, .slice none 0 0] 25) (.cells #[.int .i64 0, .int .i64 0, .slice none 0 0, .slice none 0 0, .slice none 0 0] 25)) (show ((((w.alloc (.cells #[.int .i64 n, .int .i64 m, .slice a1 Sa.length c1, .slice a2 Fa.length c2, .slice a3 Ea.length c3] 25)).alloc (.cells #[.int .i64 n', .int .i64 m', .slice b1 Sb.length d1, .slice b2 Fb.length d2, .slice b3 Eb.length d3] 25)).alloc (.cells #[.int .i64 0, .int .i64 0, .slice none 0 0, .slice none 0 0, .slice none 0 0] 25)).alloc (.cells #[.int .i64 0, .int .i64 0, .slice none 0 0, .slice none 0 0, .slice none 0 0] 25)).heap.size = w.heap.size + 4 by simp))
  rw [hW0] at HD
  have y0 : W0.cell? ⟨w.heap.size, 0, none⟩ = some (.int .i64 n) := cell_of HD.out.1.2.1 rfl
  have y1 : W0.cell? ⟨w.heap.size, 1, none⟩ = some (.int .i64 m) := cell_of HD.out.1.2.1 rfl
  have y2 : W0.cell? ⟨w.heap.size, 2, none⟩ = some (.slice a1 Sa.length c1) := cell_of HD.out.1.2.1 rfl
  have y3 : W0.cell? ⟨w.heap.size, 3, none⟩ = some (.slice a2 Fa.length c2) := cell_of HD.out.1.2.1 rfl
  have y4 : W0.cell? ⟨w.heap.size, 4, none⟩ = some (.slice a3 Ea.length c3) := cell_of HD.out.1.2.1 rfl
  have TN := normal_ok W0 n m a1 a2 a3 c1 c2 c3 Sa Fa Ea (hide (hA.out.on HD.out.1.1)) h1 h2 h3 em
  obtain ⟨S1, hS1⟩ : ∃ X, riseL Sa = X := ⟨_, rfl⟩
  obtain ⟨F1, hF1⟩ : ∃ X, riseL Fa = X := ⟨_, rfl⟩
  obtain ⟨E1, hE1⟩ : ∃ X, riseE Ea = X := ⟨_, rfl⟩
  rw [hS1, hF1, hE1] at TN
  clear em hS1 hF1 hE1
  go_enter Tryz.func31, Tryz.ntmps31
  go_upto_region 4 with (go_at_call 53; refine TN.mono ?_; rintro e w1 ⟨g1, k1, g2, k2, g3, k3, rfl, HO, D1⟩; have HF1 := hide (And.intro D1 HO); have F4 := blk_on HD.out.1.2.2.2.1 D1; have o0 : w1.cell? ⟨w.heap.size + 1 + 1, 0, none⟩ = some (.int .i64 0) := cell_of F4 rfl; have f0 : w1.frozen? ⟨w.heap.size + 1 + 1, 0, none⟩ = false := fz_of F4; have o1 : w1.cell? ⟨w.heap.size + 1 + 1, 1, none⟩ = some (.int .i64 0) := cell_of F4 rfl; have f1 : w1.frozen? ⟨w.heap.size + 1 + 1, 1, none⟩ = false := fz_of F4; have o2 : w1.cell? ⟨w.heap.size + 1 + 1, 2, none⟩ = some (.slice none 0 0) := cell_of F4 rfl; have f2 : w1.frozen? ⟨w.heap.size + 1 + 1, 2, none⟩ = false := fz_of F4; have o3 : w1.cell? ⟨w.heap.size + 1 + 1, 3, none⟩ = some (.slice none 0 0) := cell_of F4 rfl; have f3 : w1.frozen? ⟨w.heap.size + 1 + 1, 3, none⟩ = false := fz_of F4; have o4 : w1.cell? ⟨w.heap.size + 1 + 1, 4, none⟩ = some (.slice none 0 0) := cell_of F4 rfl; have f4 : w1.frozen? ⟨w.heap.size + 1 + 1, 4, none⟩ = false := fz_of F4; clear F4 D1 HO)
  obtain ⟨W2, hW2⟩ : ∃ W2, (((((w1.setCell ⟨w.heap.size + 1 + 1, 0, none⟩ (.int .i64 n)).setCell ⟨w.heap.size + 1 + 1, 1, none⟩ (.int .i64 m)).setCell ⟨w.heap.size + 1 + 1, 2, none⟩ (.slice (some ⟨g1, 0, none⟩) S1.length k1)).setCell ⟨w.heap.size + 1 + 1, 3, none⟩ (.slice (some ⟨g2, 0, none⟩) F1.length k2)).setCell ⟨w.heap.size + 1 + 1, 4, none⟩ (.slice (some ⟨g3, 0, none⟩) E1.length k3)) = W2 := ⟨_, rfl⟩
  rw [hW2]
  have H2 : Hid (W2.heap[w.heap.size + 1 + 1]? = some (.cells #[.int .i64 n, .int .i64 m, .slice (some ⟨g1, 0, none⟩) S1.length k1, .slice (some ⟨g2, 0, none⟩) F1.length k2, .slice (some ⟨g3, 0, none⟩) E1.length k3] 25 (0, 0)) ∧ W2.heap[w.heap.size + 1 + 1 + 1]? = some (.cells #[.int .i64 0, .int .i64 0, .slice none 0 0, .slice none 0 0, .slice none 0 0] 25 (0, 0)) ∧ Below w.heap.size w W2 ∧ W2.heap[w.heap.size + 1]? = some (.cells #[.int .i64 n', .int .i64 m', .slice b1 Sb.length d1, .slice b2 Fb.length d2, .slice b3 Eb.length d3] 25 (0, 0)) ∧ OwnO w.heap.size W2 (.slice (some ⟨g1, 0, none⟩) S1.length k1) (.slice (some ⟨g2, 0, none⟩) F1.length k2) (.slice (some ⟨g3, 0, none⟩) E1.length k3) S1 F1 E1) := hide (by
    have q4 := blk_on HD.out.1.2.2.2.1 HF1.out.1
    have q5 := blk_on HD.out.1.2.2.2.2 HF1.out.1
    have q1 := blk_on HD.out.1.2.2.1 HF1.out.1
    have o := only5 w1 (w.heap.size + 1 + 1) (.int .i64 n) (.int .i64 m) (.slice (some ⟨g1, 0, none⟩) S1.length k1) (.slice (some ⟨g2, 0, none⟩) F1.length k2) (.slice (some ⟨g3, 0, none⟩) E1.length k3)
    have d := HD.out.1.1.trans (HF1.out.1.mono HD.out.1.1.size)
    have s0 := HD.out.1.1.size
    have ow : OwnO W0.heap.size w1 (.slice (some ⟨g1, 0, none⟩) S1.length k1) (.slice (some ⟨g2, 0, none⟩) F1.length k2) (.slice (some ⟨g3, 0, none⟩) E1.length k3) S1 F1 E1 := ownO_own HF1.out.2
    rw [← hW2]
    exact ⟨set5 w1 (w.heap.size + 1 + 1) _ _ _ _ _ _ _ _ _ _ 25 q4, (o.block _ (Array.getElem?_eq_some_iff.1 q5).1 (by omega)).trans q5, d.trans (o.toBelow d.size (fun k hk => by omega)), (o.block _ (Array.getElem?_eq_some_iff.1 q1).1 (by omega)).trans q1, (ow.keep q4 o).down (by omega)⟩)
  clear hW2 HF1 TN o0 f0 y0 o1 f1 y1 o2 f2 y2 o3 f3 y3 o4 f4 y4
  have y0 : W2.cell? ⟨w.heap.size + 1, 0, none⟩ = some (.int .i64 n') := cell_of H2.out.2.2.2.1 rfl
  have y1 : W2.cell? ⟨w.heap.size + 1, 1, none⟩ = some (.int .i64 m') := cell_of H2.out.2.2.2.1 rfl
  have y2 : W2.cell? ⟨w.heap.size + 1, 2, none⟩ = some (.slice b1 Sb.length d1) := cell_of H2.out.2.2.2.1 rfl
  have y3 : W2.cell? ⟨w.heap.size + 1, 3, none⟩ = some (.slice b2 Fb.length d2) := cell_of H2.out.2.2.2.1 rfl
  have y4 : W2.cell? ⟨w.heap.size + 1, 4, none⟩ = some (.slice b3 Eb.length d3) := cell_of H2.out.2.2.2.1 rfl
  have TB := normal_bad W2 n' m' b1 b2 b3 d1 d2 d3 Sb Fb Eb (hide (hB.out.on H2.out.2.2.1)) h4 h5 h6 em'
  clear em'
  go_upto_region 6 with (go_at_call 53; refine TB.mono ?_; rintro e w3 ⟨rfl, D3⟩; have HF3 := hide D3; have F5 := blk_on H2.out.2.1 D3; have o0 : w3.cell? ⟨w.heap.size + 1 + 1 + 1, 0, none⟩ = some (.int .i64 0) := cell_of F5 rfl; have f0 : w3.frozen? ⟨w.heap.size + 1 + 1 + 1, 0, none⟩ = false := fz_of F5; have o1 : w3.cell? ⟨w.heap.size + 1 + 1 + 1, 1, none⟩ = some (.int .i64 0) := cell_of F5 rfl; have f1 : w3.frozen? ⟨w.heap.size + 1 + 1 + 1, 1, none⟩ = false := fz_of F5; have o2 : w3.cell? ⟨w.heap.size + 1 + 1 + 1, 2, none⟩ = some (.slice none 0 0) := cell_of F5 rfl; have f2 : w3.frozen? ⟨w.heap.size + 1 + 1 + 1, 2, none⟩ = false := fz_of F5; have o3 : w3.cell? ⟨w.heap.size + 1 + 1 + 1, 3, none⟩ = some (.slice none 0 0) := cell_of F5 rfl; have f3 : w3.frozen? ⟨w.heap.size + 1 + 1 + 1, 3, none⟩ = false := fz_of F5; have o4 : w3.cell? ⟨w.heap.size + 1 + 1 + 1, 4, none⟩ = some (.slice none 0 0) := cell_of F5 rfl; have f4 : w3.frozen? ⟨w.heap.size + 1 + 1 + 1, 4, none⟩ = false := fz_of F5; clear F5 D3)
  obtain ⟨W4, hW4⟩ : ∃ W4, (((((w3.setCell ⟨w.heap.size + 1 + 1 + 1, 0, none⟩ (.int .i64 0)).setCell ⟨w.heap.size + 1 + 1 + 1, 1, none⟩ (.int .i64 0)).setCell ⟨w.heap.size + 1 + 1 + 1, 2, none⟩ (.slice none 0 0)).setCell ⟨w.heap.size + 1 + 1 + 1, 3, none⟩ (.slice none 0 0)).setCell ⟨w.heap.size + 1 + 1 + 1, 4, none⟩ (.slice none 0 0)) = W4 := ⟨_, rfl⟩
  rw [hW4]
  have H4 : Hid (W4.heap[w.heap.size + 1 + 1]? = some (.cells #[.int .i64 n, .int .i64 m, .slice (some ⟨g1, 0, none⟩) S1.length k1, .slice (some ⟨g2, 0, none⟩) F1.length k2, .slice (some ⟨g3, 0, none⟩) E1.length k3] 25 (0, 0)) ∧ W4.heap[w.heap.size + 1 + 1 + 1]? = some (.cells #[.int .i64 0, .int .i64 0, .slice none 0 0, .slice none 0 0, .slice none 0 0] 25 (0, 0)) ∧ Below w.heap.size w W4) := hide (by
    have q4 := blk_on H2.out.1 HF3.out
    have q5 := blk_on H2.out.2.1 HF3.out
    have o := only5 w3 (w.heap.size + 1 + 1 + 1) (.int .i64 0) (.int .i64 0) (.slice none 0 0) (.slice none 0 0) (.slice none 0 0)
    have d := H2.out.2.2.1.trans (HF3.out.mono H2.out.2.2.1.size)
    rw [← hW4]
    exact ⟨(o.block _ (Array.getElem?_eq_some_iff.1 q4).1 (by omega)).trans q4, set5 w3 (w.heap.size + 1 + 1 + 1) _ _ _ _ _ _ _ _ _ _ 25 q5, d.trans (o.toBelow d.size (fun k hk => by omega))⟩)
  clear hW4 HF3 TB H2 o0 f0 y0 o1 f1 y1 o2 f2 y2 o3 f3 y3 o4 f4 y4
  have o0 : W4.cell? ⟨w.heap.size + 1 + 1, 0, none⟩ = some (.int .i64 n) := cell_of H4.out.1 rfl
  have f0 : W4.frozen? ⟨w.heap.size + 1 + 1, 0, none⟩ = false := fz_of H4.out.1
  have o1 : W4.cell? ⟨w.heap.size + 1 + 1, 1, none⟩ = some (.int .i64 m) := cell_of H4.out.1 rfl
  have f1 : W4.frozen? ⟨w.heap.size + 1 + 1, 1, none⟩ = false := fz_of H4.out.1
  have o2 : W4.cell? ⟨w.heap.size + 1 + 1, 2, none⟩ = some (.slice (some ⟨g1, 0, none⟩) S1.length k1) := cell_of H4.out.1 rfl
  have f2 : W4.frozen? ⟨w.heap.size + 1 + 1, 2, none⟩ = false := fz_of H4.out.1
  have o3 : W4.cell? ⟨w.heap.size + 1 + 1, 3, none⟩ = some (.slice (some ⟨g2, 0, none⟩) F1.length k2) := cell_of H4.out.1 rfl
  have f3 : W4.frozen? ⟨w.heap.size + 1 + 1, 3, none⟩ = false := fz_of H4.out.1
  have o4 : W4.cell? ⟨w.heap.size + 1 + 1, 4, none⟩ = some (.slice (some ⟨g3, 0, none⟩) E1.length k3) := cell_of H4.out.1 rfl
  have f4 : W4.frozen? ⟨w.heap.size + 1 + 1, 4, none⟩ = false := fz_of H4.out.1
  have p0 : W4.cell? ⟨w.heap.size + 1 + 1 + 1, 0, none⟩ = some (.int .i64 0) := cell_of H4.out.2.1 rfl
  have g0 : W4.frozen? ⟨w.heap.size + 1 + 1 + 1, 0, none⟩ = false := fz_of H4.out.2.1
  have p1 : W4.cell? ⟨w.heap.size + 1 + 1 + 1, 1, none⟩ = some (.int .i64 0) := cell_of H4.out.2.1 rfl
  have g1 : W4.frozen? ⟨w.heap.size + 1 + 1 + 1, 1, none⟩ = false := fz_of H4.out.2.1
  have p2 : W4.cell? ⟨w.heap.size + 1 + 1 + 1, 2, none⟩ = some (.slice none 0 0) := cell_of H4.out.2.1 rfl
  have g2 : W4.frozen? ⟨w.heap.size + 1 + 1 + 1, 2, none⟩ = false := fz_of H4.out.2.1
  have p3 : W4.cell? ⟨w.heap.size + 1 + 1 + 1, 3, none⟩ = some (.slice none 0 0) := cell_of H4.out.2.1 rfl
  have g3 : W4.frozen? ⟨w.heap.size + 1 + 1 + 1, 3, none⟩ = false := fz_of H4.out.2.1
  have p4 : W4.cell? ⟨w.heap.size + 1 + 1 + 1, 4, none⟩ = some (.slice none 0 0) := cell_of H4.out.2.1 rfl
  have g4 : W4.frozen? ⟨w.heap.size + 1 + 1 + 1, 4, none⟩ = false := fz_of H4.out.2.1
  have O6 := hide (two5 (x0 := .int .i64 0) (z0 := .int .i64 0) (x1 := .int .i64 0) (z1 := .int .i64 0) (x2 := .slice none 0 0) (z2 := .slice none 0 0) (x3 := .slice none 0 0) (z3 := .slice none 0 0) (x4 := .slice none 0 0) (z4 := .slice none 0 0) H4.out.1 H4.out.2.1 (by omega))
  go_wp2_with fail
  refine bodyPost_ret (results_c2 (p := 4) (q := 5) (r := 6) (ty := 25) rfl _ _ (w.heap.size + 1 + 1) (w.heap.size + 1 + 1 + 1) 25 _ _ (0, 0) _ _ rfl rfl rfl O6.out.1 O6.out.2.1 Tryz.underlying25 rfl (by kernel_rfl) (by kernel_rfl)) rfl ?_
  exact ⟨rfl, H4.out.2.2.trans (O6.out.2.2.toBelow H4.out.2.2.size (fun k hk => by omega))⟩
set_option maxRecDepth 100000 in
set_option maxHeartbeats 4000000 in
theorem both_m (w : World) (n m n' m' : Int) (a1 a2 a3 b1 b2 b3 : Option Addr) (c1 c2 c3 d1 d2 d3 : Nat) (Sa Fa Sb Fb : List Int) (Ea Eb : List EdT) (hA : Hid (RdA w a1 a2 a3 Sa Fa Ea)) (hB : Hid (RdA w b1 b2 b3 Sb Fb Eb)) (h1 : Sa.length ≤ 4194304) (h2 : Fa.length ≤ 4194304) (h3 : Ea.length ≤ 4194304) (h4 : Sb.length ≤ 4194304) (h5 : Fb.length ≤ 4194304) (h6 : Eb.length ≤ 4194304) (em : mayA n m Sa Fa Ea = true) (em' : mayA n' m' Sb Fb Eb = true) (hm : m ≠ m') :
    Calls Tryz.prog 31 #[.agg #[.int .i64 n, .int .i64 m, .slice a1 Sa.length c1, .slice a2 Fa.length c2, .slice a3 Ea.length c3], .agg #[.int .i64 n', .int .i64 m', .slice b1 Sb.length d1, .slice b2 Fb.length d2, .slice b3 Eb.length d3]] w fun e w' => e = .returned (.tuple #[.agg #[.int .i64 0, .int .i64 0, .slice none 0 0, .slice none 0 0, .slice none 0 0], .agg #[.int .i64 0, .int .i64 0, .slice none 0 0, .slice none 0 0, .slice none 0 0], .int .i64 6]) ∧ Below w.heap.size w w' := by
  obtain ⟨W0, hW0⟩ : ∃ W0, (((w.alloc (.cells #[.int .i64 n, .int .i64 m, .slice a1 Sa.length c1, .slice a2 Fa.length c2, .slice a3 Ea.length c3] 25)).alloc (.cells #[.int .i64 n', .int .i64 m', .slice b1 Sb.length d1, .slice b2 Fb.length d2, .slice b3 Eb.length d3] 25)).alloc (.cells #[.int .i64 0, .int .i64 0, .slice none 0 0, .slice none 0 0, .slice none 0 0] 25)).alloc (.cells #[.int .i64 0, .int .i64 0, .slice none 0 0, .slice none 0 0, .slice none 0 0] 25) = W0 := ⟨_, rfl⟩
  have HD := hide (And.intro (box4 w (.cells #[.int .i64 n, .int .i64 m, .slice a1 Sa.length c1, .slice a2 Fa.length c2, .slice a3 Ea.length c3] 25) (.cells #[.int .i64 n', .int .i64 m', .slice b1 Sb.length d1, .slice b2 Fb.length d2, .slice b3 Eb.length d3] 25) (.cells #[.int .i64 0, .int .i64 0, .slice none 0 0, .slice none 0 0, .slice none 0 0] 25) (.cells #[.int .i64 0, .int .i64 0, .slice none 0 0, .slice none 0 0, .slice none 0 0] 25)) (show ((((w.alloc (.cells #[.int .i64 n, .int .i64 m, .slice a1 Sa.length c1, .slice a2 Fa.length c2, .slice a3 Ea.length c3] 25)).alloc (.cells #[.int .i64 n', .int .i64 m', .slice b1 Sb.length d1, .slice b2 Fb.length d2, .slice b3 Eb.length d3] 25)).alloc (.cells #[.int .i64 0, .int .i64 0, .slice none 0 0, .slice none 0 0, .slice none 0 0] 25)).alloc (.cells #[.int .i64 0, .int .i64 0, .slice none 0 0, .slice none 0 0, .slice none 0 0] 25)).heap.size = w.heap.size + 4 by simp))
  rw [hW0] at HD
  have y0 : W0.cell? ⟨w.heap.size, 0, none⟩ = some (.int .i64 n) := cell_of HD.out.1.2.1 rfl
  have y1 : W0.cell? ⟨w.heap.size, 1, none⟩ = some (.int .i64 m) := cell_of HD.out.1.2.1 rfl
  have y2 : W0.cell? ⟨w.heap.size, 2, none⟩ = some (.slice a1 Sa.length c1) := cell_of HD.out.1.2.1 rfl
  have y3 : W0.cell? ⟨w.heap.size, 3, none⟩ = some (.slice a2 Fa.length c2) := cell_of HD.out.1.2.1 rfl
  have y4 : W0.cell? ⟨w.heap.size, 4, none⟩ = some (.slice a3 Ea.length c3) := cell_of HD.out.1.2.1 rfl
  have TN := normal_ok W0 n m a1 a2 a3 c1 c2 c3 Sa Fa Ea (hide (hA.out.on HD.out.1.1)) h1 h2 h3 em
  obtain ⟨S1, hS1⟩ : ∃ X, riseL Sa = X := ⟨_, rfl⟩
  obtain ⟨F1, hF1⟩ : ∃ X, riseL Fa = X := ⟨_, rfl⟩
  obtain ⟨E1, hE1⟩ : ∃ X, riseE Ea = X := ⟨_, rfl⟩
  rw [hS1, hF1, hE1] at TN
  clear em hS1 hF1 hE1
  go_enter Tryz.func31, Tryz.ntmps31
  go_upto_region 4 with (go_at_call 53; refine TN.mono ?_; rintro e w1 ⟨g1, k1, g2, k2, g3, k3, rfl, HO, D1⟩; have HF1 := hide (And.intro D1 HO); have F4 := blk_on HD.out.1.2.2.2.1 D1; have o0 : w1.cell? ⟨w.heap.size + 1 + 1, 0, none⟩ = some (.int .i64 0) := cell_of F4 rfl; have f0 : w1.frozen? ⟨w.heap.size + 1 + 1, 0, none⟩ = false := fz_of F4; have o1 : w1.cell? ⟨w.heap.size + 1 + 1, 1, none⟩ = some (.int .i64 0) := cell_of F4 rfl; have f1 : w1.frozen? ⟨w.heap.size + 1 + 1, 1, none⟩ = false := fz_of F4; have o2 : w1.cell? ⟨w.heap.size + 1 + 1, 2, none⟩ = some (.slice none 0 0) := cell_of F4 rfl; have f2 : w1.frozen? ⟨w.heap.size + 1 + 1, 2, none⟩ = false := fz_of F4; have o3 : w1.cell? ⟨w.heap.size + 1 + 1, 3, none⟩ = some (.slice none 0 0) := cell_of F4 rfl; have f3 : w1.frozen? ⟨w.heap.size + 1 + 1, 3, none⟩ = false := fz_of F4; have o4 : w1.cell? ⟨w.heap.size + 1 + 1, 4, none⟩ = some (.slice none 0 0) := cell_of F4 rfl; have f4 : w1.frozen? ⟨w.heap.size + 1 + 1, 4, none⟩ = false := fz_of F4; clear F4 D1 HO)
  obtain ⟨W2, hW2⟩ : ∃ W2, (((((w1.setCell ⟨w.heap.size + 1 + 1, 0, none⟩ (.int .i64 n)).setCell ⟨w.heap.size + 1 + 1, 1, none⟩ (.int .i64 m)).setCell ⟨w.heap.size + 1 + 1, 2, none⟩ (.slice (some ⟨g1, 0, none⟩) S1.length k1)).setCell ⟨w.heap.size + 1 + 1, 3, none⟩ (.slice (some ⟨g2, 0, none⟩) F1.length k2)).setCell ⟨w.heap.size + 1 + 1, 4, none⟩ (.slice (some ⟨g3, 0, none⟩) E1.length k3)) = W2 := ⟨_, rfl⟩
  rw [hW2]
  have H2 : Hid (W2.heap[w.heap.size + 1 + 1]? = some (.cells #[.int .i64 n, .int .i64 m, .slice (some ⟨g1, 0, none⟩) S1.length k1, .slice (some ⟨g2, 0, none⟩) F1.length k2, .slice (some ⟨g3, 0, none⟩) E1.length k3] 25 (0, 0)) ∧ W2.heap[w.heap.size + 1 + 1 + 1]? = some (.cells #[.int .i64 0, .int .i64 0, .slice none 0 0, .slice none 0 0, .slice none 0 0] 25 (0, 0)) ∧ Below w.heap.size w W2 ∧ W2.heap[w.heap.size + 1]? = some (.cells #[.int .i64 n', .int .i64 m', .slice b1 Sb.length d1, .slice b2 Fb.length d2, .slice b3 Eb.length d3] 25 (0, 0)) ∧ OwnO w.heap.size W2 (.slice (some ⟨g1, 0, none⟩) S1.length k1) (.slice (some ⟨g2, 0, none⟩) F1.length k2) (.slice (some ⟨g3, 0, none⟩) E1.length k3) S1 F1 E1) := hide (by
    have q4 := blk_on HD.out.1.2.2.2.1 HF1.out.1
    have q5 := blk_on HD.out.1.2.2.2.2 HF1.out.1
    have q1 := blk_on HD.out.1.2.2.1 HF1.out.1
    have o := only5 w1 (w.heap.size + 1 + 1) (.int .i64 n) (.int .i64 m) (.slice (some ⟨g1, 0, none⟩) S1.length k1) (.slice (some ⟨g2, 0, none⟩) F1.length k2) (.slice (some ⟨g3, 0, none⟩) E1.length k3)
    have d := HD.out.1.1.trans (HF1.out.1.mono HD.out.1.1.size)
    have s0 := HD.out.1.1.size
    have ow : OwnO W0.heap.size w1 (.slice (some ⟨g1, 0, none⟩) S1.length k1) (.slice (some ⟨g2, 0, none⟩) F1.length k2) (.slice (some ⟨g3, 0, none⟩) E1.length k3) S1 F1 E1 := ownO_own HF1.out.2
    rw [← hW2]
    exact ⟨set5 w1 (w.heap.size + 1 + 1) _ _ _ _ _ _ _ _ _ _ 25 q4, (o.block _ (Array.getElem?_eq_some_iff.1 q5).1 (by omega)).trans q5, d.trans (o.toBelow d.size (fun k hk => by omega)), (o.block _ (Array.getElem?_eq_some_iff.1 q1).1 (by omega)).trans q1, (ow.keep q4 o).down (by omega)⟩)
  clear hW2 HF1 TN o0 f0 y0 o1 f1 y1 o2 f2 y2 o3 f3 y3 o4 f4 y4
  have y0 : W2.cell? ⟨w.heap.size + 1, 0, none⟩ = some (.int .i64 n') := cell_of H2.out.2.2.2.1 rfl
  have y1 : W2.cell? ⟨w.heap.size + 1, 1, none⟩ = some (.int .i64 m') := cell_of H2.out.2.2.2.1 rfl
  have y2 : W2.cell? ⟨w.heap.size + 1, 2, none⟩ = some (.slice b1 Sb.length d1) := cell_of H2.out.2.2.2.1 rfl
  have y3 : W2.cell? ⟨w.heap.size + 1, 3, none⟩ = some (.slice b2 Fb.length d2) := cell_of H2.out.2.2.2.1 rfl
  have y4 : W2.cell? ⟨w.heap.size + 1, 4, none⟩ = some (.slice b3 Eb.length d3) := cell_of H2.out.2.2.2.1 rfl
  have TB := normal_ok W2 n' m' b1 b2 b3 d1 d2 d3 Sb Fb Eb (hide (hB.out.on H2.out.2.2.1)) h4 h5 h6 em'
  obtain ⟨S2, hS2⟩ : ∃ X, riseL Sb = X := ⟨_, rfl⟩
  obtain ⟨F2, hF2⟩ : ∃ X, riseL Fb = X := ⟨_, rfl⟩
  obtain ⟨E2, hE2⟩ : ∃ X, riseE Eb = X := ⟨_, rfl⟩
  rw [hS2, hF2, hE2] at TB
  have HR2 := hide (And.intro hS2 (And.intro hF2 hE2))
  clear em' hS2 hF2 hE2
  go_upto_region 7 with (go_at_call 53; refine TB.mono ?_; rintro e w3 ⟨r1, q1, r2, q2, r3, q3, rfl, HO, D3⟩; have HF3 := hide (And.intro D3 HO); have F5 := blk_on H2.out.2.1 D3; have o0 : w3.cell? ⟨w.heap.size + 1 + 1 + 1, 0, none⟩ = some (.int .i64 0) := cell_of F5 rfl; have f0 : w3.frozen? ⟨w.heap.size + 1 + 1 + 1, 0, none⟩ = false := fz_of F5; have o1 : w3.cell? ⟨w.heap.size + 1 + 1 + 1, 1, none⟩ = some (.int .i64 0) := cell_of F5 rfl; have f1 : w3.frozen? ⟨w.heap.size + 1 + 1 + 1, 1, none⟩ = false := fz_of F5; have o2 : w3.cell? ⟨w.heap.size + 1 + 1 + 1, 2, none⟩ = some (.slice none 0 0) := cell_of F5 rfl; have f2 : w3.frozen? ⟨w.heap.size + 1 + 1 + 1, 2, none⟩ = false := fz_of F5; have o3 : w3.cell? ⟨w.heap.size + 1 + 1 + 1, 3, none⟩ = some (.slice none 0 0) := cell_of F5 rfl; have f3 : w3.frozen? ⟨w.heap.size + 1 + 1 + 1, 3, none⟩ = false := fz_of F5; have o4 : w3.cell? ⟨w.heap.size + 1 + 1 + 1, 4, none⟩ = some (.slice none 0 0) := cell_of F5 rfl; have f4 : w3.frozen? ⟨w.heap.size + 1 + 1 + 1, 4, none⟩ = false := fz_of F5; clear F5 D3 HO)
  obtain ⟨W4, hW4⟩ : ∃ W4, (((((w3.setCell ⟨w.heap.size + 1 + 1 + 1, 0, none⟩ (.int .i64 n')).setCell ⟨w.heap.size + 1 + 1 + 1, 1, none⟩ (.int .i64 m')).setCell ⟨w.heap.size + 1 + 1 + 1, 2, none⟩ (.slice (some ⟨r1, 0, none⟩) S2.length q1)).setCell ⟨w.heap.size + 1 + 1 + 1, 3, none⟩ (.slice (some ⟨r2, 0, none⟩) F2.length q2)).setCell ⟨w.heap.size + 1 + 1 + 1, 4, none⟩ (.slice (some ⟨r3, 0, none⟩) E2.length q3)) = W4 := ⟨_, rfl⟩
  rw [hW4]
  have H4 : Hid (W4.heap[w.heap.size + 1 + 1]? = some (.cells #[.int .i64 n, .int .i64 m, .slice (some ⟨g1, 0, none⟩) S1.length k1, .slice (some ⟨g2, 0, none⟩) F1.length k2, .slice (some ⟨g3, 0, none⟩) E1.length k3] 25 (0, 0)) ∧ W4.heap[w.heap.size + 1 + 1 + 1]? = some (.cells #[.int .i64 n', .int .i64 m', .slice (some ⟨r1, 0, none⟩) S2.length q1, .slice (some ⟨r2, 0, none⟩) F2.length q2, .slice (some ⟨r3, 0, none⟩) E2.length q3] 25 (0, 0)) ∧ Below w.heap.size w W4 ∧ OwnO w.heap.size W4 (.slice (some ⟨g1, 0, none⟩) S1.length k1) (.slice (some ⟨g2, 0, none⟩) F1.length k2) (.slice (some ⟨g3, 0, none⟩) E1.length k3) S1 F1 E1 ∧ OwnO w.heap.size W4 (.slice (some ⟨r1, 0, none⟩) S2.length q1) (.slice (some ⟨r2, 0, none⟩) F2.length q2) (.slice (some ⟨r3, 0, none⟩) E2.length q3) S2 F2 E2) := hide (by
    have q4 := blk_on H2.out.1 HF3.out.1
    have q5 := blk_on H2.out.2.1 HF3.out.1
    have o := only5 w3 (w.heap.size + 1 + 1 + 1) (.int .i64 n') (.int .i64 m') (.slice (some ⟨r1, 0, none⟩) S2.length q1) (.slice (some ⟨r2, 0, none⟩) F2.length q2) (.slice (some ⟨r3, 0, none⟩) E2.length q3)
    have d := H2.out.2.2.1.trans (HF3.out.1.mono H2.out.2.2.1.size)
    have ow : OwnO W2.heap.size w3 (.slice (some ⟨r1, 0, none⟩) S2.length q1) (.slice (some ⟨r2, 0, none⟩) F2.length q2) (.slice (some ⟨r3, 0, none⟩) E2.length q3) S2 F2 E2 := ownO_own HF3.out.2
    rw [← hW4]
    exact ⟨(o.block _ (Array.getElem?_eq_some_iff.1 q4).1 (by omega)).trans q4, set5 w3 (w.heap.size + 1 + 1 + 1) _ _ _ _ _ _ _ _ _ _ 25 q5, d.trans (o.toBelow d.size (fun k hk => by omega)), (H2.out.2.2.2.2.on HF3.out.1).keep q5 o, (ow.keep q5 o).down H2.out.2.2.1.size⟩)
  clear hW4 HF3 TB H2 o0 f0 y0 o1 f1 y1 o2 f2 y2 o3 f3 y3 o4 f4 y4
  have hm2 : (m == m') = false := by simpa using hm
  have o0 : W4.cell? ⟨w.heap.size + 1 + 1, 0, none⟩ = some (.int .i64 n) := cell_of H4.out.1 rfl
  have f0 : W4.frozen? ⟨w.heap.size + 1 + 1, 0, none⟩ = false := fz_of H4.out.1
  have o1 : W4.cell? ⟨w.heap.size + 1 + 1, 1, none⟩ = some (.int .i64 m) := cell_of H4.out.1 rfl
  have f1 : W4.frozen? ⟨w.heap.size + 1 + 1, 1, none⟩ = false := fz_of H4.out.1
  have o2 : W4.cell? ⟨w.heap.size + 1 + 1, 2, none⟩ = some (.slice (some ⟨g1, 0, none⟩) S1.length k1) := cell_of H4.out.1 rfl
  have f2 : W4.frozen? ⟨w.heap.size + 1 + 1, 2, none⟩ = false := fz_of H4.out.1
  have o3 : W4.cell? ⟨w.heap.size + 1 + 1, 3, none⟩ = some (.slice (some ⟨g2, 0, none⟩) F1.length k2) := cell_of H4.out.1 rfl
  have f3 : W4.frozen? ⟨w.heap.size + 1 + 1, 3, none⟩ = false := fz_of H4.out.1
  have o4 : W4.cell? ⟨w.heap.size + 1 + 1, 4, none⟩ = some (.slice (some ⟨g3, 0, none⟩) E1.length k3) := cell_of H4.out.1 rfl
  have f4 : W4.frozen? ⟨w.heap.size + 1 + 1, 4, none⟩ = false := fz_of H4.out.1
  have p0 : W4.cell? ⟨w.heap.size + 1 + 1 + 1, 0, none⟩ = some (.int .i64 n') := cell_of H4.out.2.1 rfl
  have g0 : W4.frozen? ⟨w.heap.size + 1 + 1 + 1, 0, none⟩ = false := fz_of H4.out.2.1
  have p1 : W4.cell? ⟨w.heap.size + 1 + 1 + 1, 1, none⟩ = some (.int .i64 m') := cell_of H4.out.2.1 rfl
  have g1 : W4.frozen? ⟨w.heap.size + 1 + 1 + 1, 1, none⟩ = false := fz_of H4.out.2.1
  have p2 : W4.cell? ⟨w.heap.size + 1 + 1 + 1, 2, none⟩ = some (.slice (some ⟨r1, 0, none⟩) S2.length q1) := cell_of H4.out.2.1 rfl
  have g2 : W4.frozen? ⟨w.heap.size + 1 + 1 + 1, 2, none⟩ = false := fz_of H4.out.2.1
  have p3 : W4.cell? ⟨w.heap.size + 1 + 1 + 1, 3, none⟩ = some (.slice (some ⟨r2, 0, none⟩) F2.length q2) := cell_of H4.out.2.1 rfl
  have g3 : W4.frozen? ⟨w.heap.size + 1 + 1 + 1, 3, none⟩ = false := fz_of H4.out.2.1
  have p4 : W4.cell? ⟨w.heap.size + 1 + 1 + 1, 4, none⟩ = some (.slice (some ⟨r3, 0, none⟩) E2.length q3) := cell_of H4.out.2.1 rfl
  have g4 : W4.frozen? ⟨w.heap.size + 1 + 1 + 1, 4, none⟩ = false := fz_of H4.out.2.1
  have O6 := hide (two5 (x0 := .int .i64 0) (z0 := .int .i64 0) (x1 := .int .i64 0) (z1 := .int .i64 0) (x2 := .slice none 0 0) (z2 := .slice none 0 0) (x3 := .slice none 0 0) (z3 := .slice none 0 0) (x4 := .slice none 0 0) (z4 := .slice none 0 0) H4.out.1 H4.out.2.1 (by omega))
  go_wp2_with fail
  refine bodyPost_ret (results_c2 (p := 4) (q := 5) (r := 6) (ty := 25) rfl _ _ (w.heap.size + 1 + 1) (w.heap.size + 1 + 1 + 1) 25 _ _ (0, 0) _ _ rfl rfl rfl O6.out.1 O6.out.2.1 Tryz.underlying25 rfl (by kernel_rfl) (by kernel_rfl)) rfl ?_
  exact ⟨rfl, H4.out.2.2.1.trans (O6.out.2.2.toBelow H4.out.2.2.1.size (fun k hk => by omega))⟩
/-! ### both, of two automata over the same symbols -/
theorem own_two {W W' : World} {B n sz p q : Nat} {e t : TypeId} {v : Value} {xs : List Value} {cs cs' : Array Value} (h : W.ownsRow B e sz v n xs) (z : W.heap[p]? = some (.cells cs t (0, 0))) (z' : W.heap[q]? = some (.cells cs' t (0, 0))) (ne : t ≠ e) (o : Only W W' (fun k => k = p ∨ k = q)) : W'.ownsRow B e sz v n xs := row_only h o (fun k hk hk2 => by
  rcases hk2 with rfl | rfl
  · exact row_tag h z ne hk
  · exact row_tag h z' ne hk)
theorem ownO_two {B p q : Nat} {w w' : World} {v1 v2 v3 : Value} {S F : List Int} {E : List EdT} {cs cs' : Array Value} (h : OwnO B w v1 v2 v3 S F E) (z : w.heap[p]? = some (.cells cs 25 (0, 0))) (z' : w.heap[q]? = some (.cells cs' 25 (0, 0))) (o : Only w w' (fun k => k = p ∨ k = q)) : OwnO B w' v1 v2 v3 S F E := ⟨own_two h.s z z' (by decide) o, own_two h.f z z' (by decide) o, own_two h.e z z' (by decide) o, h.ne⟩
set_option maxRecDepth 100000 in
set_option maxHeartbeats 4000000 in
theorem both_ok (w : World) (n m n' : Int) (a1 a2 a3 b1 b2 b3 : Option Addr) (c1 c2 c3 d1 d2 d3 : Nat) (Sa Fa Sb Fb : List Int) (Ea Eb : List EdT) (hA : Hid (RdA w a1 a2 a3 Sa Fa Ea)) (hB : Hid (RdA w b1 b2 b3 Sb Fb Eb)) (h1 : Sa.length ≤ 4194304) (h2 : Fa.length ≤ 4194304) (h3 : Ea.length ≤ 4194304) (h4 : Sb.length ≤ 4194304) (h5 : Fb.length ≤ 4194304) (h6 : Eb.length ≤ 4194304) (em : mayA n m Sa Fa Ea = true) (em' : mayA n' m Sb Fb Eb = true) :
    Calls Tryz.prog 31 #[.agg #[.int .i64 n, .int .i64 m, .slice a1 Sa.length c1, .slice a2 Fa.length c2, .slice a3 Ea.length c3], .agg #[.int .i64 n', .int .i64 m, .slice b1 Sb.length d1, .slice b2 Fb.length d2, .slice b3 Eb.length d3]] w fun e w' => ∃ g1 k1 g2 k2 g3 k3 r1 q1 r2 q2 r3 q3, e = .returned (.tuple #[.agg #[.int .i64 n, .int .i64 m, .slice (some ⟨g1, 0, none⟩) (riseL Sa).length k1, .slice (some ⟨g2, 0, none⟩) (riseL Fa).length k2, .slice (some ⟨g3, 0, none⟩) (riseE Ea).length k3], .agg #[.int .i64 n', .int .i64 m, .slice (some ⟨r1, 0, none⟩) (riseL Sb).length q1, .slice (some ⟨r2, 0, none⟩) (riseL Fb).length q2, .slice (some ⟨r3, 0, none⟩) (riseE Eb).length q3], .int .i64 0]) ∧ Hid (OwnO w.heap.size w' (.slice (some ⟨g1, 0, none⟩) (riseL Sa).length k1) (.slice (some ⟨g2, 0, none⟩) (riseL Fa).length k2) (.slice (some ⟨g3, 0, none⟩) (riseE Ea).length k3) (riseL Sa) (riseL Fa) (riseE Ea) ∧ OwnO w.heap.size w' (.slice (some ⟨r1, 0, none⟩) (riseL Sb).length q1) (.slice (some ⟨r2, 0, none⟩) (riseL Fb).length q2) (.slice (some ⟨r3, 0, none⟩) (riseE Eb).length q3) (riseL Sb) (riseL Fb) (riseE Eb) ∧ Below w.heap.size w w') := by
  obtain ⟨W0, hW0⟩ : ∃ W0, (((w.alloc (.cells #[.int .i64 n, .int .i64 m, .slice a1 Sa.length c1, .slice a2 Fa.length c2, .slice a3 Ea.length c3] 25)).alloc (.cells #[.int .i64 n', .int .i64 m, .slice b1 Sb.length d1, .slice b2 Fb.length d2, .slice b3 Eb.length d3] 25)).alloc (.cells #[.int .i64 0, .int .i64 0, .slice none 0 0, .slice none 0 0, .slice none 0 0] 25)).alloc (.cells #[.int .i64 0, .int .i64 0, .slice none 0 0, .slice none 0 0, .slice none 0 0] 25) = W0 := ⟨_, rfl⟩
  have HD := hide (And.intro (box4 w (.cells #[.int .i64 n, .int .i64 m, .slice a1 Sa.length c1, .slice a2 Fa.length c2, .slice a3 Ea.length c3] 25) (.cells #[.int .i64 n', .int .i64 m, .slice b1 Sb.length d1, .slice b2 Fb.length d2, .slice b3 Eb.length d3] 25) (.cells #[.int .i64 0, .int .i64 0, .slice none 0 0, .slice none 0 0, .slice none 0 0] 25) (.cells #[.int .i64 0, .int .i64 0, .slice none 0 0, .slice none 0 0, .slice none 0 0] 25)) (show ((((w.alloc (.cells #[.int .i64 n, .int .i64 m, .slice a1 Sa.length c1, .slice a2 Fa.length c2, .slice a3 Ea.length c3] 25)).alloc (.cells #[.int .i64 n', .int .i64 m, .slice b1 Sb.length d1, .slice b2 Fb.length d2, .slice b3 Eb.length d3] 25)).alloc (.cells #[.int .i64 0, .int .i64 0, .slice none 0 0, .slice none 0 0, .slice none 0 0] 25)).alloc (.cells #[.int .i64 0, .int .i64 0, .slice none 0 0, .slice none 0 0, .slice none 0 0] 25)).heap.size = w.heap.size + 4 by simp))
  rw [hW0] at HD
  have y0 : W0.cell? ⟨w.heap.size, 0, none⟩ = some (.int .i64 n) := cell_of HD.out.1.2.1 rfl
  have y1 : W0.cell? ⟨w.heap.size, 1, none⟩ = some (.int .i64 m) := cell_of HD.out.1.2.1 rfl
  have y2 : W0.cell? ⟨w.heap.size, 2, none⟩ = some (.slice a1 Sa.length c1) := cell_of HD.out.1.2.1 rfl
  have y3 : W0.cell? ⟨w.heap.size, 3, none⟩ = some (.slice a2 Fa.length c2) := cell_of HD.out.1.2.1 rfl
  have y4 : W0.cell? ⟨w.heap.size, 4, none⟩ = some (.slice a3 Ea.length c3) := cell_of HD.out.1.2.1 rfl
  have TN := normal_ok W0 n m a1 a2 a3 c1 c2 c3 Sa Fa Ea (hide (hA.out.on HD.out.1.1)) h1 h2 h3 em
  obtain ⟨S1, hS1⟩ : ∃ X, riseL Sa = X := ⟨_, rfl⟩
  obtain ⟨F1, hF1⟩ : ∃ X, riseL Fa = X := ⟨_, rfl⟩
  obtain ⟨E1, hE1⟩ : ∃ X, riseE Ea = X := ⟨_, rfl⟩
  rw [hS1, hF1, hE1] at TN
  obtain ⟨S2, hS2⟩ : ∃ X, riseL Sb = X := ⟨_, rfl⟩
  obtain ⟨F2, hF2⟩ : ∃ X, riseL Fb = X := ⟨_, rfl⟩
  obtain ⟨E2, hE2⟩ : ∃ X, riseE Eb = X := ⟨_, rfl⟩
  rw [hS1, hF1, hE1, hS2, hF2, hE2]
  have HR2 := hide (And.intro hS2 (And.intro hF2 hE2))
  clear hS2 hF2 hE2
  clear em hS1 hF1 hE1
  go_enter Tryz.func31, Tryz.ntmps31
  go_upto_region 4 with (go_at_call 53; refine TN.mono ?_; rintro e w1 ⟨g1, k1, g2, k2, g3, k3, rfl, HO, D1⟩; have HF1 := hide (And.intro D1 HO); have F4 := blk_on HD.out.1.2.2.2.1 D1; have o0 : w1.cell? ⟨w.heap.size + 1 + 1, 0, none⟩ = some (.int .i64 0) := cell_of F4 rfl; have f0 : w1.frozen? ⟨w.heap.size + 1 + 1, 0, none⟩ = false := fz_of F4; have o1 : w1.cell? ⟨w.heap.size + 1 + 1, 1, none⟩ = some (.int .i64 0) := cell_of F4 rfl; have f1 : w1.frozen? ⟨w.heap.size + 1 + 1, 1, none⟩ = false := fz_of F4; have o2 : w1.cell? ⟨w.heap.size + 1 + 1, 2, none⟩ = some (.slice none 0 0) := cell_of F4 rfl; have f2 : w1.frozen? ⟨w.heap.size + 1 + 1, 2, none⟩ = false := fz_of F4; have o3 : w1.cell? ⟨w.heap.size + 1 + 1, 3, none⟩ = some (.slice none 0 0) := cell_of F4 rfl; have f3 : w1.frozen? ⟨w.heap.size + 1 + 1, 3, none⟩ = false := fz_of F4; have o4 : w1.cell? ⟨w.heap.size + 1 + 1, 4, none⟩ = some (.slice none 0 0) := cell_of F4 rfl; have f4 : w1.frozen? ⟨w.heap.size + 1 + 1, 4, none⟩ = false := fz_of F4; clear F4 D1 HO)
  obtain ⟨W2, hW2⟩ : ∃ W2, (((((w1.setCell ⟨w.heap.size + 1 + 1, 0, none⟩ (.int .i64 n)).setCell ⟨w.heap.size + 1 + 1, 1, none⟩ (.int .i64 m)).setCell ⟨w.heap.size + 1 + 1, 2, none⟩ (.slice (some ⟨g1, 0, none⟩) S1.length k1)).setCell ⟨w.heap.size + 1 + 1, 3, none⟩ (.slice (some ⟨g2, 0, none⟩) F1.length k2)).setCell ⟨w.heap.size + 1 + 1, 4, none⟩ (.slice (some ⟨g3, 0, none⟩) E1.length k3)) = W2 := ⟨_, rfl⟩
  rw [hW2]
  have H2 : Hid (W2.heap[w.heap.size + 1 + 1]? = some (.cells #[.int .i64 n, .int .i64 m, .slice (some ⟨g1, 0, none⟩) S1.length k1, .slice (some ⟨g2, 0, none⟩) F1.length k2, .slice (some ⟨g3, 0, none⟩) E1.length k3] 25 (0, 0)) ∧ W2.heap[w.heap.size + 1 + 1 + 1]? = some (.cells #[.int .i64 0, .int .i64 0, .slice none 0 0, .slice none 0 0, .slice none 0 0] 25 (0, 0)) ∧ Below w.heap.size w W2 ∧ W2.heap[w.heap.size + 1]? = some (.cells #[.int .i64 n', .int .i64 m, .slice b1 Sb.length d1, .slice b2 Fb.length d2, .slice b3 Eb.length d3] 25 (0, 0)) ∧ OwnO w.heap.size W2 (.slice (some ⟨g1, 0, none⟩) S1.length k1) (.slice (some ⟨g2, 0, none⟩) F1.length k2) (.slice (some ⟨g3, 0, none⟩) E1.length k3) S1 F1 E1) := hide (by
    have q4 := blk_on HD.out.1.2.2.2.1 HF1.out.1
    have q5 := blk_on HD.out.1.2.2.2.2 HF1.out.1
    have q1 := blk_on HD.out.1.2.2.1 HF1.out.1
    have o := only5 w1 (w.heap.size + 1 + 1) (.int .i64 n) (.int .i64 m) (.slice (some ⟨g1, 0, none⟩) S1.length k1) (.slice (some ⟨g2, 0, none⟩) F1.length k2) (.slice (some ⟨g3, 0, none⟩) E1.length k3)
    have d := HD.out.1.1.trans (HF1.out.1.mono HD.out.1.1.size)
    have s0 := HD.out.1.1.size
    have ow : OwnO W0.heap.size w1 (.slice (some ⟨g1, 0, none⟩) S1.length k1) (.slice (some ⟨g2, 0, none⟩) F1.length k2) (.slice (some ⟨g3, 0, none⟩) E1.length k3) S1 F1 E1 := ownO_own HF1.out.2
    rw [← hW2]
    exact ⟨set5 w1 (w.heap.size + 1 + 1) _ _ _ _ _ _ _ _ _ _ 25 q4, (o.block _ (Array.getElem?_eq_some_iff.1 q5).1 (by omega)).trans q5, d.trans (o.toBelow d.size (fun k hk => by omega)), (o.block _ (Array.getElem?_eq_some_iff.1 q1).1 (by omega)).trans q1, (ow.keep q4 o).down (by omega)⟩)
  clear hW2 HF1 TN o0 f0 y0 o1 f1 y1 o2 f2 y2 o3 f3 y3 o4 f4 y4
  have y0 : W2.cell? ⟨w.heap.size + 1, 0, none⟩ = some (.int .i64 n') := cell_of H2.out.2.2.2.1 rfl
  have y1 : W2.cell? ⟨w.heap.size + 1, 1, none⟩ = some (.int .i64 m) := cell_of H2.out.2.2.2.1 rfl
  have y2 : W2.cell? ⟨w.heap.size + 1, 2, none⟩ = some (.slice b1 Sb.length d1) := cell_of H2.out.2.2.2.1 rfl
  have y3 : W2.cell? ⟨w.heap.size + 1, 3, none⟩ = some (.slice b2 Fb.length d2) := cell_of H2.out.2.2.2.1 rfl
  have y4 : W2.cell? ⟨w.heap.size + 1, 4, none⟩ = some (.slice b3 Eb.length d3) := cell_of H2.out.2.2.2.1 rfl
  have TB := normal_ok W2 n' m b1 b2 b3 d1 d2 d3 Sb Fb Eb (hide (hB.out.on H2.out.2.2.1)) h4 h5 h6 em'
  rw [HR2.out.1, HR2.out.2.1, HR2.out.2.2] at TB
  clear em'
  go_upto_region 7 with (go_at_call 53; refine TB.mono ?_; rintro e w3 ⟨r1, q1, r2, q2, r3, q3, rfl, HO, D3⟩; have HF3 := hide (And.intro D3 HO); have F5 := blk_on H2.out.2.1 D3; have o0 : w3.cell? ⟨w.heap.size + 1 + 1 + 1, 0, none⟩ = some (.int .i64 0) := cell_of F5 rfl; have f0 : w3.frozen? ⟨w.heap.size + 1 + 1 + 1, 0, none⟩ = false := fz_of F5; have o1 : w3.cell? ⟨w.heap.size + 1 + 1 + 1, 1, none⟩ = some (.int .i64 0) := cell_of F5 rfl; have f1 : w3.frozen? ⟨w.heap.size + 1 + 1 + 1, 1, none⟩ = false := fz_of F5; have o2 : w3.cell? ⟨w.heap.size + 1 + 1 + 1, 2, none⟩ = some (.slice none 0 0) := cell_of F5 rfl; have f2 : w3.frozen? ⟨w.heap.size + 1 + 1 + 1, 2, none⟩ = false := fz_of F5; have o3 : w3.cell? ⟨w.heap.size + 1 + 1 + 1, 3, none⟩ = some (.slice none 0 0) := cell_of F5 rfl; have f3 : w3.frozen? ⟨w.heap.size + 1 + 1 + 1, 3, none⟩ = false := fz_of F5; have o4 : w3.cell? ⟨w.heap.size + 1 + 1 + 1, 4, none⟩ = some (.slice none 0 0) := cell_of F5 rfl; have f4 : w3.frozen? ⟨w.heap.size + 1 + 1 + 1, 4, none⟩ = false := fz_of F5; clear F5 D3 HO)
  obtain ⟨W4, hW4⟩ : ∃ W4, (((((w3.setCell ⟨w.heap.size + 1 + 1 + 1, 0, none⟩ (.int .i64 n')).setCell ⟨w.heap.size + 1 + 1 + 1, 1, none⟩ (.int .i64 m)).setCell ⟨w.heap.size + 1 + 1 + 1, 2, none⟩ (.slice (some ⟨r1, 0, none⟩) S2.length q1)).setCell ⟨w.heap.size + 1 + 1 + 1, 3, none⟩ (.slice (some ⟨r2, 0, none⟩) F2.length q2)).setCell ⟨w.heap.size + 1 + 1 + 1, 4, none⟩ (.slice (some ⟨r3, 0, none⟩) E2.length q3)) = W4 := ⟨_, rfl⟩
  rw [hW4]
  have H4 : Hid (W4.heap[w.heap.size + 1 + 1]? = some (.cells #[.int .i64 n, .int .i64 m, .slice (some ⟨g1, 0, none⟩) S1.length k1, .slice (some ⟨g2, 0, none⟩) F1.length k2, .slice (some ⟨g3, 0, none⟩) E1.length k3] 25 (0, 0)) ∧ W4.heap[w.heap.size + 1 + 1 + 1]? = some (.cells #[.int .i64 n', .int .i64 m, .slice (some ⟨r1, 0, none⟩) S2.length q1, .slice (some ⟨r2, 0, none⟩) F2.length q2, .slice (some ⟨r3, 0, none⟩) E2.length q3] 25 (0, 0)) ∧ Below w.heap.size w W4 ∧ OwnO w.heap.size W4 (.slice (some ⟨g1, 0, none⟩) S1.length k1) (.slice (some ⟨g2, 0, none⟩) F1.length k2) (.slice (some ⟨g3, 0, none⟩) E1.length k3) S1 F1 E1 ∧ OwnO w.heap.size W4 (.slice (some ⟨r1, 0, none⟩) S2.length q1) (.slice (some ⟨r2, 0, none⟩) F2.length q2) (.slice (some ⟨r3, 0, none⟩) E2.length q3) S2 F2 E2) := hide (by
    have q4 := blk_on H2.out.1 HF3.out.1
    have q5 := blk_on H2.out.2.1 HF3.out.1
    have o := only5 w3 (w.heap.size + 1 + 1 + 1) (.int .i64 n') (.int .i64 m) (.slice (some ⟨r1, 0, none⟩) S2.length q1) (.slice (some ⟨r2, 0, none⟩) F2.length q2) (.slice (some ⟨r3, 0, none⟩) E2.length q3)
    have d := H2.out.2.2.1.trans (HF3.out.1.mono H2.out.2.2.1.size)
    have ow : OwnO W2.heap.size w3 (.slice (some ⟨r1, 0, none⟩) S2.length q1) (.slice (some ⟨r2, 0, none⟩) F2.length q2) (.slice (some ⟨r3, 0, none⟩) E2.length q3) S2 F2 E2 := ownO_own HF3.out.2
    rw [← hW4]
    exact ⟨(o.block _ (Array.getElem?_eq_some_iff.1 q4).1 (by omega)).trans q4, set5 w3 (w.heap.size + 1 + 1 + 1) _ _ _ _ _ _ _ _ _ _ 25 q5, d.trans (o.toBelow d.size (fun k hk => by omega)), (H2.out.2.2.2.2.on HF3.out.1).keep q5 o, (ow.keep q5 o).down H2.out.2.2.1.size⟩)
  clear hW4 HF3 TB H2 o0 f0 y0 o1 f1 y1 o2 f2 y2 o3 f3 y3 o4 f4 y4
  have o0 : W4.cell? ⟨w.heap.size + 1 + 1, 0, none⟩ = some (.int .i64 n) := cell_of H4.out.1 rfl
  have f0 : W4.frozen? ⟨w.heap.size + 1 + 1, 0, none⟩ = false := fz_of H4.out.1
  have o1 : W4.cell? ⟨w.heap.size + 1 + 1, 1, none⟩ = some (.int .i64 m) := cell_of H4.out.1 rfl
  have f1 : W4.frozen? ⟨w.heap.size + 1 + 1, 1, none⟩ = false := fz_of H4.out.1
  have o2 : W4.cell? ⟨w.heap.size + 1 + 1, 2, none⟩ = some (.slice (some ⟨g1, 0, none⟩) S1.length k1) := cell_of H4.out.1 rfl
  have f2 : W4.frozen? ⟨w.heap.size + 1 + 1, 2, none⟩ = false := fz_of H4.out.1
  have o3 : W4.cell? ⟨w.heap.size + 1 + 1, 3, none⟩ = some (.slice (some ⟨g2, 0, none⟩) F1.length k2) := cell_of H4.out.1 rfl
  have f3 : W4.frozen? ⟨w.heap.size + 1 + 1, 3, none⟩ = false := fz_of H4.out.1
  have o4 : W4.cell? ⟨w.heap.size + 1 + 1, 4, none⟩ = some (.slice (some ⟨g3, 0, none⟩) E1.length k3) := cell_of H4.out.1 rfl
  have f4 : W4.frozen? ⟨w.heap.size + 1 + 1, 4, none⟩ = false := fz_of H4.out.1
  have p0 : W4.cell? ⟨w.heap.size + 1 + 1 + 1, 0, none⟩ = some (.int .i64 n') := cell_of H4.out.2.1 rfl
  have fz0 : W4.frozen? ⟨w.heap.size + 1 + 1 + 1, 0, none⟩ = false := fz_of H4.out.2.1
  have p1 : W4.cell? ⟨w.heap.size + 1 + 1 + 1, 1, none⟩ = some (.int .i64 m) := cell_of H4.out.2.1 rfl
  have fz1 : W4.frozen? ⟨w.heap.size + 1 + 1 + 1, 1, none⟩ = false := fz_of H4.out.2.1
  have p2 : W4.cell? ⟨w.heap.size + 1 + 1 + 1, 2, none⟩ = some (.slice (some ⟨r1, 0, none⟩) S2.length q1) := cell_of H4.out.2.1 rfl
  have fz2 : W4.frozen? ⟨w.heap.size + 1 + 1 + 1, 2, none⟩ = false := fz_of H4.out.2.1
  have p3 : W4.cell? ⟨w.heap.size + 1 + 1 + 1, 3, none⟩ = some (.slice (some ⟨r2, 0, none⟩) F2.length q2) := cell_of H4.out.2.1 rfl
  have fz3 : W4.frozen? ⟨w.heap.size + 1 + 1 + 1, 3, none⟩ = false := fz_of H4.out.2.1
  have p4 : W4.cell? ⟨w.heap.size + 1 + 1 + 1, 4, none⟩ = some (.slice (some ⟨r3, 0, none⟩) E2.length q3) := cell_of H4.out.2.1 rfl
  have fz4 : W4.frozen? ⟨w.heap.size + 1 + 1 + 1, 4, none⟩ = false := fz_of H4.out.2.1
  have O5 := hide (two5 (W := W4) (x0 := .int .i64 n) (z0 := .int .i64 n') (x1 := .int .i64 m) (z1 := .int .i64 m) (x2 := .slice (some ⟨g1, 0, none⟩) S1.length k1) (z2 := .slice (some ⟨r1, 0, none⟩) S2.length q1) (x3 := .slice (some ⟨g2, 0, none⟩) F1.length k2) (z3 := .slice (some ⟨r2, 0, none⟩) F2.length q2) (x4 := .slice (some ⟨g3, 0, none⟩) E1.length k3) (z4 := .slice (some ⟨r3, 0, none⟩) E2.length q3) H4.out.1 H4.out.2.1 (by omega))
  go_upto_region 9 with fail
  go_region_law (fail)
  all_goals
    have O6 := O5.out
    generalize ((((((((((W4.setCell ⟨w.heap.size + 1 + 1, 0, none⟩ (.int .i64 n)).setCell ⟨w.heap.size + 1 + 1, 1, none⟩ (.int .i64 m)).setCell ⟨w.heap.size + 1 + 1, 2, none⟩ (.slice (some ⟨g1, 0, none⟩) S1.length k1)).setCell ⟨w.heap.size + 1 + 1, 3, none⟩ (.slice (some ⟨g2, 0, none⟩) F1.length k2)).setCell ⟨w.heap.size + 1 + 1, 4, none⟩ (.slice (some ⟨g3, 0, none⟩) E1.length k3)).setCell ⟨w.heap.size + 1 + 1 + 1, 0, none⟩ (.int .i64 n')).setCell ⟨w.heap.size + 1 + 1 + 1, 1, none⟩ (.int .i64 m)).setCell ⟨w.heap.size + 1 + 1 + 1, 2, none⟩ (.slice (some ⟨r1, 0, none⟩) S2.length q1)).setCell ⟨w.heap.size + 1 + 1 + 1, 3, none⟩ (.slice (some ⟨r2, 0, none⟩) F2.length q2)).setCell ⟨w.heap.size + 1 + 1 + 1, 4, none⟩ (.slice (some ⟨r3, 0, none⟩) E2.length q3)) = W6 at O6 ⊢
    have K6 : Hid (W6.drew.heap[w.heap.size + 1 + 1]? = some (.cells #[.int .i64 n, .int .i64 m, .slice (some ⟨g1, 0, none⟩) S1.length k1, .slice (some ⟨g2, 0, none⟩) F1.length k2, .slice (some ⟨g3, 0, none⟩) E1.length k3] 25 (0, 0)) ∧ W6.drew.heap[w.heap.size + 1 + 1 + 1]? = some (.cells #[.int .i64 n', .int .i64 m, .slice (some ⟨r1, 0, none⟩) S2.length q1, .slice (some ⟨r2, 0, none⟩) F2.length q2, .slice (some ⟨r3, 0, none⟩) E2.length q3] 25 (0, 0)) ∧ OwnO w.heap.size W6.drew (.slice (some ⟨g1, 0, none⟩) S1.length k1) (.slice (some ⟨g2, 0, none⟩) F1.length k2) (.slice (some ⟨g3, 0, none⟩) E1.length k3) S1 F1 E1 ∧ OwnO w.heap.size W6.drew (.slice (some ⟨r1, 0, none⟩) S2.length q1) (.slice (some ⟨r2, 0, none⟩) F2.length q2) (.slice (some ⟨r3, 0, none⟩) E2.length q3) S2 F2 E2 ∧ Below w.heap.size w W6.drew) := hide (by
      have dq : Below W6.heap.size W6 W6.drew := ⟨rfl, rfl, rfl, Nat.le_refl _, fun _ _ => rfl⟩
      have d6 := H4.out.2.2.1.trans (O6.2.2.toBelow H4.out.2.2.1.size (fun k hk => by omega))
      exact ⟨O6.1, O6.2.1, (ownO_two H4.out.2.2.2.1 H4.out.1 H4.out.2.1 O6.2.2).on dq, (ownO_two H4.out.2.2.2.2 H4.out.1 H4.out.2.1 O6.2.2).on dq, d6.trans (dq.mono d6.size)⟩)
    clear O6
    go_wp2_with fail
    refine bodyPost_ret (results_c2 (p := 4) (q := 5) (r := 6) (ty := 25) rfl _ _ (w.heap.size + 1 + 1) (w.heap.size + 1 + 1 + 1) 25 _ _ (0, 0) _ _ rfl rfl rfl K6.out.1 K6.out.2.1 Tryz.underlying25 rfl (by kernel_rfl) (by kernel_rfl)) rfl ?_
    exact ⟨g1, k1, g2, k2, g3, k3, r1, q1, r2, q2, r3, q3, rfl, hide K6.out.2.2⟩
/-! ### behind: one automaton behind another -/
theorem box3b (w : World) (A B Z : Array Value) (t : TypeId) : Below w.heap.size w (((w.alloc (.cells A t)).alloc (.cells B t)).alloc (.cells Z t)) ∧ (((w.alloc (.cells A t)).alloc (.cells B t)).alloc (.cells Z t)).heap[w.heap.size]? = some (.cells A t (0, 0)) ∧ (((w.alloc (.cells A t)).alloc (.cells B t)).alloc (.cells Z t)).heap[w.heap.size + 1]? = some (.cells B t (0, 0)) ∧ (((w.alloc (.cells A t)).alloc (.cells B t)).alloc (.cells Z t)).heap[w.heap.size + 1 + 1]? = some (.cells Z t (0, 0)) ∧ (((w.alloc (.cells A t)).alloc (.cells B t)).alloc (.cells Z t)).heap.size = w.heap.size + 3 := by
  have q := box2 w A B t
  have z := World.alloc_heap_new ((w.alloc (.cells A t)).alloc (.cells B t)) (.cells Z t)
  rw [q.2.2.2] at z
  have k := (Below.refl _ ((w.alloc (.cells A t)).alloc (.cells B t))).alloc (Nat.le_refl _) (.cells Z t)
  exact ⟨q.1.trans (k.mono q.1.size), blk_on q.2.1 k, blk_on q.2.2.1 k, z, by simp⟩
/-- Edges that can be read, behind a row of one's own: at a step of a region that draws. -/
theorem run_appM {w : World} (ty : TypeId) (B : Nat) (v : Value) (X : List EdT) (hown : w.ownsRow B 50 3 v X.length (X.flatMap encE)) (ao : Option Addr) (n c : Nat) (Y : List EdT) (hn : Y.length = n) (hz : ao = none → c = 0) (hr : RdE w ao Y) (hl : X.length + Y.length ≤ 4194304) (hB : B ≤ w.heap.size) :
    ∃ z5 d5 w', (Builtin.append_ #[23, 23] ty #[v, .slice ao n c]).run Tryz.prog w = .ok (.slice z5 (X ++ Y).length d5) w' ∧ w'.ownsRow B 50 3 (.slice z5 (X ++ Y).length d5) (X ++ Y).length ((X ++ Y).flatMap encE) ∧ w.grownBy w' v.ownBlock := by
  obtain ⟨i5, hi5, hz50, hz51, hz52⟩ := info_parts info59
  subst hn
  cases ao with
  | none =>
    obtain rfl : Y = [] := by
      cases Y with
      | nil => rfl
      | cons y Y => obtain ⟨g, o, e, _⟩ := hr 0 (by simp); cases e
    obtain rfl := hz rfl
    obtain ⟨z5, d5, rfl⟩ := own_slice hown
    refine ⟨z5, d5, w, ?_, ?_, rfl, rfl, rfl, Nat.le_refl _, fun _ _ _ => rfl⟩
    · have q := run_append_owned_none (P := Tryz.prog) (w := w) B 23 ty 50 i5 3 Tryz.underlying23 hi5 _ _ _ hown
      simpa using q
    · simpa using hown
  | some ad =>
    obtain ⟨v', w', hrun, h2, hg, _, _⟩ := run_append_own_at (P := Tryz.prog) w B 23 ty 50 i5 _ 3 24 Tryz.underlying23 hi5 hz50 hz51 hz52 rfl (by omega) v X.length (X.flatMap encE) hown ad Y.length c (Y.flatMap encE) (encE_flat Y) (fun j u hu => by
      have h0 : 0 < Y.length := by
        cases Y with
        | nil => simp at hu
        | cons y Y => simp
      obtain ⟨g, o, e, _⟩ := hr 0 h0
      cases e
      rw [Addr.add_lit]
      exact edges_at hr j u hu) (encE_one Y) (by unfold maxLen; omega) (by omega) hB
    have h3 : w'.ownsRow B 50 3 v' (X ++ Y).length ((X ++ Y).flatMap encE) := by
      rw [List.flatMap_append, List.length_append]
      exact h2
    obtain ⟨z5, d5, rfl⟩ := own_slice h3
    exact ⟨z5, d5, w', hrun, h3, hg⟩
theorem step_appM {ops : Array Oper} {o : Oper} {a : Act} {K : Act → World → Prop} {Q : Exit → Act → World → Prop} {E : Prop} {w : World} (hgd : o.guard = none) (s x : Operand)
    (ho : o.op = .call { callee := .builtin .append, args := #[s, x], argTypes := #[23, 23] }) (B : Nat) (v : Value) (X : List EdT) (hs : a.eval s = v) (hown : w.ownsRow B 50 3 v X.length (X.flatMap encE)) (ao : Option Addr) (n c : Nat) (Y : List EdT) (hn : Y.length = n) (hz : ao = none → c = 0) (hx : a.eval x = .slice ao n c) (hr : RdE w ao Y) (hl : X.length + Y.length ≤ 4194304) (hB : B ≤ w.heap.size)
    (h : ∀ z5 d5 w', Hid (w'.ownsRow B 50 3 (.slice z5 (X ++ Y).length d5) (X ++ Y).length ((X ++ Y).flatMap encE)) → Hid (Only w w' (fun k => v.ownBlock = some k)) → K (a.put o.dst (.slice z5 (X ++ Y).length d5)) w') :
    if Region.wanted o (yielded ops a.tmps) = true then Oper.wp Tryz.prog o a w K Q else E := by
  have hw : Region.wanted o (yielded ops a.tmps) = true := by simp [Region.wanted, hgd]
  rw [if_pos hw]
  obtain ⟨z5, d5, w', hrun, h2, hg⟩ := run_appM o.type B v X hown ao n c Y hn hz hr hl hB
  unfold Oper.wp
  simp [execOp, ho, resolve, invoke, builtin, hs, hx, hrun, Result.andThen]
  have q := h z5 d5 w' (hide h2) (hide (grown_only hg))
  simp only [List.length_append] at q
  exact q
/-! ### What paired holds -/
theorem results_c3 {P : Program} {fn : Func} {p q r : Tmp} {ty : TypeId} (h : fn.results = #[.cell p ty, .tmp q, .tmp r]) (tmps : Array Value) (w : World) (g : Nat) (t : TypeId) (cs : Array Value) (fr : Nat × Nat) (d : TypeDesc) (x y : Value)
    (hp : tmps.getD p undef = .pointer (some ⟨g, 0, none⟩)) (hq : tmps.getD q undef = x) (hr : tmps.getD r undef = y) (hg : w.heap[g]? = some (.cells cs t fr))
    (hu : P.underlying ty = some d) (hd : (match d with | .struct _ | .array _ _ => true | _ => false) = true) (hi : (P.info? ty).map (·.size) = some cs.size) :
    (results fn tmps).run P w = .ok (.tuple #[.agg cs, x, y]) w := by
  have hp' : tmps[p]?.getD undef = .pointer (some ⟨g, 0, none⟩) := by simpa using hp
  have hq' : tmps[q]?.getD undef = x := by simpa using hq
  have hr' : tmps[r]?.getD undef = y := by simpa using hr
  simp [results, h, hp', hq', hr', asAddr, run_loadVar_row w g t ty cs fr d hg hu hd hi]
/-- The rows of both, in their boxes. -/
structure TwoR (B : Nat) (W : World) (m R1 R2 : Nat) (E1 E2 : List EdT) (b1 b2 : Nat) (aX : Option Addr) (cX gX : Nat) (aY : Option Addr) (cY gY : Nat) : Prop where
  h1 : W.heap[b1]? = some (.cells #[.int .i64 (m : Int), .slice aX E1.length cX, .slice (some ⟨gX, 0, none⟩) (R1 + 1) (R1 + 1)] 67 (0, 0))
  h2 : W.heap[b2]? = some (.cells #[.int .i64 (m : Int), .slice aY E2.length cY, .slice (some ⟨gY, 0, none⟩) (R2 + 1) (R2 + 1)] 67 (0, 0))
  r1 : RwA B W m R1 E1 aX E1.length cX gX
  r2 : RwA B W m R2 E2 aY E2.length cY gY
theorem TwoR.on {B : Nat} {W W' : World} {m R1 R2 : Nat} {E1 E2 : List EdT} {b1 b2 : Nat} {aX : Option Addr} {cX gX : Nat} {aY : Option Addr} {cY gY : Nat} (h : TwoR B W m R1 R2 E1 E2 b1 b2 aX cX gX aY cY gY) (d : Below W.heap.size W W') : TwoR B W' m R1 R2 E1 E2 b1 b2 aX cX gX aY cY gY := ⟨blk_on h.h1 d, blk_on h.h2 d, h.r1.on d, h.r2.on d⟩
theorem map_below {W W' : World} {bm n : Nat} {Dm : DataW Unit} (o : W.ownsMap Tryz.prog 57 (plainElem Tryz.prog 3) bm n Dm) (d : Below W.heap.size W W') : W'.ownsMap Tryz.prog 57 (plainElem Tryz.prog 3) bm n Dm := map_only o (Only.ofBelow (R := fun _ => False) d) (fun e => e)
def dRw (B m R : Nat) (E : List EdT) : MkP := fun x _ _ W => ∃ a c g, x = .agg #[.int .i64 (m : Int), .slice a E.length c, .slice (some ⟨g, 0, none⟩) (R + 1) (R + 1)] ∧ RwA B W m R E a E.length c g
theorem dRw_mono {B m R : Nat} {E : List EdT} : MonoP (dRw B m R E) := fun _ _ _ _ _ _ d ⟨a, c, g, e, h⟩ => ⟨a, c, g, e, h.on d⟩
def dFn (B m R1 R2 : Nat) (E1 E2 : List EdT) : MkP := fun x _ _ W => ∃ b1 b2 aX cX gX aY cY gY, x = (.func (.func 39) #[] #[.pointer (some ⟨b1, 0, none⟩), .pointer (some ⟨b2, 0, none⟩)]) ∧ TwoR B W m R1 R2 E1 E2 b1 b2 aX cX gX aY cY gY
theorem dFn_mono {B m R1 R2 : Nat} {E1 E2 : List EdT} : MonoP (dFn B m R1 R2 E1 E2) := fun _ _ _ _ _ _ d ⟨b1, b2, aX, cX, gX, aY, cY, gY, e, h⟩ => ⟨b1, b2, aX, cX, gX, aY, cY, gY, e, h.on d⟩
def dMp (B : Nat) : MkP := fun x lo hi W => x = .map (some lo) ∧ B ≤ lo ∧ lo < hi ∧ W.ownsMap Tryz.prog 57 (plainElem Tryz.prog 3) lo 0 (.map [] : DataW Unit)
theorem dMp_mono {B : Nat} : MonoP (dMp B) := fun _ _ _ _ _ _ d ⟨e, l, l2, h⟩ => ⟨e, l, l2, map_below h d⟩
def dSr (B m R1 R2 : Nat) (E1 E2 : List EdT) (bud : Int) : MkP := fun x _ _ W => ∃ b1 b2 aX cX gX aY cY gY bm, x = .agg #[(.func (.func 39) #[] #[.pointer (some ⟨b1, 0, none⟩), .pointer (some ⟨b2, 0, none⟩)]), .int .i64 bud, .map (some bm), .slice none 0 0, .slice none 0 0, .slice none 0 0] ∧ TwoR B W m R1 R2 E1 E2 b1 b2 aX cX gX aY cY gY ∧ B ≤ bm ∧ W.ownsMap Tryz.prog 57 (plainElem Tryz.prog 3) bm 0 (.map [] : DataW Unit)
theorem dSr_mono {B m R1 R2 : Nat} {E1 E2 : List EdT} {bud : Int} : MonoP (dSr B m R1 R2 E1 E2 bud) := fun _ _ _ _ _ _ d ⟨b1, b2, aX, cX, gX, aY, cY, gY, bm, e, h, l, o⟩ => ⟨b1, b2, aX, cX, gX, aY, cY, gY, bm, e, h.on d, l, map_below o d⟩
def dBx (B : Nat) : MkP := fun x lo hi W => x = .pointer (some ⟨lo, 0, none⟩) ∧ B ≤ lo ∧ lo < hi ∧ W.heap[lo]? = some (.cells #[.nilFunc, .int .i64 0, .map none, .slice none 0 0, .slice none 0 0, .slice none 0 0] 71 (0, 0))
theorem dBx_mono {B : Nat} : MonoP (dBx B) := fun _ _ _ _ _ hs d ⟨e, l, l2, z⟩ => ⟨e, l, l2, (d.block _ (by omega)).trans z⟩
/-- What stands when the search is laid. -/
structure PrB (W1 : World) (m R1 R2 : Nat) (E1 E2 : List EdT) (bud : Int) (b bm b1 b2 : Nat) (aX : Option Addr) (cX gX : Nat) (aY : Option Addr) (cY gY : Nat) (W : World) : Prop where
  be : Below W1.heap.size W1 W
  bx : W.heap[b]? = some (.cells #[(.func (.func 39) #[] #[.pointer (some ⟨b1, 0, none⟩), .pointer (some ⟨b2, 0, none⟩)]), .int .i64 bud, .map (some bm), .slice none 0 0, .slice none 0 0, .slice none 0 0] 71 (0, 0))
  mo : W.ownsMap Tryz.prog 57 (plainElem Tryz.prog 3) bm 0 (.map [] : DataW Unit)
  tw : TwoR W1.heap.size W m R1 R2 E1 E2 b1 b2 aX cX gX aY cY gY
  lb : W1.heap.size ≤ b
  lm : W1.heap.size ≤ bm
theorem map_at {W : World} {bm n : Nat} {Dm : DataW Unit} (o : W.ownsMap Tryz.prog 57 (plainElem Tryz.prog 3) bm n Dm) {cs : Array Value} {t : TypeId} {fr : Nat × Nat} {k : Nat} (h : W.heap[k]? = some (.cells cs t fr)) : k ≠ bm := by
  rintro rfl
  obtain ⟨es, ck, q1, _⟩ := o
  rw [h] at q1; cases q1
theorem blk_ne {W : World} {g k : Nat} {cs cs' : Array Value} {t t' : TypeId} {fr fr' : Nat × Nat} (h : W.heap[g]? = some (.cells cs t fr)) (h' : W.heap[k]? = some (.cells cs' t' fr')) (ne : t ≠ t') : g ≠ k := by
  rintro rfl
  rw [h] at h'
  cases h'
  exact ne rfl
theorem prB_of {W1 W : World} {m R1 R2 : Nat} {E1 E2 : List EdT} {bud : Int} {b bm b1 b2 : Nat} {aX : Option Addr} {cX gX : Nat} {aY : Option Addr} {cY gY : Nat} (d : Below W1.heap.size W1 W) (z : W.heap[b]? = some (.cells #[.nilFunc, .int .i64 0, .map none, .slice none 0 0, .slice none 0 0, .slice none 0 0] 71 (0, 0))) (lb : W1.heap.size ≤ b) (lm : W1.heap.size ≤ bm) (tw : TwoR W1.heap.size W m R1 R2 E1 E2 b1 b2 aX cX gX aY cY gY) (mo : W.ownsMap Tryz.prog 57 (plainElem Tryz.prog 3) bm 0 (.map [] : DataW Unit)) :
    PrB W1 m R1 R2 E1 E2 bud b bm b1 b2 aX cX gX aY cY gY ((((((W.setCell ⟨b, 0, none⟩ (.func (.func 39) #[] #[.pointer (some ⟨b1, 0, none⟩), .pointer (some ⟨b2, 0, none⟩)])).setCell ⟨b, 1, none⟩ (.int .i64 bud)).setCell ⟨b, 2, none⟩ (.map (some bm))).setCell ⟨b, 3, none⟩ (.slice none 0 0)).setCell ⟨b, 4, none⟩ (.slice none 0 0)).setCell ⟨b, 5, none⟩ (.slice none 0 0)) := by
  have s := set6 W b _ _ _ _ _ _ (.func (.func 39) #[] #[.pointer (some ⟨b1, 0, none⟩), .pointer (some ⟨b2, 0, none⟩)]) (.int .i64 bud) (.map (some bm)) (.slice none 0 0) (.slice none 0 0) (.slice none 0 0) 71 z
  have o := only6 W b (.func (.func 39) #[] #[.pointer (some ⟨b1, 0, none⟩), .pointer (some ⟨b2, 0, none⟩)]) (.int .i64 bud) (.map (some bm)) (.slice none 0 0) (.slice none 0 0) (.slice none 0 0)
  have rk : ∀ {R : Nat} {E : List EdT} {a : Option Addr} {c g : Nat}, RwA W1.heap.size W m R E a E.length c g → ∀ {W' : World}, Only W W' (fun k => k = b) → RwA W1.heap.size W' m R E a E.length c g := by
    intro R E a c g h W' o'
    refine ⟨row_only h.ow o' (fun k hk e => ?_), h.fi.only o' (fun e => ?_), h.ge⟩
    · subst e
      rcases h.ow.2 with ⟨e3, _⟩ | ⟨g', cap, cur, e3, _, hg, _⟩
      · rw [e3] at hk; cases hk
      · rw [e3] at hk
        obtain rfl : g' = k := by simpa [Value.ownBlock] using hk
        rw [z] at hg; cases hg
    · obtain ⟨cur, q, _⟩ := h.fi
      rw [e, z] at q; cases q
  exact ⟨d.trans (o.toBelow d.size (fun k e => by omega)), s, map_only mo o (fun e => map_at mo z e.symm), ⟨o.cellK tw.h1 (blk_ne tw.h1 z (by decide)), o.cellK tw.h2 (blk_ne tw.h2 z (by decide)), rk tw.r1 o, rk tw.r2 o⟩, lb, lm⟩
theorem PrB.ss {W1 W W' : World} {m R1 R2 : Nat} {E1 E2 : List EdT} {bud : Int} {b bm b1 b2 : Nat} {aX : Option Addr} {cX gX : Nat} {aY : Option Addr} {cY gY : Nat} (h : PrB W1 m R1 R2 E1 E2 bud b bm b1 b2 aX cX gX aY cY gY W) (d : Below W.heap.size W W') (D : Nat) : SS D W' b bm (.func (.func 39) #[] #[.pointer (some ⟨b1, 0, none⟩), .pointer (some ⟨b2, 0, none⟩)]) bud (.slice none 0 0) (.slice none 0 0) (.slice none 0 0) [] [] 0 [] :=
  ⟨blk_on h.bx d, World.ownsRow_nil _ _ _ _, ⟨_, map_below h.mo d, isPl_nil kPrs⟩, World.ownsRow_nil _ _ _ _, World.ownsRow_nil _ _ _ _, by simp, List.nodup_nil⟩
theorem rwT_of {W W' : World} {D B b bm bx m R : Nat} {E : List EdT} {a : Option Addr} {c g : Nat} {cs : Array Value} (hb : W.heap[b]? = some (.cells cs 71 (0, 0))) (mo : W.ownsMap Tryz.prog 57 (plainElem Tryz.prog 3) bm 0 (.map [] : DataW Unit)) (d : Below W.heap.size W W') (hD : W.heap.size ≤ D) (h : W.heap[bx]? = some (.cells #[.int .i64 (m : Int), .slice a E.length c, .slice (some ⟨g, 0, none⟩) (R + 1) (R + 1)] 67 (0, 0))) (r : RwA B W m R E a E.length c g) : RwT (fun k => k < D ∧ k ≠ b ∧ k ≠ bm) W' bx B m R E a c g := by
  have lt : ∀ {k : Nat} {o : Obj}, W.heap[k]? = some o → k < W.heap.size := fun hk => (Array.getElem?_eq_some_iff.1 hk).1
  refine ⟨blk_on h d, r.on d, ⟨by have := lt h; omega, blk_ne h hb (by decide), map_at mo h⟩, ?_, ?_⟩
  · obtain ⟨cur, q, _⟩ := r.fi
    exact ⟨by have := lt q; omega, blk_ne q hb (by decide), map_at mo q⟩
  · rintro i o rfl
    rcases r.ow.2 with ⟨e3, _⟩ | ⟨g', cap, cur, e3, _, hg, _⟩
    · cases e3
    · cases e3
      exact ⟨by have := lt hg; omega, blk_ne hg hb (by decide), map_at mo hg⟩
/-- What a search of pairs answers: states, starts, ends and edges, by the pairs. -/
structure MeetR (m N M : Nat) (S1 F1 : List Int) (E1 : List EdT) (S2 F2 : List Int) (E2 : List EdT) (ps : List PrT) (S F : List Int) (E : List EdT) : Prop where
  nd : ps.Nodup
  len : ps.length ≤ 4096
  bd : ∀ x ∈ ps, ∃ p q : Nat, x = ((p : Int), (q : Int)) ∧ p < N ∧ q < M
  sin : ∀ t ∈ prsL S1 S2, t ∈ ps
  st : ∀ n, n ∈ S ↔ ∃ t ∈ prsL S1 S2, n = (ps.idxOf t : Int)
  fi : F = enT (finB F1) (finB F2) ps ps.length
  cl : ∀ (a c : Nat) (x y : PrT), ps[a]? = some x → c < m → stp E1 E2 x c y → y ∈ ps
  ed : ∀ e : EdT, e ∈ E ↔ ∃ (a c : Nat) (x y : PrT), ps[a]? = some x ∧ c < m ∧ stp E1 E2 x c y ∧ e = ((a : Int), (c : Int), (ps.idxOf y : Int))
theorem meetR_of {m N M : Nat} {S1 F1 : List Int} {E1 : List EdT} {S2 F2 : List Int} {E2 : List EdT} {ps0 ps : List PrT} {S : List Int} {E : List EdT} {bud : Int} (he : metF bud false [] (prsL S1 S2) [] = (0, ps0, S)) (h : RnI E1 E2 m N M ps0 ps E ps.length 0) (hl : E.length ≤ 65536) (hp : ps.length ≤ 4096) : MeetR m N M S1 F1 E1 S2 F2 E2 ps S (enT (finB F1) (finB F2) ps ps.length) E := by
  obtain ⟨_, _, _, k4, _⟩ := metF_inv _ _ _ _ _ _ _ _ he List.nodup_nil
  obtain ⟨k6, k7⟩ := k4 rfl
  obtain ⟨z, hz⟩ := h.pre
  have hh : ∀ {a : Nat} {x : PrT} (c : Nat), ps[a]? = some x → (hnd m ps.length 0 a c ↔ c < m) := fun {a} {x} c ha => by
    have := (List.getElem?_eq_some_iff.1 ha).1
    unfold hnd
    omega
  refine ⟨h.nd, hp, h.bd, fun t ht => by rw [hz]; exact List.mem_append_left _ (k6 t ht), fun n => ?_, rfl, fun a c x y h1 h2 h3 => h.cl a c x y h1 ((hh c h1).2 h2) h3, fun e => ?_⟩
  · rw [k7 rfl n]
    constructor
    · rintro (h | ⟨t, ht, rfl⟩)
      · simp at h
      · exact ⟨t, ht, by rw [hz, idx_app (k6 t ht)]⟩
    · rintro ⟨t, ht, rfl⟩
      exact .inr ⟨t, ht, by rw [hz, idx_app (k6 t ht)]⟩
  · rw [h.ed hl]
    constructor
    · rintro ⟨a, c, x, y, h1, h2, h3, h4⟩
      exact ⟨a, c, x, y, h1, (hh c h1).1 h2, h3, h4⟩
    · rintro ⟨a, c, x, y, h1, h2, h3, h4⟩
      exact ⟨a, c, x, y, h1, (hh c h1).2 h2, h3, h4⟩
/-! ### paired, where one may not be -/
/-- An automaton in rows of its own, a list of pairs, an error. -/
def MeO (w : World) (R : List PrT → List Int → List Int → List EdT → Prop) (m : Int) (e : Ending) (w' : World) : Prop := ∃ (n mm er : Int) (ps : List PrT) (S F : List Int) (E : List EdT) (x1 : Option Addr) (y1 : Nat) (x2 : Option Addr) (y2 : Nat) (x3 : Option Addr) (y3 : Nat) (xp : Option Addr) (yp : Nat), e = .returned (.tuple #[.agg #[.int .i64 n, .int .i64 mm, .slice x1 S.length y1, .slice x2 F.length y2, .slice x3 E.length y3], .slice xp ps.length yp, .int .i64 er]) ∧ Hid (OwnO w.heap.size w' (.slice x1 S.length y1) (.slice x2 F.length y2) (.slice x3 E.length y3) S F E ∧ (er ≠ 0 ∨ (er = 0 ∧ n = (ps.length : Int) ∧ mm = m ∧ S.length ≤ 4096 ∧ F.length ≤ 4096 ∧ E.length ≤ 65536 ∧ R ps S F E))) ∧ Below w.heap.size w w'
theorem meO_bad {w w' : World} {R : List PrT → List Int → List Int → List EdT → Prop} {m er : Int} {e : Ending} (h : er ≠ 0) (he : e = .returned (.tuple #[.agg #[.int .i64 0, .int .i64 0, .slice none 0 0, .slice none 0 0, .slice none 0 0], .slice none 0 0, .int .i64 er])) (d : Below w.heap.size w w') : MeO w R m e w' :=
  ⟨0, 0, er, [], [], [], [], none, 0, none, 0, none, 0, none, 0, he, hide ⟨⟨⟨rfl, .inl ⟨rfl, rfl⟩⟩, ⟨rfl, .inl ⟨rfl, rfl⟩⟩, ⟨rfl, .inl ⟨rfl, rfl⟩⟩, fun g q => by cases q⟩, .inl h⟩, d⟩
set_option maxRecDepth 100000 in
set_option maxHeartbeats 4000000 in
theorem paired_a (w : World) (n m n' m' bud0 : Int) (a1 a2 a3 b1 b2 b3 : Option Addr) (c1 c2 c3 d1 d2 d3 : Nat) (Sa Fa Sb Fb : List Int) (Ea Eb : List EdT) (hA : Hid (RdA w a1 a2 a3 Sa Fa Ea)) (hB : Hid (RdA w b1 b2 b3 Sb Fb Eb)) (h1 : Sa.length ≤ 2000000) (h2 : Fa.length ≤ 2000000) (h3 : Ea.length ≤ 2000000) (h4 : Sb.length ≤ 2000000) (h5 : Fb.length ≤ 2000000) (h6 : Eb.length ≤ 2000000) (R : List PrT → List Int → List Int → List EdT → Prop) (em : mayA n m Sa Fa Ea = false) :
    Calls Tryz.prog 21 #[.agg #[.int .i64 n, .int .i64 m, .slice a1 Sa.length c1, .slice a2 Fa.length c2, .slice a3 Ea.length c3], .agg #[.int .i64 n', .int .i64 m', .slice b1 Sb.length d1, .slice b2 Fb.length d2, .slice b3 Eb.length d3], .int .i64 bud0, .func (.func 22) #[] #[]] w (MeO w R m) := by
  obtain ⟨W0, hW0⟩ : ∃ W0, ((w.alloc (.cells #[.int .i64 n, .int .i64 m, .slice a1 Sa.length c1, .slice a2 Fa.length c2, .slice a3 Ea.length c3] 25)).alloc (.cells #[.int .i64 n', .int .i64 m', .slice b1 Sb.length d1, .slice b2 Fb.length d2, .slice b3 Eb.length d3] 25)).alloc (.cells #[.int .i64 0, .int .i64 0, .slice none 0 0, .slice none 0 0, .slice none 0 0] 25) = W0 := ⟨_, rfl⟩
  have HD := hide (box3b w #[.int .i64 n, .int .i64 m, .slice a1 Sa.length c1, .slice a2 Fa.length c2, .slice a3 Ea.length c3] #[.int .i64 n', .int .i64 m', .slice b1 Sb.length d1, .slice b2 Fb.length d2, .slice b3 Eb.length d3] #[.int .i64 0, .int .i64 0, .slice none 0 0, .slice none 0 0, .slice none 0 0] 25)
  rw [hW0] at HD
  have TB := both_a W0 n m n' m' a1 a2 a3 b1 b2 b3 c1 c2 c3 d1 d2 d3 Sa Fa Sb Fb Ea Eb (hide (hA.out.on HD.out.1)) (hide (hB.out.on HD.out.1)) (by omega) (by omega) (by omega) (by omega) (by omega) (by omega) em
  have y0 : W0.cell? ⟨w.heap.size, 0, none⟩ = some (.int .i64 n) := cell_of HD.out.2.1 rfl
  have y1 : W0.cell? ⟨w.heap.size, 1, none⟩ = some (.int .i64 m) := cell_of HD.out.2.1 rfl
  have y2 : W0.cell? ⟨w.heap.size, 2, none⟩ = some (.slice a1 Sa.length c1) := cell_of HD.out.2.1 rfl
  have y3 : W0.cell? ⟨w.heap.size, 3, none⟩ = some (.slice a2 Fa.length c2) := cell_of HD.out.2.1 rfl
  have y4 : W0.cell? ⟨w.heap.size, 4, none⟩ = some (.slice a3 Ea.length c3) := cell_of HD.out.2.1 rfl
  have x0 : W0.cell? ⟨w.heap.size + 1, 0, none⟩ = some (.int .i64 n') := cell_of HD.out.2.2.1 rfl
  have x1 : W0.cell? ⟨w.heap.size + 1, 1, none⟩ = some (.int .i64 m') := cell_of HD.out.2.2.1 rfl
  have x2 : W0.cell? ⟨w.heap.size + 1, 2, none⟩ = some (.slice b1 Sb.length d1) := cell_of HD.out.2.2.1 rfl
  have x3 : W0.cell? ⟨w.heap.size + 1, 3, none⟩ = some (.slice b2 Fb.length d2) := cell_of HD.out.2.2.1 rfl
  have x4 : W0.cell? ⟨w.heap.size + 1, 4, none⟩ = some (.slice b3 Eb.length d3) := cell_of HD.out.2.2.1 rfl
  go_enter Tryz.func21, Tryz.ntmps21
  go_upto_region 3 with (go_at_call 31; refine TB.mono ?_; rintro e w1 ⟨rfl, D1⟩; have H1 := hide D1; clear D1)
  clear TB y0 x0 y1 x1 y2 x2 y3 x3 y4 x4
  obtain ⟨W1, hW1⟩ : ∃ W1, (w1.alloc (.cells #[.int .i64 0, .int .i64 0, .slice none 0 0, .slice none 0 0, .slice none 0 0] 25)).alloc (.cells #[.int .i64 0, .int .i64 0, .slice none 0 0, .slice none 0 0, .slice none 0 0] 25) = W1 := ⟨_, rfl⟩
  have HW : Hid (W1.heap[w.heap.size + 1 + 1]? = some (.cells #[.int .i64 0, .int .i64 0, .slice none 0 0, .slice none 0 0, .slice none 0 0] 25 (0, 0)) ∧ w.heap.size + 3 ≤ W1.heap.size ∧ Below w.heap.size w W1) := hide (by
    have q := box2 w1 #[.int .i64 0, .int .i64 0, .slice none 0 0, .slice none 0 0, .slice none 0 0] #[.int .i64 0, .int .i64 0, .slice none 0 0, .slice none 0 0, .slice none 0 0] 25
    rw [hW1] at q
    have s := HD.out.2.2.2.2
    have d2 := H1.out.trans (q.1.mono H1.out.size)
    exact ⟨blk_on HD.out.2.2.2.1 d2, by have := d2.size; omega, HD.out.1.trans (d2.mono HD.out.1.size)⟩)
  rw [hW1]
  clear hW1 H1
  have F4 := HW.out.1
  have o0 : W1.cell? ⟨w.heap.size + 1 + 1, 0, none⟩ = some (.int .i64 0) := cell_of F4 rfl
  have fz0 : W1.frozen? ⟨w.heap.size + 1 + 1, 0, none⟩ = false := fz_of F4
  have o1 : W1.cell? ⟨w.heap.size + 1 + 1, 1, none⟩ = some (.int .i64 0) := cell_of F4 rfl
  have fz1 : W1.frozen? ⟨w.heap.size + 1 + 1, 1, none⟩ = false := fz_of F4
  have o2 : W1.cell? ⟨w.heap.size + 1 + 1, 2, none⟩ = some (.slice none 0 0) := cell_of F4 rfl
  have fz2 : W1.frozen? ⟨w.heap.size + 1 + 1, 2, none⟩ = false := fz_of F4
  have o3 : W1.cell? ⟨w.heap.size + 1 + 1, 3, none⟩ = some (.slice none 0 0) := cell_of F4 rfl
  have fz3 : W1.frozen? ⟨w.heap.size + 1 + 1, 3, none⟩ = false := fz_of F4
  have o4 : W1.cell? ⟨w.heap.size + 1 + 1, 4, none⟩ = some (.slice none 0 0) := cell_of F4 rfl
  have fz4 : W1.frozen? ⟨w.heap.size + 1 + 1, 4, none⟩ = false := fz_of F4
  have O6 := hide (And.intro (set5 W1 (w.heap.size + 1 + 1) _ _ _ _ _ (.int .i64 0) (.int .i64 0) (.slice none 0 0) (.slice none 0 0) (.slice none 0 0) 25 F4) (only5 W1 (w.heap.size + 1 + 1) (.int .i64 0) (.int .i64 0) (.slice none 0 0) (.slice none 0 0) (.slice none 0 0)))
  clear F4
  go_wp2_with fail
  refine bodyPost_ret (results_c3 (p := 8) (q := 9) (r := 10) (ty := 25) rfl _ _ (w.heap.size + 1 + 1) 25 _ (0, 0) _ _ _ rfl rfl rfl O6.out.1 Tryz.underlying25 rfl (by kernel_rfl)) rfl ?_
  have s2 := HW.out.2.1
  exact meO_bad (by decide) rfl (HW.out.2.2.trans (O6.out.2.toBelow (by omega) (fun k hk => by omega)))
set_option maxRecDepth 100000 in
set_option maxHeartbeats 4000000 in
theorem paired_b (w : World) (n m n' m' bud0 : Int) (a1 a2 a3 b1 b2 b3 : Option Addr) (c1 c2 c3 d1 d2 d3 : Nat) (Sa Fa Sb Fb : List Int) (Ea Eb : List EdT) (hA : Hid (RdA w a1 a2 a3 Sa Fa Ea)) (hB : Hid (RdA w b1 b2 b3 Sb Fb Eb)) (h1 : Sa.length ≤ 2000000) (h2 : Fa.length ≤ 2000000) (h3 : Ea.length ≤ 2000000) (h4 : Sb.length ≤ 2000000) (h5 : Fb.length ≤ 2000000) (h6 : Eb.length ≤ 2000000) (R : List PrT → List Int → List Int → List EdT → Prop) (em : mayA n m Sa Fa Ea = true) (em' : mayA n' m' Sb Fb Eb = false) :
    Calls Tryz.prog 21 #[.agg #[.int .i64 n, .int .i64 m, .slice a1 Sa.length c1, .slice a2 Fa.length c2, .slice a3 Ea.length c3], .agg #[.int .i64 n', .int .i64 m', .slice b1 Sb.length d1, .slice b2 Fb.length d2, .slice b3 Eb.length d3], .int .i64 bud0, .func (.func 22) #[] #[]] w (MeO w R m) := by
  obtain ⟨W0, hW0⟩ : ∃ W0, ((w.alloc (.cells #[.int .i64 n, .int .i64 m, .slice a1 Sa.length c1, .slice a2 Fa.length c2, .slice a3 Ea.length c3] 25)).alloc (.cells #[.int .i64 n', .int .i64 m', .slice b1 Sb.length d1, .slice b2 Fb.length d2, .slice b3 Eb.length d3] 25)).alloc (.cells #[.int .i64 0, .int .i64 0, .slice none 0 0, .slice none 0 0, .slice none 0 0] 25) = W0 := ⟨_, rfl⟩
  have HD := hide (box3b w #[.int .i64 n, .int .i64 m, .slice a1 Sa.length c1, .slice a2 Fa.length c2, .slice a3 Ea.length c3] #[.int .i64 n', .int .i64 m', .slice b1 Sb.length d1, .slice b2 Fb.length d2, .slice b3 Eb.length d3] #[.int .i64 0, .int .i64 0, .slice none 0 0, .slice none 0 0, .slice none 0 0] 25)
  rw [hW0] at HD
  have TB := both_b W0 n m n' m' a1 a2 a3 b1 b2 b3 c1 c2 c3 d1 d2 d3 Sa Fa Sb Fb Ea Eb (hide (hA.out.on HD.out.1)) (hide (hB.out.on HD.out.1)) (by omega) (by omega) (by omega) (by omega) (by omega) (by omega) em em'
  have y0 : W0.cell? ⟨w.heap.size, 0, none⟩ = some (.int .i64 n) := cell_of HD.out.2.1 rfl
  have y1 : W0.cell? ⟨w.heap.size, 1, none⟩ = some (.int .i64 m) := cell_of HD.out.2.1 rfl
  have y2 : W0.cell? ⟨w.heap.size, 2, none⟩ = some (.slice a1 Sa.length c1) := cell_of HD.out.2.1 rfl
  have y3 : W0.cell? ⟨w.heap.size, 3, none⟩ = some (.slice a2 Fa.length c2) := cell_of HD.out.2.1 rfl
  have y4 : W0.cell? ⟨w.heap.size, 4, none⟩ = some (.slice a3 Ea.length c3) := cell_of HD.out.2.1 rfl
  have x0 : W0.cell? ⟨w.heap.size + 1, 0, none⟩ = some (.int .i64 n') := cell_of HD.out.2.2.1 rfl
  have x1 : W0.cell? ⟨w.heap.size + 1, 1, none⟩ = some (.int .i64 m') := cell_of HD.out.2.2.1 rfl
  have x2 : W0.cell? ⟨w.heap.size + 1, 2, none⟩ = some (.slice b1 Sb.length d1) := cell_of HD.out.2.2.1 rfl
  have x3 : W0.cell? ⟨w.heap.size + 1, 3, none⟩ = some (.slice b2 Fb.length d2) := cell_of HD.out.2.2.1 rfl
  have x4 : W0.cell? ⟨w.heap.size + 1, 4, none⟩ = some (.slice b3 Eb.length d3) := cell_of HD.out.2.2.1 rfl
  go_enter Tryz.func21, Tryz.ntmps21
  go_upto_region 3 with (go_at_call 31; refine TB.mono ?_; rintro e w1 ⟨rfl, D1⟩; have H1 := hide D1; clear D1)
  clear TB y0 x0 y1 x1 y2 x2 y3 x3 y4 x4
  obtain ⟨W1, hW1⟩ : ∃ W1, (w1.alloc (.cells #[.int .i64 0, .int .i64 0, .slice none 0 0, .slice none 0 0, .slice none 0 0] 25)).alloc (.cells #[.int .i64 0, .int .i64 0, .slice none 0 0, .slice none 0 0, .slice none 0 0] 25) = W1 := ⟨_, rfl⟩
  have HW : Hid (W1.heap[w.heap.size + 1 + 1]? = some (.cells #[.int .i64 0, .int .i64 0, .slice none 0 0, .slice none 0 0, .slice none 0 0] 25 (0, 0)) ∧ w.heap.size + 3 ≤ W1.heap.size ∧ Below w.heap.size w W1) := hide (by
    have q := box2 w1 #[.int .i64 0, .int .i64 0, .slice none 0 0, .slice none 0 0, .slice none 0 0] #[.int .i64 0, .int .i64 0, .slice none 0 0, .slice none 0 0, .slice none 0 0] 25
    rw [hW1] at q
    have s := HD.out.2.2.2.2
    have d2 := H1.out.trans (q.1.mono H1.out.size)
    exact ⟨blk_on HD.out.2.2.2.1 d2, by have := d2.size; omega, HD.out.1.trans (d2.mono HD.out.1.size)⟩)
  rw [hW1]
  clear hW1 H1
  have F4 := HW.out.1
  have o0 : W1.cell? ⟨w.heap.size + 1 + 1, 0, none⟩ = some (.int .i64 0) := cell_of F4 rfl
  have fz0 : W1.frozen? ⟨w.heap.size + 1 + 1, 0, none⟩ = false := fz_of F4
  have o1 : W1.cell? ⟨w.heap.size + 1 + 1, 1, none⟩ = some (.int .i64 0) := cell_of F4 rfl
  have fz1 : W1.frozen? ⟨w.heap.size + 1 + 1, 1, none⟩ = false := fz_of F4
  have o2 : W1.cell? ⟨w.heap.size + 1 + 1, 2, none⟩ = some (.slice none 0 0) := cell_of F4 rfl
  have fz2 : W1.frozen? ⟨w.heap.size + 1 + 1, 2, none⟩ = false := fz_of F4
  have o3 : W1.cell? ⟨w.heap.size + 1 + 1, 3, none⟩ = some (.slice none 0 0) := cell_of F4 rfl
  have fz3 : W1.frozen? ⟨w.heap.size + 1 + 1, 3, none⟩ = false := fz_of F4
  have o4 : W1.cell? ⟨w.heap.size + 1 + 1, 4, none⟩ = some (.slice none 0 0) := cell_of F4 rfl
  have fz4 : W1.frozen? ⟨w.heap.size + 1 + 1, 4, none⟩ = false := fz_of F4
  have O6 := hide (And.intro (set5 W1 (w.heap.size + 1 + 1) _ _ _ _ _ (.int .i64 0) (.int .i64 0) (.slice none 0 0) (.slice none 0 0) (.slice none 0 0) 25 F4) (only5 W1 (w.heap.size + 1 + 1) (.int .i64 0) (.int .i64 0) (.slice none 0 0) (.slice none 0 0) (.slice none 0 0)))
  clear F4
  go_wp2_with fail
  refine bodyPost_ret (results_c3 (p := 8) (q := 9) (r := 10) (ty := 25) rfl _ _ (w.heap.size + 1 + 1) 25 _ (0, 0) _ _ _ rfl rfl rfl O6.out.1 Tryz.underlying25 rfl (by kernel_rfl)) rfl ?_
  have s2 := HW.out.2.1
  exact meO_bad (by decide) rfl (HW.out.2.2.trans (O6.out.2.toBelow (by omega) (fun k hk => by omega)))
set_option maxRecDepth 100000 in
set_option maxHeartbeats 4000000 in
theorem paired_m (w : World) (n m n' m' bud0 : Int) (a1 a2 a3 b1 b2 b3 : Option Addr) (c1 c2 c3 d1 d2 d3 : Nat) (Sa Fa Sb Fb : List Int) (Ea Eb : List EdT) (hA : Hid (RdA w a1 a2 a3 Sa Fa Ea)) (hB : Hid (RdA w b1 b2 b3 Sb Fb Eb)) (h1 : Sa.length ≤ 2000000) (h2 : Fa.length ≤ 2000000) (h3 : Ea.length ≤ 2000000) (h4 : Sb.length ≤ 2000000) (h5 : Fb.length ≤ 2000000) (h6 : Eb.length ≤ 2000000) (R : List PrT → List Int → List Int → List EdT → Prop) (em : mayA n m Sa Fa Ea = true) (em' : mayA n' m' Sb Fb Eb = true) (hm : m ≠ m') :
    Calls Tryz.prog 21 #[.agg #[.int .i64 n, .int .i64 m, .slice a1 Sa.length c1, .slice a2 Fa.length c2, .slice a3 Ea.length c3], .agg #[.int .i64 n', .int .i64 m', .slice b1 Sb.length d1, .slice b2 Fb.length d2, .slice b3 Eb.length d3], .int .i64 bud0, .func (.func 22) #[] #[]] w (MeO w R m) := by
  obtain ⟨W0, hW0⟩ : ∃ W0, ((w.alloc (.cells #[.int .i64 n, .int .i64 m, .slice a1 Sa.length c1, .slice a2 Fa.length c2, .slice a3 Ea.length c3] 25)).alloc (.cells #[.int .i64 n', .int .i64 m', .slice b1 Sb.length d1, .slice b2 Fb.length d2, .slice b3 Eb.length d3] 25)).alloc (.cells #[.int .i64 0, .int .i64 0, .slice none 0 0, .slice none 0 0, .slice none 0 0] 25) = W0 := ⟨_, rfl⟩
  have HD := hide (box3b w #[.int .i64 n, .int .i64 m, .slice a1 Sa.length c1, .slice a2 Fa.length c2, .slice a3 Ea.length c3] #[.int .i64 n', .int .i64 m', .slice b1 Sb.length d1, .slice b2 Fb.length d2, .slice b3 Eb.length d3] #[.int .i64 0, .int .i64 0, .slice none 0 0, .slice none 0 0, .slice none 0 0] 25)
  rw [hW0] at HD
  have TB := both_m W0 n m n' m' a1 a2 a3 b1 b2 b3 c1 c2 c3 d1 d2 d3 Sa Fa Sb Fb Ea Eb (hide (hA.out.on HD.out.1)) (hide (hB.out.on HD.out.1)) (by omega) (by omega) (by omega) (by omega) (by omega) (by omega) em em' hm
  have y0 : W0.cell? ⟨w.heap.size, 0, none⟩ = some (.int .i64 n) := cell_of HD.out.2.1 rfl
  have y1 : W0.cell? ⟨w.heap.size, 1, none⟩ = some (.int .i64 m) := cell_of HD.out.2.1 rfl
  have y2 : W0.cell? ⟨w.heap.size, 2, none⟩ = some (.slice a1 Sa.length c1) := cell_of HD.out.2.1 rfl
  have y3 : W0.cell? ⟨w.heap.size, 3, none⟩ = some (.slice a2 Fa.length c2) := cell_of HD.out.2.1 rfl
  have y4 : W0.cell? ⟨w.heap.size, 4, none⟩ = some (.slice a3 Ea.length c3) := cell_of HD.out.2.1 rfl
  have x0 : W0.cell? ⟨w.heap.size + 1, 0, none⟩ = some (.int .i64 n') := cell_of HD.out.2.2.1 rfl
  have x1 : W0.cell? ⟨w.heap.size + 1, 1, none⟩ = some (.int .i64 m') := cell_of HD.out.2.2.1 rfl
  have x2 : W0.cell? ⟨w.heap.size + 1, 2, none⟩ = some (.slice b1 Sb.length d1) := cell_of HD.out.2.2.1 rfl
  have x3 : W0.cell? ⟨w.heap.size + 1, 3, none⟩ = some (.slice b2 Fb.length d2) := cell_of HD.out.2.2.1 rfl
  have x4 : W0.cell? ⟨w.heap.size + 1, 4, none⟩ = some (.slice b3 Eb.length d3) := cell_of HD.out.2.2.1 rfl
  go_enter Tryz.func21, Tryz.ntmps21
  go_upto_region 3 with (go_at_call 31; refine TB.mono ?_; rintro e w1 ⟨rfl, D1⟩; have H1 := hide D1; clear D1)
  clear TB y0 x0 y1 x1 y2 x2 y3 x3 y4 x4
  obtain ⟨W1, hW1⟩ : ∃ W1, (w1.alloc (.cells #[.int .i64 0, .int .i64 0, .slice none 0 0, .slice none 0 0, .slice none 0 0] 25)).alloc (.cells #[.int .i64 0, .int .i64 0, .slice none 0 0, .slice none 0 0, .slice none 0 0] 25) = W1 := ⟨_, rfl⟩
  have HW : Hid (W1.heap[w.heap.size + 1 + 1]? = some (.cells #[.int .i64 0, .int .i64 0, .slice none 0 0, .slice none 0 0, .slice none 0 0] 25 (0, 0)) ∧ w.heap.size + 3 ≤ W1.heap.size ∧ Below w.heap.size w W1) := hide (by
    have q := box2 w1 #[.int .i64 0, .int .i64 0, .slice none 0 0, .slice none 0 0, .slice none 0 0] #[.int .i64 0, .int .i64 0, .slice none 0 0, .slice none 0 0, .slice none 0 0] 25
    rw [hW1] at q
    have s := HD.out.2.2.2.2
    have d2 := H1.out.trans (q.1.mono H1.out.size)
    exact ⟨blk_on HD.out.2.2.2.1 d2, by have := d2.size; omega, HD.out.1.trans (d2.mono HD.out.1.size)⟩)
  rw [hW1]
  clear hW1 H1
  have F4 := HW.out.1
  have o0 : W1.cell? ⟨w.heap.size + 1 + 1, 0, none⟩ = some (.int .i64 0) := cell_of F4 rfl
  have fz0 : W1.frozen? ⟨w.heap.size + 1 + 1, 0, none⟩ = false := fz_of F4
  have o1 : W1.cell? ⟨w.heap.size + 1 + 1, 1, none⟩ = some (.int .i64 0) := cell_of F4 rfl
  have fz1 : W1.frozen? ⟨w.heap.size + 1 + 1, 1, none⟩ = false := fz_of F4
  have o2 : W1.cell? ⟨w.heap.size + 1 + 1, 2, none⟩ = some (.slice none 0 0) := cell_of F4 rfl
  have fz2 : W1.frozen? ⟨w.heap.size + 1 + 1, 2, none⟩ = false := fz_of F4
  have o3 : W1.cell? ⟨w.heap.size + 1 + 1, 3, none⟩ = some (.slice none 0 0) := cell_of F4 rfl
  have fz3 : W1.frozen? ⟨w.heap.size + 1 + 1, 3, none⟩ = false := fz_of F4
  have o4 : W1.cell? ⟨w.heap.size + 1 + 1, 4, none⟩ = some (.slice none 0 0) := cell_of F4 rfl
  have fz4 : W1.frozen? ⟨w.heap.size + 1 + 1, 4, none⟩ = false := fz_of F4
  have O6 := hide (And.intro (set5 W1 (w.heap.size + 1 + 1) _ _ _ _ _ (.int .i64 0) (.int .i64 0) (.slice none 0 0) (.slice none 0 0) (.slice none 0 0) 25 F4) (only5 W1 (w.heap.size + 1 + 1) (.int .i64 0) (.int .i64 0) (.slice none 0 0) (.slice none 0 0) (.slice none 0 0)))
  clear F4
  go_wp2_with fail
  refine bodyPost_ret (results_c3 (p := 8) (q := 9) (r := 10) (ty := 25) rfl _ _ (w.heap.size + 1 + 1) 25 _ (0, 0) _ _ _ rfl rfl rfl O6.out.1 Tryz.underlying25 rfl (by kernel_rfl)) rfl ?_
  have s2 := HW.out.2.1
  exact meO_bad (by decide) rfl (HW.out.2.2.trans (O6.out.2.toBelow (by omega) (fun k hk => by omega)))
end Go.Proofs.YtchoopnjckcohaaGreat
namespace Go.Proofs.YtchoopnjckcohaaGreat
open Go.RowKit
/-! ### A region whose operations come in whatever order, one of which changes memory that was there -/
section
variable {P : Program} {ops : Array Oper} {Q : Exit → Act → World → Prop}
/-- What a step leaves as it is. -/
def StpJ (J : Bool → World → Prop) (i0 : Nat) (b : Bool) (L : List It) (i : Nat) (y : Nat → Value) (W W' : World) : Prop := J (i == i0 || b) W' ∧ W.heap.size ≤ W'.heap.size ∧ ∀ j, j ≠ i → j ∉ (itL L i).ret → ∀ lo hi, hi ≤ W.heap.size → (itL L j).p y lo hi W → (itL L j).p y lo hi W'
theorem stpj_of {J : Bool → World → Prop} {i0 : Nat} {b : Bool} {L : List It} {i : Nat} {y : Nat → Value} {W W' : World} (hm : MonIL 0 L) (hj : J (i == i0 || b) W') (d1 : Below W.heap.size W W') : StpJ J i0 b L i y W W' :=
  ⟨hj, d1.size, fun j _ _ lo hi hs h => by
    have := MonIL.at L 0 j hm y y lo hi W W' hs d1 (fun _ _ => rfl)
    exact this h⟩
def HopK (P : Program) (ops : Array Oper) (Q : Exit → Act → World → Prop) (w : World) (J : Bool → World → Prop) (i0 : Nat) (fill : (Nat → Value) → Act) (L : List It) (i : Nat) (o : Oper) : Prop :=
  ∀ (y : Nat → Value) (W : World) (b : Bool), ((i == i0) = true → b = false) → J b W → w.heap.size ≤ W.heap.size → (∀ e ∈ o.after, Region.binds .any e = true → ndB e = true → ∃ lo hi, w.heap.size ≤ lo ∧ hi ≤ W.heap.size ∧ (itL L e.on).p y lo hi W) →
    ∀ K : Act → World → Prop, Shut (∀ x a' W', StpJ J i0 b L i y W W' → (itL L i).p (updV y i x) W.heap.size W'.heap.size W' → a' = fill (updV y i x) → K a' W') → if Region.wanted o (yielded ops (fill y).tmps) = true then Oper.wp P o (fill y) W K Q else K ((fill y).put o.dst undef) W
def HopsK (P : Program) (ops : Array Oper) (Q : Exit → Act → World → Prop) (w : World) (J : Bool → World → Prop) (i0 : Nat) (fill : (Nat → Value) → Act) (L : List It) : Nat → List Oper → Prop
  | _, [] => True
  | k, o :: r => HopK P ops Q w J i0 fill L k o ∧ HopsK P ops Q w J i0 fill L (k + 1) r
theorem HopsK.at {w : World} {J : Bool → World → Prop} {i0 : Nat} {fill : (Nat → Value) → Act} {L : List It} : ∀ (l : List Oper) (k i : Nat) (o : Oper), HopsK P ops Q w J i0 fill L k l → l[i]? = some o → HopK P ops Q w J i0 fill L (k + i) o
  | [], _, _, _, _, h => by simp at h
  | o' :: r, k, 0, o, H, h => by simp at h; subst h; exact H.1
  | o' :: r, k, i + 1, o, H, h => by
    have := HopsK.at r (k + 1) i o H.2 (by simpa using h)
    rwa [show k + 1 + i = k + (i + 1) by omega] at this
/-- What has come up. -/
structure MadeJ (w : World) (J : Bool → World → Prop) (i0 : Nat) (L : List It) (ops : Array Oper) (n : Nat) (is : Nat → Bool) (y : Nat → Value) (lo hi : Nat → Nat) (W : World) : Prop where
  d : J (is i0) W
  sz : w.heap.size ≤ W.heap.size
  fact : ∀ i, i < n → is i = true → (∀ k, k < n → is k = true → i ∉ (itL L k).ret) → (itL L i).p y (lo i) (hi i) W
  at' : ∀ i, i < n → is i = true → w.heap.size ≤ lo i ∧ lo i ≤ hi i ∧ hi i ≤ W.heap.size
  apart : ∀ i j, i < n → j < n → is i = true → is j = true → i ≠ j → hi i ≤ lo j ∨ hi j ≤ lo i
  order : ∀ j o e, j < n → is j = true → ops[j]? = some o → e ∈ o.after → Region.binds .any e = true → hi e.on ≤ lo j
theorem stj_go {w : World} {J : Bool → World → Prop} {i0 : Nat} {fill : (Nat → Value) → Act} {L : List It} {n : Nat} {l2 : List Oper} {l1 : List Oper}
    (hi0 : i0 < n) (hp : phasedB .any ops n = true) (hdep : depsB ops n = true) (hret : retB ops n (L.map It.ret) (L.map It.reads) = true) (hl1 : ∀ j o, l1[j]? = some o ↔ (j < n ∧ ops[j]? = some o)) (hl2 : ∀ j o, l2[j]? = some o → ops[n + j]? = some o)
    (hline : ∀ listed : Array Bool, listed.size = ops.size → (∀ i, listed.getD i true = decide (i < n ∨ ops.size ≤ i)) → lineB .any ops l2.length n listed = true)
    (hmono : MonIL 0 L) (hop : HopsK P ops Q w J i0 fill L 0 l1)
    (hfin : ∀ y lo hi W, MadeJ w J i0 L ops n (fun _ => true) y lo hi W → wpList P ops Q l2 (fill y) W) :
    ∀ (m : Nat) (x : Nat) (listed : Array Bool) (y : Nat → Value) (lo hi : Nat → Nat) (W : World), listed.size = ops.size → (∀ i, n ≤ i → i < ops.size → listed.getD i true = false) → ClosedL .any ops listed → cntM (fun i => !listed.getD i true) n = m →
      MadeJ w J i0 L ops n (fun i => listed.getD i true) y lo hi W → wpAny P .any ops Q (l2.length + m + x) listed (fill y) W := by
  intro m
  induction m with
  | zero =>
    intro x listed y lo hi W hsz hge hc hcnt hM
    have hall : ∀ i, i < n → listed.getD i true = true := fun i hi => by
      have := cntM_zero n hcnt i hi
      simpa using this
    refine line_more x n listed (fill y) W hl2 (hline listed hsz ?_) (hfin y lo hi W ?_)
    · intro i
      rcases Nat.lt_or_ge i n with h | h
      · rw [hall i h]; simp [h]
      · rcases Nat.lt_or_ge i ops.size with h2 | h2
        · rw [hge i h h2]; symm; simp; omega
        · rw [show listed.getD i true = true by simp [Array.getElem?_eq_none (show listed.size ≤ i by omega)]]; symm; simp; omega
    · exact ⟨by have q := hM.d; simp only [hall i0 hi0] at q; exact q, hM.sz, fun i hi _ hr => hM.fact i hi (hall i hi) (fun k hk _ => hr k hk rfl), fun i hi _ => hM.at' i hi (hall i hi), fun i j hi hj _ _ h => hM.apart i j hi hj (hall i hi) (hall j hj) h, fun j o e hj _ ho he hb => hM.order j o e hj (hall j hj) ho he hb⟩
  | succ m ih =>
    intro x listed y lo hi W hsz hge hc hcnt hM
    obtain ⟨i9, hi9, hf0, hless⟩ := cntM_least (f := fun i => !listed.getD i true) n (by omega)
    have hun : listed.getD i9 true = false := by simpa using hf0
    obtain ⟨o0, ho0, hd0⟩ := depsB_at hdep hi9
    have hin : ∀ i, i < n → i < listed.size := fun i hi => by
      obtain ⟨o, ho, _⟩ := depsB_at hdep hi
      have := (Array.getElem?_eq_some_iff.1 ho).1
      omega
    have hready : i9 ∈ Region.ready .any ops listed := mem_ready.2 ⟨hun, o0, ho0, fun e he hb => by
      have h1 := hd0 e he hb
      have h2 := hless e.on h1
      have h3 : listed.getD e.on true = true := by simpa using h2
      have h4 := hin e.on (by omega)
      simpa [h4] using h3⟩
    rw [show l2.length + (m + 1) + x = (l2.length + m + x) + 1 by omega]
    refine ⟨fun h => (by rw [h] at hready; cases hready), fun j hj => ?_⟩
    have hjn : j < n := phased_lt hp hc hi9 hun hj
    obtain ⟨hjun, oj, hoj, hall⟩ := mem_ready.1 hj
    have H := HopsK.at l1 0 j oj hop ((hl1 j oj).2 ⟨hjn, hoj⟩)
    rw [Nat.zero_add] at H
    refine wpOp_step hoj (fun K' hK => H y W (listed.getD i0 true) (fun e => (eq_of_beq e) ▸ hjun) hM.d hM.sz (fun e he hb hnd => ?_) K' ?_)
    · have h1 := hall e he hb
      obtain ⟨o', ho', hd'⟩ := depsB_at hdep hjn
      rw [hoj] at ho'
      cases ho'
      have h2 := hd' e he hb
      have h3 := getD_to _ _ h1
      refine ⟨lo e.on, hi e.on, (hM.at' e.on (by omega) h3).1, (hM.at' e.on (by omega) h3).2.2, hM.fact e.on (by omega) h3 (fun k hk hlk hmem => ?_)⟩
      have hkj : j ≠ k := fun h => by rw [h] at hjun; rw [hjun] at hlk; cases hlk
      have := waits_listed hc (retB_at hret hk hjn hkj hmem hoj he hb hnd rfl) hlk
      rw [hjun] at this
      cases this
    · rintro v a' W' ⟨hD, hs2, hkeep⟩ hΦ rfl
      have hsj := hin j hjn
      have g1 : (listed.setIfInBounds j true).getD j true = true := by simp [hsj]
      refine hK _ _ ?_
      refine ih x (listed.setIfInBounds j true) (updV y j v) (fun i => if i = j then W.heap.size else lo i) (fun i => if i = j then W'.heap.size else hi i) W' (by simp [hsz]) (fun i h1 h2 => ?_) (hc.set hj) ?_ ?_
      · rw [getD_set_ne true (by omega)]; exact hge i h1 h2
      · have := cntM_drop (f := fun i => !listed.getD i true) (g := fun i => !(listed.setIfInBounds j true).getD i true) (j := j) (by simp only [hjun]; rfl) (by simp only [g1]; rfl) (fun i hi => by simp only [getD_set_ne true (Ne.symm hi)]) n hjn
        omega
      · have old : ∀ i, i ≠ j → (listed.setIfInBounds j true).getD i true = true → listed.getD i true = true := fun i h1 h2 => by rwa [getD_set_ne true (Ne.symm h1)] at h2
        have new : ∀ i, listed.getD i true = true → (listed.setIfInBounds j true).getD i true = true := fun i h => by
          by_cases e : j = i
          · subst e; exact g1
          · rwa [getD_set_ne true e]
        have hs := hM.sz
        refine ⟨?_, Nat.le_trans hs hs2, fun i hi h hr => ?_, fun i hi h => ?_, fun i k hi hk h1 h2 hne => ?_, fun k o e hk h1 ho he hb => ?_⟩
        · show J ((listed.setIfInBounds j true).getD i0 true) W'
          by_cases e : j = i0
          · subst e; rw [g1]; simpa using hD
          · rw [getD_set_ne true e]; rw [show (j == i0) = false by simpa using e, Bool.false_or] at hD; exact hD
        · by_cases e : i = j
          · subst e; simp only [if_pos]; exact hΦ
          · simp only [if_neg e]
            have hli := old i e h
            have h5 := hkeep i e (hr j hjn g1) _ _ (hM.at' i hi hli).2.2 (hM.fact i hi hli (fun k hk hlk => hr k hk (new k hlk)))
            have h6 := MonIL.at L 0 i hmono y (updV y j v) (lo i) _ W' W' (Nat.le_trans (hM.at' i hi hli).2.2 hs2) (Below.refl _ _) (fun q hq => by
              rw [Nat.zero_add] at hq
              have hne : q ≠ j := by
                rcases hq with hq | hq
                · rw [hq]; exact e
                · intro hqj
                  have := waits_listed hc (readB_at hret hi hq) hli
                  rw [hqj, hjun] at this
                  cases this
              simp [updV, hne])
            exact h6 h5
        · by_cases e : i = j
          · subst e; simp only [if_pos]; exact ⟨hs, hs2, Nat.le_refl _⟩
          · simp only [if_neg e]; have := hM.at' i hi (old i e h); exact ⟨this.1, this.2.1, by omega⟩
        · by_cases e : i = j
          · have e2 : k ≠ j := fun h => hne (by rw [e, h])
            simp only [if_pos e, if_neg e2]
            exact Or.inr (hM.at' k hk (old k e2 h2)).2.2
          · by_cases e2 : k = j
            · simp only [if_neg e, if_pos e2]
              exact Or.inl (hM.at' i hi (old i e h1)).2.2
            · simp only [if_neg e, if_neg e2]
              exact hM.apart i k hi hk (old i e h1) (old k e2 h2) hne
        · obtain ⟨o', ho', hd'⟩ := depsB_at hdep hk
          rw [ho] at ho'
          cases ho'
          have hlt := hd' e he hb
          by_cases e1 : k = j
          · subst e1
            rw [hoj] at ho
            cases ho
            have h3 := getD_to _ _ (hall e he hb)
            have e2 : e.on ≠ k := by omega
            simp only [if_pos, if_neg e2]
            exact (hM.at' e.on (by omega) h3).2.2
          · have h4 := old k e1 h1
            have h5 := getD_to _ _ (hc k o ho h4 e he hb)
            have e2 : e.on ≠ j := fun h => by rw [h, hjun] at h5; cases h5
            simp only [if_neg e1, if_neg e2]
            exact hM.order k o e hk h4 ho he hb
/-- **A region whose first operations come in whatever order, each with a fact of its own.** -/
theorem wp_region_stj {id : Nat} {a : Act} {w : World} {l : List Oper} (J : Bool → World → Prop) (i0 : Nat) (L : List It) (hi0 : Nat.blt i0 L.length = true) (hJ0 : J false (w.drewN 1)) (hm : P.follows .mixedOrders = true) (hB : stB l.toArray L.length (L.map It.ret) (L.map It.reads) = true) (hmono : MonIL 0 L)
    (h : ∀ F : (Nat → Value) → Act, F = (fun y => fills 0 (l.take L.length) y a) → HopsK P l.toArray Q w J i0 F L 0 (l.take L.length) ∧ ∀ y lo hi W, MadeJ w J i0 L l.toArray L.length (fun _ => true) y lo hi W → wpList P l.toArray Q (l.drop L.length) (F y) W) : (Code.region id l.toArray true).wp P Q a w := by
  unfold stB makeB at hB
  simp only [Bool.and_eq_true] at hB
  obtain ⟨⟨⟨⟨h0, h2⟩, h3⟩, h4⟩, h5⟩ := hB
  have hn : L.length ≤ l.length := by simpa using Nat.le_of_ble_eq_true h0
  refine wp_region_any hm ?_
  have hl2 : (l.drop L.length).length = l.toArray.size - L.length := by simp
  have F := stj_go (P := P) (Q := Q) (w := w) (J := J) (i0 := i0) (fill := fun y => fills 0 (l.take L.length) y a) (L := L) (n := L.length) (ops := l.toArray) (l1 := l.take L.length) (l2 := l.drop L.length) (by simpa using hi0) h2 h3 h5
    (fun j o => by
      rw [List.getElem?_take]
      split
      · rename_i h; simp [h]
      · rename_i h; constructor
        · intro h'; cases h'
        · intro h'; exact absurd h'.1 h)
    (fun j o ho => by rw [List.getElem?_drop] at ho; simpa using ho)
    (fun listed hs hg => by
      rw [hl2]
      have e : listed = Array.ofFn (n := l.toArray.size) fun i => decide (i.1 < L.length) := by
        refine Array.ext (by simp [hs]) (fun i h5 h6 => ?_)
        have := hg i
        simp only [Array.getElem_ofFn]
        have e1 : listed.getD i true = listed[i] := by simp [h5]
        rw [← e1, this]
        have : i < l.toArray.size := by omega
        by_cases h7 : i < L.length
        · simp [h7]
        · simp only [h7, false_or, decide_false, decide_eq_false_iff_not]; omega
      rw [e]; exact h4)
    hmono (h _ rfl).1 (h _ rfl).2 L.length 0 (Array.replicate l.toArray.size false) (firstY l a) (fun _ => 0) (fun _ => 0) (w.drewN 1) (by simp) (fun i h5 h6 => by simp at h6; simp [h6]) (closed_none _ _) ?_ ?_
  · have e : (l.drop L.length).length + L.length + 0 = l.toArray.size := by rw [hl2]; simp; omega
    rw [e, fills_self l a (l.take L.length) 0 (fun j o ho => by
      rw [List.getElem?_take] at ho
      split at ho
      · simpa using ho
      · cases ho)] at F
    exact F
  · have : ∀ k, k ≤ L.length → cntM (fun i => !(Array.replicate l.toArray.size false).getD i true) k = k := by
      intro k
      induction k with
      | zero => intro _; rfl
      | succ k ih =>
        intro hk
        have h5 : k < l.toArray.size := by simp; omega
        simp only [cntM]
        rw [ih (by omega)]
        have : (Array.replicate l.toArray.size false).getD k true = false := by simp at h5; simp [h5]
        simp only [this]; rfl
    exact this L.length (Nat.le_refl _)
  · have none : ∀ i, i < L.length → (Array.replicate l.toArray.size false).getD i true = true → False := fun i hi h => by
      have : i < l.length := by omega
      simp [this] at h
    have hi1 : i0 < l.length := by
      have : i0 < L.length := by simpa using hi0
      omega
    exact ⟨by simpa [hi1] using hJ0, Nat.le_refl _, fun i hi h => (none i hi h).elim, fun i hi h => (none i hi h).elim, fun i j hi _ h _ _ => (none i hi h).elim, fun j o e hj h _ _ _ => (none j hj h).elim⟩
theorem stpj_keeps {J : Bool → World → Prop} {i0 : Nat} {b : Bool} {L : List It} {i : Nat} {y : Nat → Value} {W W' : World} (rs : List Nat) (hr : (itL L i).ret = rs) (d : J (i == i0 || b) W') (hs : W.heap.size ≤ W'.heap.size) (h : Keeps y W W' (i :: rs) 0 L) : StpJ J i0 b L i y W W' := ⟨d, hs, fun j hj hn => Keeps.at L 0 j h (by rw [Nat.zero_add]; rw [hr] at hn; simp [hj, hn])⟩
/-- What is asked of an operation: A is the state, told by its slots. -/
def HopL (P : Program) (ops : Array Oper) (Q : Exit → Act → World → Prop) (w : World) (J : Bool → World → Prop) (i0 : Nat) (a : Act) (l : List Oper) (L : List It) (i : Nat) (o : Oper) : Prop :=
  ∀ (A : Act) (y : Nat → Value) (W : World) (b : Bool), (∀ (j : Nat) (o' : Oper) (d : Nat), l[j]? = some o' → o'.dst = some d → A.tmps.getD d undef = y j) → (∀ d, wrB d l = false → A.tmps.getD d undef = a.tmps.getD d undef) → ((i == i0) = true → b = false) → J b W → w.heap.size ≤ W.heap.size → (∀ e ∈ o.after, Region.binds .any e = true → ndB e = true → ∃ lo hi, w.heap.size ≤ lo ∧ hi ≤ W.heap.size ∧ (itL L e.on).p y lo hi W) →
    ∀ K : Act → World → Prop, Shut (∀ x W', StpJ J i0 b L i y W W' → (itL L i).p (updV y i x) W.heap.size W'.heap.size W' → K (A.put o.dst x) W') → if Region.wanted o (yielded ops A.tmps) = true then Oper.wp P o A W K Q else K (A.put o.dst undef) W
def HopsL (P : Program) (ops : Array Oper) (Q : Exit → Act → World → Prop) (w : World) (J : Bool → World → Prop) (i0 : Nat) (a : Act) (l : List Oper) (L : List It) : Nat → List Oper → Prop
  | _, [] => True
  | k, o :: r => HopL P ops Q w J i0 a l L k o ∧ HopsL P ops Q w J i0 a l L (k + 1) r
theorem hopsl_of {ops : Array Oper} {w : World} {J : Bool → World → Prop} {i0 : Nat} {a : Act} {l : List Oper} {L : List It} (hs : slotsB a.tmps.size l = true) (h1 : onceB l = true) : ∀ (r : List Oper) (k : Nat), (∀ j o, r[j]? = some o → l[k + j]? = some o) → HopsL P ops Q w J i0 a l L k r → HopsK P ops Q w J i0 (fun y => fills 0 l y a) L k r
  | [], _, _, _ => trivial
  | o :: r, k, hl, H => by
    refine ⟨fun y W b hb d hz hd K hK => ?_, hopsl_of hs h1 r (k + 1) (fun j o' ho => by have := hl (j + 1) o' (by simpa using ho); rwa [show k + 1 + j = k + (j + 1) by omega]) H.2⟩
    have hk : l[k]? = some o := hl 0 o rfl
    refine H.1 (fills 0 l y a) y W b (fun j o' d' hj hd' => ?_) (fun d' hd' => fills_other l 0 y a d' hd') hb d hz hd K (fun x W' hst hp => ?_)
    · have hlt : d' < a.tmps.size := by
        unfold slotsB at hs
        rw [List.all_eq_true] at hs
        have := hs o' (List.mem_of_getElem? hj)
        rw [hd'] at this
        simpa using this
      have := fills_at l 0 j y a o' d' h1 hj hd' hlt
      rwa [Nat.zero_add] at this
    · refine hK x _ W' hst hp ?_
      have := fills_upd l 0 k y a o x h1 hk
      rwa [Nat.zero_add] at this
/-- **A region whose first operations come in whatever order, the state told by its slots.** -/
theorem wp_region_sj {id : Nat} {a : Act} {w : World} {l : List Oper} (J : Bool → World → Prop) (i0 : Nat) (L : List It) (hi0 : Nat.blt i0 L.length = true) (hJ0 : J false (w.drewN 1)) (hm : P.follows .mixedOrders = true) (hB : stB l.toArray L.length (L.map It.ret) (L.map It.reads) = true) (hO : onceB (l.take L.length) = true) (hS : slotsB a.tmps.size (l.take L.length) = true) (hmono : MonIL 0 L)
    (hop : HopsL P l.toArray Q w J i0 a (l.take L.length) L 0 (l.take L.length))
    (hfin : ∀ y lo hi W, MadeJ w J i0 L l.toArray L.length (fun _ => true) y lo hi W → wpList P l.toArray Q (l.drop L.length) (fills 0 (l.take L.length) y a) W) : (Code.region id l.toArray true).wp P Q a w :=
  wp_region_stj J i0 L hi0 hJ0 hm hB hmono (fun F hF => by
    subst hF
    exact ⟨hopsl_of hS hO _ 0 (fun j o ho => by rwa [Nat.zero_add]) hop, hfin⟩)
end
end Go.Proofs.YtchoopnjckcohaaGreat
