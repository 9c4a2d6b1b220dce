import Derived.Test.YtmagchclmmphaabGreatDoorAT
import Derived.Test.YtmagchclmmphaabGreatDoorPP
namespace Go.Proofs.YtmagchclmmphaabGreatDoor
open Go.RowKit Go.Maps
attribute [local go_sem] Oper.semAt_some

theorem cnt_next3 {R : List RuT} {k : Nat} {r : RuT} (h : R[k]? = some r) : ((R.take (k + 1)).filter fun r => !isSt r).length = ((R.take k).filter fun r => !isSt r).length + (if isSt r then 0 else 1) := by
  rw [List.take_add_one, h, List.filter_append, List.length_append]
  cases hs : isSt r <;> simp [hs]
set_option maxRecDepth 100000 in
set_option maxHeartbeats 1000000 in
/-- How many rules are edges. -/
theorem countE_any (w : World) (ar : Option Addr) (cr : Nat) (R : List RuT) (hA : Hid (RdRu w ar R)) (hl : R.length ≤ 4194304) :
    Calls Tryz.prog 45 #[.slice ar R.length cr] w fun e w' => e = .returned (.int .i64 ((R.filter fun r => !isSt r).length : Nat)) ∧ Below w.heap.size w w' := by
  go_enter Tryz.func45, Tryz.ntmps45
  go_wp2_with fail
  go_loopw [8, 3] (fun i n wr => ∃ (k c : Nat), k ≤ R.length ∧ i = .int .i64 k ∧ n = .int .i64 c ∧ c ≤ k ∧ Hid (c = ((R.take k).filter fun r => !isSt r).length) ∧ Hid (Below w.heap.size w wr)) (fun i _ _ => R.length - (intOf i).toNat)
  case atStart => exact ⟨0, 0, Nat.zero_le _, rfl, rfl, Nat.le_refl _, hide (by simp), hide (Below.refl _ _)⟩
  case round =>
    obtain ⟨k, c, hk, rfl, rfl, hck, HC, HB⟩ := hrel
    by_cases hlt : k < R.length
    · have i2 : (k : Int) < (R.length : Int) := by omega
      have i3 : (0 : Int) ≤ (k : Int) := by omega
      obtain ⟨b, o, rfl, q0, q1, q2⟩ := (hA.out.on HB.out) k hlt
      have HN := hide (cnt_next3 (List.getElem?_eq_getElem hlt))
      obtain ⟨r, hr⟩ : ∃ r, R[k] = r := ⟨_, rfl⟩
      rw [hr] at q0 q1 q2 HN
      obtain ⟨a, x, y⟩ := r
      simp only at q0 q1 q2
      by_cases hx : x = ⟨#[]⟩
      · subst hx
        go_wp2_with fail
        exact ⟨⟨k + 1, c, by omega, by go_num, rfl, by omega, hide (by rw [HN.out, ← HC.out]; simp [isSt]), hide (HB.out.alloc HB.out.size _)⟩, by simp [intOf]; omega⟩
      · have e0 : (!x.toList.isEmpty) = true := by have := str_empty x; rw [decide_eq_false hx] at this; simpa using this
        have HX : Hid (isSt (a, x, y) = false) := hide (by simp [isSt, hx])
        go_wp2_with fail
        exact ⟨⟨k + 1, c + 1, by omega, by go_num, by go_num, by omega, hide (by rw [HN.out, ← HC.out, HX.out]; simp), hide (HB.out.alloc HB.out.size _)⟩, by simp [intOf]; omega⟩
    · have i2 : ¬ (k : Int) < (R.length : Int) := by omega
      obtain rfl : k = R.length := by omega
      rw [List.take_length] at HC
      go_wp2_with fail
      go_ret
      exact ⟨by rw [HC.out]; rfl, HB.out⟩
theorem set5 (W : World) (g : Nat) (c0 c1 c2 c3 c4 v0 v1 v2 v3 v4 : Value) (t : TypeId) (h : W.heap[g]? = some (.cells #[c0, c1, c2, c3, c4] t (0, 0))) :
    (((((W.setCell ⟨g, 0, none⟩ v0).setCell ⟨g, 1, none⟩ v1).setCell ⟨g, 2, none⟩ v2).setCell ⟨g, 3, none⟩ v3).setCell ⟨g, 4, none⟩ v4).heap[g]? = some (.cells #[v0, v1, v2, v3, v4] t (0, 0)) ∧ Only W (((((W.setCell ⟨g, 0, none⟩ v0).setCell ⟨g, 1, none⟩ v1).setCell ⟨g, 2, none⟩ v2).setCell ⟨g, 3, none⟩ v3).setCell ⟨g, 4, none⟩ v4) (fun k => k = g) :=
  ⟨heap_setCell_same _ _ 4 _ t _ (heap_setCell_same _ _ 3 _ t _ (heap_setCell_same _ _ 2 _ t _ (heap_setCell_same _ _ 1 _ t _ (heap_setCell_same _ _ 0 _ t _ h)))), ((((only_set W _ 0 _).trans (only_set _ _ 1 _)).trans (only_set _ _ 2 _)).trans (only_set _ _ 3 _)).trans (only_set _ _ 4 _)⟩
/-- What is handed back: three rows of one's own, apart. -/
structure AtR (w w' : World) (v1 v2 v3 : Value) (St Fi : List Int) (Ed : List EdT) : Prop where
  o1 : w'.ownsRow w.heap.size 3 1 v1 St.length (St.map (Value.int .i64))
  o2 : w'.ownsRow w.heap.size 3 1 v2 Fi.length (Fi.map (Value.int .i64))
  o3 : w'.ownsRow w.heap.size 64 3 v3 Ed.length (Ed.flatMap encE)
  a12 : ∀ k, v1.ownBlock = some k → v2.ownBlock ≠ some k
  a13 : ∀ k, v1.ownBlock = some k → v3.ownBlock ≠ some k
  a23 : ∀ k, v2.ownBlock = some k → v3.ownBlock ≠ some k
  dw : Below w.heap.size w w'
theorem AtI.new {w w2 X : World} {m1 m2 : Nat} {c : Array Value} {S Y : List ByteArray} (bf : w2.heap[w.heap.size]? = some (.cells c 32 (0, 0))) (br : w2.heap[w.heap.size + 1]? = some (.cells #[.int .i64 0, .int .i64 0, .slice none 0 0, .slice none 0 0, .slice none 0 0] 25 (0, 0))) (p1 : PlM kText w2 m1 S) (p2 : PlM kText w2 m2 Y) (h1 : m1 < w2.heap.size) (h2 : m2 < w2.heap.size) (hg : w.heap.size + 2 ≤ w2.heap.size) (dw : Below w.heap.size w w2)
    (hb : X.heap[w2.heap.size]? = some (.cells #[.int .i64 (S.length : Nat), .int .i64 (Y.length : Nat), .slice none 0 0, .slice none 0 0, .slice none 0 0] 25 (0, 0))) (dX : Below w2.heap.size w2 X) :
    AtI w w2.heap.size m1 m2 c S Y X (.slice none 0 0) (.slice none 0 0) (.slice none 0 0) [] [] [] := by
  have nr : ∀ k, ¬ RB3 (.slice none 0 0) (.slice none 0 0) (.slice none 0 0) k := fun k z => by rcases z with z | z | z <;> cases z
  exact ⟨⟨⟨rfl, .inl ⟨rfl, rfl⟩⟩, ⟨rfl, .inl ⟨rfl, rfl⟩⟩, ⟨rfl, .inl ⟨rfl, rfl⟩⟩, fun _ q => (by cases q), fun _ q => (by cases q), fun _ q => (by cases q), hb, fun k z => absurd z (nr k)⟩, (dX.block _ (by omega)).trans bf, (dX.block _ (by omega)).trans br, p1.grown dX, p2.grown dX, h1, h2, hg, dw.trans (dX.mono dw.size)⟩
set_option maxRecDepth 100000 in
set_option maxHeartbeats 4000000 in
theorem autoOf_any (w : World) (ti : ByteArray) (ao asx af ar ay : Option Addr) (no co cs cf cr cy : Nat) (S F Y : List ByteArray) (R : List RuT) (hA : Hid (ReadsS w asx S ∧ ReadsS w af F ∧ RdRu w ar R ∧ ReadsS w ay Y))
    (hok : Hid ((∀ x ∈ S, kText.ok x) ∧ (∀ x ∈ F, kText.ok x) ∧ (∀ x ∈ Y, kText.ok x) ∧ ∀ r ∈ R, kText.ok r.1 ∧ kText.ok r.2.1 ∧ kText.ok r.2.2)) (hn : Hid (S.Nodup ∧ Y.Nodup)) (hm : Hid ((∀ x ∈ F, x ∈ S) ∧ ∀ r ∈ R, r.2.2 ∈ S ∧ (isSt r = false → r.2.1 ∈ S ∧ r.1 ∈ Y)))
    (hlS : S.length ≤ 4194304) (hlF : F.length ≤ 4194304) (hlR : R.length ≤ 4194304) (hlY : Y.length ≤ 4194304) :
    Calls Tryz.prog 46 #[.agg #[.string ti, .slice ao no co, .slice asx S.length cs, .slice af F.length cf, .slice ar R.length cr], .slice ay Y.length cy] w fun e w' => ∃ v1 v2 v3, e = .returned (.agg #[.int .i64 (S.length : Nat), .int .i64 (Y.length : Nat), v1, v2, v3]) ∧ AtR w w' v1 v2 v3 (riseL (stF S R)) (fiF S F) (sortE (edF S Y R)) := by
  obtain ⟨i3, hi3, hz30, hz31, hz32⟩ := info_parts info3
  obtain ⟨i6, hi6, hz60, hz61, hz62⟩ := info_parts infoE
  obtain ⟨W0, hW0⟩ : ∃ W0, (w.alloc (.cells #[.string ti, .slice ao no co, .slice asx S.length cs, .slice af F.length cf, .slice ar R.length cr] 32)).alloc (.cells #[.int .i64 0, .int .i64 0, .slice none 0 0, .slice none 0 0, .slice none 0 0] 25) = W0 := ⟨_, rfl⟩
  have d0 : Below w.heap.size w W0 := by rw [← hW0]; exact ((Below.refl _ _).alloc (Nat.le_refl _) _).alloc (by simp) _
  have b0 : W0.heap[w.heap.size]? = some (.cells #[.string ti, .slice ao no co, .slice asx S.length cs, .slice af F.length cf, .slice ar R.length cr] 32 (0, 0)) := by rw [← hW0]; exact (Below.heap_alloc _ _ _ (by simp)).trans (World.alloc_heap_new _ _)
  have b1 : W0.heap[w.heap.size + 1]? = some (.cells #[.int .i64 0, .int .i64 0, .slice none 0 0, .slice none 0 0, .slice none 0 0] 25 (0, 0)) := by rw [← hW0]; exact heap_alloc2_new w _ _
  have z0 : W0.heap.size = w.heap.size + 2 := by rw [← hW0]; simp
  have k2 : W0.cell? ⟨w.heap.size, 2, none⟩ = some (.slice asx S.length cs) := cell_of b0 rfl
  have T1 := plTxt_any W0 asx cs S (hide (hA.out.1.below d0)) (hide hok.out.1) hlS
  have HD := hide (And.intro d0 (And.intro b0 (And.intro b1 z0)))
  have hay : Hid (ReadsS W0 ay Y) := hide (hA.out.2.2.2.below d0)
  clear d0 b0 b1 z0
  go_enter Tryz.func46, Tryz.ntmps46
  go_upto_region 2 with (first
    | (go_at_call_of 83 (Value.slice asx S.length cs); refine T1.mono ?_; rintro e w1 ⟨rfl, hP1, d1⟩; have T2 := plTxt_any w1 ay cy Y (hide (hay.out.below d1)) (hide hok.out.2.2.1) hlY)
    | (go_at_call_of 83 (Value.slice ay Y.length cy); refine T2.mono ?_; rintro e w2 ⟨rfl, hP2, d2⟩))
  have d12 : Below W0.heap.size W0 w2 := d1.trans (d2.mono d1.size)
  have k2' : w2.cell? ⟨w.heap.size, 2, none⟩ = some (.slice asx S.length cs) := (d12.cell (p := ⟨w.heap.size, 2, none⟩) (by have := HD.out.2.2.2; show w.heap.size < _; omega)).trans k2
  go_upto_region 3 with fail
  obtain ⟨X, hX⟩ : ∃ X, w2.alloc (.cells #[.int .i64 (S.length : Nat), .int .i64 (Y.length : Nat), .slice none 0 0, .slice none 0 0, .slice none 0 0] 25) = X := ⟨_, rfl⟩
  rw [hX]
  have TA : Hid (AtI w w2.heap.size W0.heap.size w1.heap.size #[.string ti, .slice ao no co, .slice asx S.length cs, .slice af F.length cf, .slice ar R.length cr] S Y X (.slice none 0 0) (.slice none 0 0) (.slice none 0 0) [] [] []) := hide (by
    obtain ⟨q0, q1, q2, q3⟩ := HD.out
    have s1 := d1.size
    have hp2 : w1.heap.size < w2.heap.size := by
      obtain ⟨D, hD, _⟩ := hP2.own
      exact hD.lt
    exact AtI.new ((d12.block _ (by omega)).trans q1) ((d12.block _ (by omega)).trans q2) (hP1.grown d2) hP2 (by omega) hp2 (by omega) (q0.trans (d12.mono q0.size)) (by rw [← hX]; exact World.alloc_heap_new _ _) (by rw [← hX]; exact (Below.refl _ _).alloc (Nat.le_refl _) _))
  obtain ⟨g, hg⟩ : ∃ g, w2.heap.size = g := ⟨_, rfl⟩
  obtain ⟨m1, hm1⟩ : ∃ m, W0.heap.size = m := ⟨_, rfl⟩
  obtain ⟨m2, hm2⟩ : ∃ m, w1.heap.size = m := ⟨_, rfl⟩
  rw [hg, hm1, hm2] at TA
  rw [hg, hm1, hm2]
  clear hP1 hP2 d1 d2 d12 k2 k2' T1 T2 HD hay hX hg hm1 hm2 hW0
  have k3 : X.cell? ⟨w.heap.size, 3, none⟩ = some (.slice af F.length cf) := cell_of TA.out.bf rfl
  go_wp2_with fail
  clear k3
  go_loopw [26] (fun i wr => ∃ (k : Nat) (v2 : Value), k ≤ F.length ∧ i = .int .i64 k ∧ Hid (AtI w g m1 m2 #[.string ti, .slice ao no co, .slice asx S.length cs, .slice af F.length cf, .slice ar R.length cr] S Y wr (.slice none 0 0) v2 (.slice none 0 0) [] (fiF S (F.take k)) [])) (fun i _ => F.length - (intOf i).toNat)
  case atStart => exact ⟨0, _, Nat.zero_le _, rfl, hide (by simpa [fiF] using TA.out)⟩
  case round =>
    obtain ⟨k, v2, hk, rfl, HH⟩ := hrel
    by_cases hlt : k < F.length
    · have i2 : (k : Int) < (F.length : Int) := by omega
      have i3' : (0 : Int) ≤ (k : Int) := by omega
      obtain ⟨bF, oF, rfl, q0⟩ := (hA.out.2.1.below (hide HH.out.dw).out) k hlt
      have HN := hide (fi_next (S := S) (List.getElem?_eq_getElem hlt))
      have hx := hok.out.2.1 _ (List.getElem_mem hlt)
      have hxS := hm.out.1 _ (List.getElem_mem hlt)
      obtain ⟨x, hxx⟩ : ∃ x, F[k] = x := ⟨_, rfl⟩
      rw [hxx] at q0 HN hx hxS
      obtain ⟨pp, hi, he, hp⟩ := posAt hxS
      rw [hp] at HN
      have HQ : Hid (S[pp] = x) := hide he
      have hx' : kText.ok S[pp] := by rw [he]; exact hx
      obtain ⟨D, hD, hti, hhas, hsz, hpl⟩ := HH.out.p1.own
      have HDD := hide (And.intro hD (And.intro (hpl hn.out.1) hx'))
      obtain ⟨Fi, hFi⟩ : ∃ Fi, fiF S (F.take k) = Fi := ⟨_, rfl⟩
      have hFl : Fi.length ≤ k := by rw [← hFi, fi_len, List.length_take]; omega
      rw [hFi] at HH HN
      obtain ⟨a2, c2, rfl⟩ := rowForm HH.out.tri.o2
      have c3 : wr.cell? ⟨g, 3, none⟩ = some (.slice a2 Fi.length c2) := cell_of HH.out.tri.blk rfl
      clear he hx hxS hD hti hhas hsz hpl hp hxx hFi
      go_upto_region 6 with fail
      go_wp2_with (first
        | (at_lookup; refine lookup1_at (K := kText) _ rfl _ _ 87 rfl Tryz.underlying87 m1 S pp hi D HDD.out.1 HDD.out.2.1 HDD.out.2.2 rfl (by rw [HQ.out]; rfl) ?_)
        | (at_builtin; refine app_row2 HH.out pp rfl _ _ rfl rfl rfl (by omega) ?_; intro a5 c5 w3 kc fc NS))
      exact ⟨⟨k + 1, _, by omega, by go_num, hide (by rw [HN.out]; exact NS.out)⟩, by simp [intOf]; omega⟩
    · have i2 : ¬ (k : Int) < (F.length : Int) := by omega
      obtain rfl : k = F.length := by omega
      rw [List.take_length] at HH
      have hFl : (fiF S F).length = F.length := fi_len S F
      obtain ⟨Fi, hFi⟩ : ∃ Fi, fiF S F = Fi := ⟨_, rfl⟩
      rw [hFi] at HH hFl
      have HFI := hide hFi
      have k4 : wr.cell? ⟨w.heap.size, 4, none⟩ = some (.slice ar R.length cr) := cell_of HH.out.bf rfl
      clear TA hFi
      go_wp2_with fail
      clear k4
      go_loopw [42] (fun i wr => ∃ (k : Nat) (v1 v3 : Value), k ≤ R.length ∧ i = .int .i64 k ∧ Hid (AtI w g m1 m2 #[.string ti, .slice ao no co, .slice asx S.length cs, .slice af F.length cf, .slice ar R.length cr] S Y wr v1 v2 v3 (stF S (R.take k)) Fi (edF S Y (R.take k)))) (fun i _ => R.length - (intOf i).toNat)
      case atStart => exact ⟨0, _, _, Nat.zero_le _, rfl, hide (by simpa [stF, edF] using HH.out)⟩
      case round =>
        obtain ⟨k, v1, v3, hk, rfl, HI⟩ := hrel
        clear HH
        have hsl := st_len S (R.take k)
        have hel := ed_len S Y (R.take k)
        rw [List.length_take] at hsl hel
        obtain ⟨St, hSt⟩ : ∃ St, stF S (R.take k) = St := ⟨_, rfl⟩
        obtain ⟨Ed, hEd⟩ : ∃ Ed, edF S Y (R.take k) = Ed := ⟨_, rfl⟩
        rw [hSt] at hsl HI
        rw [hEd] at hel HI
        by_cases hlt : k < R.length
        · have i2 : (k : Int) < (R.length : Int) := by omega
          have i3' : (0 : Int) ≤ (k : Int) := by omega
          obtain ⟨bR, oR, rfl, q0, q1, q2⟩ := (hA.out.2.2.1.on (hide HI.out.dw).out) k hlt
          have HN1 := hide (st_next (S := S) (List.getElem?_eq_getElem hlt))
          have HN2 := hide (ed_next (S := S) (Y := Y) (List.getElem?_eq_getElem hlt))
          rw [hSt] at HN1
          rw [hEd] at HN2
          have hko := hok.out.2.2.2 _ (List.getElem_mem hlt)
          have hmo := hm.out.2 _ (List.getElem_mem hlt)
          obtain ⟨r, hr⟩ : ∃ r, R[k] = r := ⟨_, rfl⟩
          rw [hr] at q0 q1 q2 HN1 HN2 hko hmo
          obtain ⟨a, x, y⟩ := r
          simp only at q0 q1 q2 hko hmo
          obtain ⟨py, hiy, hey, hpy⟩ := posAt hmo.1
          obtain ⟨D, hD, hti, hhas, hsz, hpl⟩ := HI.out.p1.own
          have hky : kText.ok S[py] := by rw [hey]; exact hko.2.2
          have HDD := hide (And.intro hD (And.intro (hpl hn.out.1) hky))
          have HQY : Hid (S[py] = y) := hide hey
          have hmp := hmo.2
          have hkp : kText.ok a ∧ kText.ok x := ⟨hko.1, hko.2.1⟩
          obtain ⟨a1, d1, rfl⟩ := rowForm HI.out.tri.o1
          obtain ⟨a3, d3, rfl⟩ := rowForm HI.out.tri.o3
          clear hmo hko hti hhas hsz hpl hr hSt hEd
          go_upto_region 11 with fail
          obtain ⟨X1, hX1⟩ : ∃ X1, wr.alloc (.cells #[.string a, .string x, .string y] 68) = X1 := ⟨_, rfl⟩
          rw [hX1]
          have HA1 : Hid (AtI w g m1 m2 #[.string ti, .slice ao no co, .slice asx S.length cs, .slice af F.length cf, .slice (some ⟨bR, oR, none⟩) R.length cr] S Y X1 (.slice a1 St.length d1) v2 (.slice a3 Ed.length d3) St Fi Ed) := hide (by rw [← hX1]; exact HI.out.below ((Below.refl _ wr).alloc (Nat.le_refl _) _))
          have hrb : X1.heap[wr.heap.size]? = some (.cells #[.string a, .string x, .string y] 68 (0, 0)) := by rw [← hX1]; exact World.alloc_heap_new _ _
          have e0 : X1.cell? ⟨wr.heap.size, 0, none⟩ = some (.string a) := cell_of hrb rfl
          have e1 : X1.cell? ⟨wr.heap.size, 1, none⟩ = some (.string x) := cell_of hrb rfl
          have e2 : X1.cell? ⟨wr.heap.size, 2, none⟩ = some (.string y) := cell_of hrb rfl
          have HD2 : Hid (X1.ownsMap Tryz.prog kText.ty (plainElem Tryz.prog 3) m1 S.length D) := hide (by rw [← hX1]; exact HDD.out.1.alloc _)
          obtain ⟨bX, hbX⟩ : ∃ b, wr.heap.size = b := ⟨_, rfl⟩
          rw [hbX] at e0 e1 e2
          rw [hbX]
          clear hrb hX1 q0 q1 q2 hD hbX
          by_cases hx : x = ⟨#[]⟩
          · subst hx
            have HS : Hid (isSt (a, ⟨#[]⟩, y) = true) := hide rfl
            rw [HS.out] at HN1 HN2
            simp only [if_true, hpy, List.append_nil] at HN1 HN2
            have c2 : X1.cell? ⟨g, 2, none⟩ = some (.slice a1 St.length d1) := cell_of HA1.out.tri.blk rfl
            clear HI
            go_wp2_with (first
              | (at_lookup; refine lookup1_at (K := kText) _ rfl _ _ 87 rfl Tryz.underlying87 m1 S py hiy D HD2.out HDD.out.2.1 HDD.out.2.2 rfl (by rw [HQY.out]; rfl) ?_)
              | (at_builtin; refine app_row1 HA1.out py rfl _ _ rfl rfl rfl (by omega) ?_; intro a5 c5 w3 kc fc NS))
            exact ⟨⟨k + 1, _, _, by omega, by go_num, hide (by rw [HN1.out, HN2.out]; exact NS.out)⟩, by simp [intOf]; omega⟩
          · have e3 : (x.toList.isEmpty) = false := by have := str_empty x; rw [decide_eq_false hx] at this; simpa using this
            have HS : Hid (isSt (a, x, y) = false) := hide (by simp [isSt, hx])
            obtain ⟨px, hix, hex, hpx⟩ := posAt (hmp HS.out).1
            obtain ⟨pa, hia, hea, hpa⟩ := posAt (hmp HS.out).2
            rw [HS.out] at HN1 HN2
            simp only [Bool.false_eq_true, if_false, hpy, hpx, hpa, List.append_nil] at HN1 HN2
            have c4 : X1.cell? ⟨g, 4, none⟩ = some (.slice a3 Ed.length d3) := cell_of HA1.out.tri.blk rfl
            obtain ⟨D2, hD2, _, _, _, hpl2⟩ := HA1.out.p2.own
            have hkx : kText.ok S[px] := by rw [hex]; exact hkp.2
            have hka : kText.ok Y[pa] := by rw [hea]; exact hkp.1
            have HDY := hide (And.intro hD2 (And.intro (hpl2 hn.out.2) (And.intro hka hkx)))
            have HQX : Hid (S[px] = x) := hide hex
            have HQA : Hid (Y[pa] = a) := hide hea
            clear hD2 hpl2 hkx hka hex hea hpx hpa HI
            go_wp2_with (first
              | (at_lookup; first | (refine lookup1_at (K := kText) _ rfl _ _ 87 rfl Tryz.underlying87 m1 S px hix D HD2.out HDD.out.2.1 HDY.out.2.2.2 rfl (by rw [HQX.out]; rfl) ?_) | (refine lookup1_at (K := kText) _ rfl _ _ 87 rfl Tryz.underlying87 m2 Y pa hia D2 HDY.out.1 HDY.out.2.1 HDY.out.2.2.1 rfl (by rw [HQA.out]; rfl) ?_) | (refine lookup1_at (K := kText) _ rfl _ _ 87 rfl Tryz.underlying87 m1 S py hiy D HD2.out HDD.out.2.1 HDD.out.2.2 rfl (by rw [HQY.out]; rfl) ?_))
              | (at_builtin; refine app_row3 HA1.out ((px : Nat), (pa : Nat), (py : Nat)) rfl _ _ rfl rfl rfl (by omega) ?_; intro a5 c5 w3 kc fc NS))
            exact ⟨⟨k + 1, _, _, by omega, by go_num, hide (by rw [HN1.out, HN2.out]; exact NS.out)⟩, by simp [intOf]; omega⟩
        · have i2 : ¬ (k : Int) < (R.length : Int) := by omega
          obtain rfl : k = R.length := by omega
          rw [List.take_length] at hSt hEd
          have HSE := hide (And.intro hSt hEd)
          obtain ⟨a1, d1, rfl⟩ := rowForm HI.out.tri.o1
          obtain ⟨a3, d3, rfl⟩ := rowForm HI.out.tri.o3
          have c2 : wr.cell? ⟨g, 2, none⟩ = some (.slice a1 St.length d1) := cell_of HI.out.tri.blk rfl
          have TR := rising_own wr (g + 1) _ St (by omega) HI.out.tri.o1
          clear hSt hEd
          go_upto_region 16 with (go_at_call 36; refine TR.mono ?_; rintro e w5 ⟨v', rfl, ho, d5⟩; obtain ⟨a6, d6, rfl⟩ := rowForm ho; have hG : Grw wr w5 (.slice a1 St.length d1) (.slice a6 (riseL St).length d6) := ⟨Only.ofBelow d5, fun k q => .inr (ho.lt k q).1⟩; have ho2 : w5.ownsRow (g + 1) (rI (riseL St)).e (rI (riseL St)).sz (.slice a6 (riseL St).length d6) (rI (riseL St)).n (rI (riseL St)).xs := own_wide ho (by have := HI.out.tri.glt; omega); have hbx := HI.out.tri.box hG.1 (fun k z => .inl z); have NS := hide (HI.out.step (HI.out.tri.row1 hG ho2)); have kc : w5.cell? ⟨g, 2, none⟩ = some (.slice a1 St.length d1) := cell_of hbx rfl; have fc : w5.frozen? ⟨g, 2, none⟩ = false := fz_of hbx; clear hbx ho ho2 hG d5)
          obtain ⟨Z, hZ⟩ : ∃ Z, w5.setCell ⟨g, 2, none⟩ (.slice a6 (riseL St).length d6) = Z := ⟨_, rfl⟩
          rw [hZ] at NS ⊢
          have c4 : Z.cell? ⟨g, 4, none⟩ = some (.slice a3 Ed.length d3) := cell_of NS.out.tri.blk rfl
          have TS := sortE_any Z (g + 1) (.slice a3 Ed.length d3) Ed NS.out.tri.o3 (by omega)
          clear hZ kc fc c2 HI TR
          go_upto_region 17 with (go_at_call 64; refine TS.mono ?_; rintro e w6 ⟨rfl, ho, hon⟩; have ho3 : w6.ownsRow (g + 1) (rE (sortE Ed)).e (rE (sortE Ed)).sz (.slice a3 Ed.length d3) (rE (sortE Ed)).n (rE (sortE Ed)).xs := (by show w6.ownsRow (g + 1) 64 3 (.slice a3 Ed.length d3) (sortE Ed).length _; rw [sortE_len]; exact ho); have NT := hide (NS.out.step (NS.out.tri.over3 hon ho3)); clear ho ho3 hon)
          clear TS c4 NS
          have n0 : w6.cell? ⟨g, 0, none⟩ = some (.int .i64 (S.length : Nat)) := cell_of NT.out.tri.blk rfl
          have n1 : w6.cell? ⟨g, 1, none⟩ = some (.int .i64 (Y.length : Nat)) := cell_of NT.out.tri.blk rfl
          have n2 : w6.cell? ⟨g, 2, none⟩ = some (.slice a6 (riseL St).length d6) := cell_of NT.out.tri.blk rfl
          obtain ⟨a2, d2, rfl⟩ := rowForm NT.out.tri.o2
          have n3 : w6.cell? ⟨g, 3, none⟩ = some (.slice a2 (rI Fi).n d2) := cell_of NT.out.tri.blk rfl
          have n4 : w6.cell? ⟨g, 4, none⟩ = some (.slice a3 Ed.length d3) := cell_of NT.out.tri.blk rfl
          have o0 : w6.cell? ⟨w.heap.size + 1, 0, none⟩ = some (.int .i64 0) := cell_of NT.out.br rfl
          have o1 : w6.cell? ⟨w.heap.size + 1, 1, none⟩ = some (.int .i64 0) := cell_of NT.out.br rfl
          have o2 : w6.cell? ⟨w.heap.size + 1, 2, none⟩ = some (.slice none 0 0) := cell_of NT.out.br rfl
          have o3 : w6.cell? ⟨w.heap.size + 1, 3, none⟩ = some (.slice none 0 0) := cell_of NT.out.br rfl
          have o4 : w6.cell? ⟨w.heap.size + 1, 4, none⟩ = some (.slice none 0 0) := cell_of NT.out.br rfl
          have f0 : w6.frozen? ⟨w.heap.size + 1, 0, none⟩ = false := fz_of NT.out.br
          have f1 : w6.frozen? ⟨w.heap.size + 1, 1, none⟩ = false := fz_of NT.out.br
          have f2 : w6.frozen? ⟨w.heap.size + 1, 2, none⟩ = false := fz_of NT.out.br
          have f3 : w6.frozen? ⟨w.heap.size + 1, 3, none⟩ = false := fz_of NT.out.br
          have f4 : w6.frozen? ⟨w.heap.size + 1, 4, none⟩ = false := fz_of NT.out.br
          have HZ := hide (set5 w6 (w.heap.size + 1) _ _ _ _ _ (.int .i64 (S.length : Nat)) (.int .i64 (Y.length : Nat)) (.slice a6 (riseL St).length d6) (.slice a2 (rI Fi).n d2) (.slice a3 Ed.length d3) 25 NT.out.br)
          go_wp2
          refine bodyPost_ret (results_cell_row (p := 4) (ty := 25) rfl _ _ (w.heap.size + 1) 25 _ (0, 0) _ rfl HZ.out.1 Tryz.underlying25 rfl (by kernel_rfl)) rfl ?_
          have hg2 := NT.out.hg
          have hlo := HZ.out.2
          have nr : ∀ k, g + 1 ≤ k → ¬ k = w.heap.size + 1 := fun k hk => by omega
          obtain ⟨eS, eE⟩ := HSE.out
          rw [eS, eE, HFI.out]
          refine ⟨_, _, _, rfl, ⟨own_wide (row_only NT.out.tri.o1 hlo fun k q => nr k (NT.out.tri.o1.lt k q).1) (by omega), own_wide (row_only NT.out.tri.o2 hlo fun k q => nr k (NT.out.tri.o2.lt k q).1) (by omega), own_wide (row_only NT.out.tri.o3 hlo fun k q => nr k (NT.out.tri.o3.lt k q).1) (by omega), NT.out.tri.a12, NT.out.tri.a13, NT.out.tri.a23, NT.out.dw.trans (hlo.toBelow NT.out.dw.size fun k z => by omega)⟩⟩
end Go.Proofs.YtmagchclmmphaabGreatDoor
namespace Go.Proofs.YtmagchclmmphaabGreatDoor
open Go.RowKit Go.Maps

/-! ### What a content that may be says of its automaton -/
structure AuOk (O : List OpI) (S F : List ByteArray) (R : List RuT) : Prop where
  sn : S.Nodup
  yn : (symF O).Nodup
  sk : ∀ x ∈ S, kText.ok x
  fk : ∀ x ∈ F, kText.ok x
  yk : ∀ x ∈ symF O, kText.ok x
  rk : ∀ r ∈ R, kText.ok r.1 ∧ kText.ok r.2.1 ∧ kText.ok r.2.2
  fm : ∀ x ∈ F, x ∈ S
  rm : ∀ r ∈ R, r.2.2 ∈ S ∧ (isSt r = false → r.2.1 ∈ S ∧ r.1 ∈ symF O)
  rn : R.Nodup
theorem nodup_map {α β : Type} {f : α → β} {l : List α} (h : l.Nodup) (hf : ∀ a ∈ l, ∀ b ∈ l, f a = f b → a = b) : (l.map f).Nodup := by
  unfold List.Nodup at *
  rw [List.pairwise_map]
  exact h.imp_of_mem fun ha hb hne e => hne (hf _ ha _ hb e)
theorem posOf_inj {S : List ByteArray} {a b : ByteArray} (ha : a ∈ S) (hb : b ∈ S) (h : posOf S a = posOf S b) : a = b := by
  obtain ⟨p, hi, he, hp⟩ := posAt ha
  obtain ⟨q, hj, hf, hq⟩ := posAt hb
  have e : p = q := by rw [← hp, ← hq]; exact h
  subst e
  exact he.symm.trans hf
theorem aok_of {ti : ByteArray} {O : List OpI} {S F : List ByteArray} {R : List RuT} (h : valF ti O S F R = true) : AuOk O S F R := by
  have hs16 : ∀ x, vld x = true → kText.ok x := fun x hx => by have := vld_size hx; show x.size ≤ 1048576; omega
  unfold valF namesOk at h
  simp only [Bool.and_eq_true, decide_eq_true_eq] at h
  obtain ⟨⟨⟨⟨⟨⟨⟨h1, h2⟩, h3⟩, h4⟩, h5⟩, h6⟩, h7⟩, h8⟩ := h
  have hO : ∀ y ∈ O, vld y.1 = true ∧ 0 ≤ y.2 ∧ y.2 ≤ 1 := fun y hy => by
    have q := List.all_eq_true.1 h1 _ hy
    simp only [opOk, Bool.and_eq_true, decide_eq_true_eq] at q
    exact ⟨q.1.1, q.1.2, q.2⟩
  have hS : ∀ x ∈ S, kText.ok x := fun x hx => hs16 x (List.all_eq_true.1 h2 x hx)
  have hy : ∀ x ∈ symF O, kText.ok x := fun x hx => by
    obtain ⟨y, hy, rfl⟩ := List.mem_map.1 hx
    exact hs16 _ (hO y (List.mem_filter.1 hy).1).1
  have hz : kText.ok ⟨#[]⟩ := Nat.zero_le _
  have hr : ∀ r ∈ R, r.2.2 ∈ S ∧ (isSt r = false → r.2.1 ∈ S ∧ r.1 ∈ symF O) ∧ (∃ y ∈ O, y.1 = r.1) ∧ (r.2.1 = ⟨#[]⟩ ∨ r.2.1 ∈ S) := fun r hr => by
    have q := List.all_eq_true.1 h8 r hr
    unfold ruleOk at q
    simp only [Bool.and_eq_true, Bool.or_eq_true, decide_eq_true_eq] at q
    obtain ⟨⟨q1, q2⟩, q3⟩ := q
    obtain ⟨y, hy, e⟩ := List.mem_map.1 (memO_iff.1 q1)
    have e1 : y.1 = r.1 := by have := congrArg Prod.fst e; simpa [opN, opR] using this
    refine ⟨memS_iff.1 q2, fun hst => ?_, ⟨y, hy, e1⟩, q3.imp_right memS_iff.1⟩
    have hne : r.2.1 ≠ ⟨#[]⟩ := of_decide_eq_false hst
    refine ⟨memS_iff.1 (q3.resolve_left hne), List.mem_map.2 ⟨y, List.mem_filter.2 ⟨hy, ?_⟩, e1⟩⟩
    have e2 : y.2.toNat = 1 := by have := congrArg Prod.snd e; simpa [opN, opR, hne] using this
    have := hO y hy
    simp only [beq_iff_eq]
    omega
  refine ⟨h5, ?_, hS, fun x hx => hS x (rise_in h7 x hx), hy, fun r hr' => ?_, fun x hx => rise_in h7 x hx, fun r hr' => ⟨(hr r hr').1, (hr r hr').2.1⟩, h6⟩
  · refine nodup_map (List.Pairwise.filter _ ?_) fun a ha b hb e => ?_
    · have hn : (O.map opN).Nodup := h4
      unfold List.Nodup at hn
      rw [List.pairwise_map] at hn
      exact hn.imp fun hne e => hne (by rw [e])
    · have ha2 := (List.mem_filter.1 ha).2
      have hb2 := (List.mem_filter.1 hb).2
      simp only [beq_iff_eq] at ha2 hb2
      exact Prod.ext e (ha2.trans hb2.symm)
  · obtain ⟨q1, _, ⟨y, hy2, e1⟩, q3⟩ := hr r hr'
    refine ⟨by rw [← e1]; exact hs16 _ (hO y hy2).1, ?_, hS _ q1⟩
    rcases q3 with e | e
    · rw [e]; exact hz
    · exact hS _ e
theorem AuOk.en {O : List OpI} {S F : List ByteArray} {R : List RuT} (h : AuOk O S F R) : (edF S (symF O) R).Nodup := by
  unfold edF
  refine nodup_map (List.Pairwise.filter _ h.rn) fun a ha b hb e => ?_
  obtain ⟨ha1, ha2⟩ := List.mem_filter.1 ha
  obtain ⟨hb1, hb2⟩ := List.mem_filter.1 hb
  obtain ⟨at1, af1⟩ := h.rm a ha1
  obtain ⟨bt1, bf1⟩ := h.rm b hb1
  obtain ⟨a1, a2⟩ := af1 (by simpa using ha2)
  obtain ⟨b1, b2⟩ := bf1 (by simpa using hb2)
  simp only [Prod.mk.injEq] at e
  exact Prod.ext (posOf_inj a2 b2 (by omega)) (Prod.ext (posOf_inj a1 b1 (by omega)) (posOf_inj at1 bt1 (by omega)))
end Go.Proofs.YtmagchclmmphaabGreatDoor
