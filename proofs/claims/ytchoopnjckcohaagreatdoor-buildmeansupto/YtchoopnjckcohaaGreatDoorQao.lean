import Derived.Test.YtchoopnjckcohaaGreatDoorQan
set_option maxRecDepth 100000
set_option maxHeartbeats 40000000
namespace Go.Proofs.YtchoopnjckcohaaGreatDoor
open Go.RowKit Go.Maps Go.Shelf
attribute [local go_sem] Oper.semAt_some
theorem may_not {n m : Int} {St Fi : List Int} {Ed : List EdT} (h : mayA n m St Fi Ed = true → False) : mayA n m St Fi Ed = false := by
 cases q : mayA n m St Fi Ed with
 | false => rfl
 | true => exact (h q).elim
theorem below_any (w : World) (ao : Option Addr) (L : List Int) (c : Nat) (n : Int) (hr : Hid (RdN w ao L)) (hl : L.length ≤ 4194304) :
 Calls Tryz.prog 41 #[.slice ao L.length c, .int .i64 n] w fun e w' => e = .returned (.bool (L.all (inB n))) ∧ w' = w := by
 go_enter Tryz.func41, Tryz.ntmps41
 go_wp2
 go_loopw [5] (fun iv wr => ∃ i : Nat, i ≤ L.length ∧ iv = .int .i64 i ∧ Hid ((L.take i).all (inB n) = true) ∧ wr = w) (fun iv _ => L.length - (intOf iv).toNat)
 case atStart => exact ⟨0, Nat.zero_le _, rfl, hide (by simp), rfl⟩
 case round =>
  obtain ⟨i, hi, rfl, HY, hw⟩ := hrel
  obtain rfl := hw.symm
  clear hw
  by_cases hlt : i < L.length
  · have l0 : (i : Int) < (L.length : Int) := by omega
    have l1 : (0 : Int) ≤ (i : Int) := by omega
    have iw : IntKind.i64.wrap ((i : Int) + 1) = (i : Int) + 1 := by rw [IntKind.wrap_i64]; omega
    obtain ⟨g, o, rfl, q⟩ := hr.out i hlt
    by_cases hb : inB n L[i] = true
    · have HN : Hid ((L.take (i + 1)).all (inB n) = true) := hide (by rw [List.take_succ_eq_append_getElem hlt, List.all_append, HY.out]; simp [hb])
      have h2 := inB_iff.1 hb
      clear hb
      generalize L[i] = x at q h2
      have x0 : ¬ x < 0 := by omega
      have x1 : ¬ x ≥ n := by omega
      clear h2
      go_wp2
      go_roundw
      case rel => exact ⟨i + 1, by omega, by go_num, HN, by simp⟩
      case measure => simp [intOf]; omega
    · have HD : Hid (L.all (inB n) = false) := hide (by
       rw [List.all_eq_false]
       exact ⟨L[i], List.getElem_mem hlt, hb⟩)
      have h2 : ¬ (0 ≤ L[i] ∧ L[i] < n) := fun h => hb (inB_iff.2 h)
      clear hb
      generalize L[i] = x at q h2
      by_cases x0 : x < 0
      · clear h2
        go_wp2
        refine bodyPost_ret (results_tmp rfl _ _ _) rfl ?_
        exact ⟨by rw [HD.out]; rfl, rfl⟩
      · have x1 : x ≥ n := by omega
        clear h2
        go_wp2
        refine bodyPost_ret (results_tmp rfl _ _ _) rfl ?_
        exact ⟨by rw [HD.out]; rfl, rfl⟩
  · have l0 : ¬ (i : Int) < (L.length : Int) := by omega
    have HD : Hid (L.all (inB n) = true) := hide (by have := HY.out; rwa [List.take_of_length_le (by omega)] at this)
    go_wp2
    refine bodyPost_ret (results_tmp rfl _ _ _) rfl ?_
    exact ⟨by rw [HD.out]; rfl, rfl⟩
theorem rvalid_any (w : World) (n m : Int) (a1 a2 a3 : Option Addr) (c1 c2 c3 : Nat) (St Fi : List Int) (Ed : List EdT) (hA : Hid (RdA w a1 a2 a3 St Fi Ed)) (h1 : St.length ≤ 4194304) (h2 : Fi.length ≤ 4194304) (h3 : Ed.length ≤ 4194304) :
 Calls Tryz.prog 10 #[.agg #[.int .i64 n, .int .i64 m, .slice a1 St.length c1, .slice a2 Fi.length c2, .slice a3 Ed.length c3]] w fun e w' => e = .returned (.int .i64 (if mayA n m St Fi Ed then 0 else 2)) ∧ Below w.heap.size w w' := by
 obtain ⟨r, hr⟩ : ∃ r : Int, (if mayA n m St Fi Ed then (0 : Int) else 2) = r := ⟨_, rfl⟩
 rw [hr]
 have HRr := hide hr
 clear hr
 obtain ⟨W0, hW0⟩ : ∃ W0, w.alloc (.cells #[.int .i64 n, .int .i64 m, .slice a1 St.length c1, .slice a2 Fi.length c2, .slice a3 Ed.length c3] 25) = W0 := ⟨_, rfl⟩
 have D0 : Hid (Below w.heap.size w W0) := hide (by rw [← hW0]; exact (Below.refl _ _).alloc (Nat.le_refl _) _)
 have B0 : Hid (W0.heap[w.heap.size]? = some (.cells #[.int .i64 n, .int .i64 m, .slice a1 St.length c1, .slice a2 Fi.length c2, .slice a3 Ed.length c3] 25 (0, 0))) := hide (by rw [← hW0]; exact World.alloc_heap_new _ _)
 obtain ⟨y0, y1, y2, y3, y4⟩ := zd5 B0.out rfl rfl rfl rfl rfl
 have T1 := below_any W0 a1 St c1 n (hide (hA.out.s.on D0.out)) h1
 have T2 := below_any W0 a2 Fi c2 n (hide (hA.out.f.on D0.out)) h2
 go_enter Tryz.func10, Tryz.ntmps10
 by_cases x0 : n < 0
 · have HM : Hid (mayA n m St Fi Ed = false) := hide (may_not fun h => by
    have := may_parts h
    omega)
   go_wp2_with fail
   refine bodyPost_ret (results_tmp rfl _ _ _) rfl ?_
   exact ⟨by rw [← HRr.out, HM.out]; rfl, D0.out⟩
 · by_cases x1 : n > 4096
   · have HM : Hid (mayA n m St Fi Ed = false) := hide (may_not fun h => by
      have := may_parts h
      omega)
     go_wp2_with fail
     refine bodyPost_ret (results_tmp rfl _ _ _) rfl ?_
     exact ⟨by rw [← HRr.out, HM.out]; rfl, D0.out⟩
   · by_cases x2 : m < 0
     · have HM : Hid (mayA n m St Fi Ed = false) := hide (may_not fun h => by
        have := may_parts h
        omega)
       go_wp2_with fail
       refine bodyPost_ret (results_tmp rfl _ _ _) rfl ?_
       exact ⟨by rw [← HRr.out, HM.out]; rfl, D0.out⟩
     · by_cases x3 : m > 128
       · have HM : Hid (mayA n m St Fi Ed = false) := hide (may_not fun h => by
          have := may_parts h
          omega)
         go_wp2_with fail
         refine bodyPost_ret (results_tmp rfl _ _ _) rfl ?_
         exact ⟨by rw [← HRr.out, HM.out]; rfl, D0.out⟩
       · by_cases x4 : (Ed.length : Int) > 65536
         · have HM : Hid (mayA n m St Fi Ed = false) := hide (may_not fun h => by
            have := may_parts h
            omega)
           go_wp2_with fail
           refine bodyPost_ret (results_tmp rfl _ _ _) rfl ?_
           exact ⟨by rw [← HRr.out, HM.out]; rfl, D0.out⟩
         · cases hs : St.all (inB n) with
           | false =>
            rw [hs] at T1
            have HM : Hid (mayA n m St Fi Ed = false) := hide (may_not fun h => by
             have := (may_parts h).2.2.2.1
             rw [hs] at this
             cases this)
            clear hs T2
            go_wp2_with (go_at_call 41; refine T1.mono ?_; rintro e wa ⟨rfl, hw⟩; obtain rfl := hw.symm; clear hw)
            refine bodyPost_ret (results_tmp rfl _ _ _) rfl ?_
            exact ⟨by rw [← HRr.out, HM.out]; rfl, D0.out⟩
           | true =>
            rw [hs] at T1
            cases hf : Fi.all (inB n) with
            | false =>
             rw [hf] at T2
             have HM : Hid (mayA n m St Fi Ed = false) := hide (may_not fun h => by
              have := (may_parts h).2.2.2.2.1
              rw [hf] at this
              cases this)
             clear hf hs
             go_wp2_with (first
              | (go_at_call 41; refine T1.mono ?_; rintro e wa ⟨rfl, hw⟩; obtain rfl := hw.symm; clear hw T1)
              | (go_at_call 41; refine T2.mono ?_; rintro e wa ⟨rfl, hw⟩; obtain rfl := hw.symm; clear hw))
             refine bodyPost_ret (results_tmp rfl _ _ _) rfl ?_
             exact ⟨by rw [← HRr.out, HM.out]; rfl, D0.out⟩
            | true =>
             rw [hf] at T2
             have HSF := hide (And.intro hs hf)
             clear hf hs
             have HNM : Hid ((0 ≤ n ∧ n ≤ 4096) ∧ (0 ≤ m ∧ m ≤ 128) ∧ Ed.length ≤ 65536) := hide (by omega)
             go_wp2_with (first
              | (go_at_call 41; refine T1.mono ?_; rintro e wa ⟨rfl, hw⟩; obtain rfl := hw.symm; clear hw T1)
              | (go_at_call 41; refine T2.mono ?_; rintro e wa ⟨rfl, hw⟩; obtain rfl := hw.symm; clear hw T2))
             go_loopw [3] (fun iv wr => ∃ i : Nat, i ≤ Ed.length ∧ iv = .int .i64 i ∧ Hid ((∀ e ∈ Ed.take i, edOk n m e = true) ∧ Below W0.heap.size W0 wr)) (fun iv _ => Ed.length - (intOf iv).toNat)
             case atStart => exact ⟨0, Nat.zero_le _, rfl, hide ⟨by simp, Below.refl _ _⟩⟩
             case round =>
              obtain ⟨i, hi, rfl, HY⟩ := hrel
              clear y0 y1 y2 y3 y4
              have KE := hide (D0.out.trans (HY.out.2.mono D0.out.size))
              by_cases hlt : i < Ed.length
              · have l0 : (i : Int) < (Ed.length : Int) := by omega
                have l1 : (0 : Int) ≤ (i : Int) := by omega
                have iw : IntKind.i64.wrap ((i : Int) + 1) = (i : Int) + 1 := by rw [IntKind.wrap_i64]; omega
                obtain ⟨g, o, haa, q1, q2, q3⟩ := (hA.out.e.on KE.out) i hlt
                subst haa
                have HIN := hide (List.getElem_mem hlt)
                have HTK := hide (List.take_succ_eq_append_getElem hlt)
                generalize Ed[i] = x at q1 q2 q3 HIN HTK
                obtain ⟨X1, hX1⟩ : ∃ X1, wr.alloc (.cells #[.int .i64 x.1, .int .i64 x.2.1, .int .i64 x.2.2] 61) = X1 := ⟨_, rfl⟩
                have HX : Hid (X1.heap[wr.heap.size]? = some (.cells #[.int .i64 x.1, .int .i64 x.2.1, .int .i64 x.2.2] 61 (0, 0)) ∧ Below wr.heap.size wr X1) := hide (by rw [← hX1]; exact ⟨World.alloc_heap_new _ _, (Below.refl _ _).alloc (Nat.le_refl _) _⟩)
                have HD := hide (HY.out.2.trans (HX.out.2.mono HY.out.2.size))
                have KX := hide (D0.out.trans (HD.out.mono D0.out.size))
                obtain ⟨z0, z1, z2⟩ := zd3 HX.out.1 rfl rfl rfl
                have B1 := blk_on B0.out HY.out.2
                have B2 := blk_on B0.out HD.out
                have y4 : wr.cell? ⟨w.heap.size, 4, none⟩ = some (.slice (some ⟨g, o, none⟩) Ed.length c3) := cell_of B1 rfl
                obtain ⟨y0, y1⟩ := zd2 B2 rfl rfl
                clear B1 B2
                have NO : Hid (edOk n m x = false → mayA n m St Fi Ed = false) := hide (fun hx => may_not fun h => by
                 have := (may_parts h).2.2.2.2.2 x HIN.out
                 rw [show edOk n m x = true by unfold edOk; simp only [Bool.and_eq_true, inB_iff]; omega] at hx
                 cases hx)
                cases hx : edOk n m x with
                | true =>
                 have hxx := hx
                 unfold edOk at hxx
                 simp only [Bool.and_eq_true, inB_iff] at hxx
                 have p0 : ¬ x.1 < 0 := by omega
                 have p1 : ¬ x.1 ≥ n := by omega
                 have p2 : ¬ x.2.2 < 0 := by omega
                 have p3 : ¬ x.2.2 ≥ n := by omega
                 have p4 : ¬ x.2.1 < 0 := by omega
                 have p5 : ¬ x.2.1 ≥ m := by omega
                 have HX2 : Hid (∀ e ∈ Ed.take (i + 1), edOk n m e = true) := hide (fun e he => by
                  rw [HTK.out, List.mem_append] at he
                  rcases he with he | he
                  · exact HY.out.1 e he
                  · rw [List.mem_singleton] at he
                    rw [he]
                    exact hx)
                 clear hxx hx NO
                 go_wp2_with fail
                 go_roundw
                 case rel => exact ⟨i + 1, by omega, by go_num, hide ⟨HX2.out, HD.out⟩⟩
                 case measure => simp [intOf]; omega
                | false =>
                 have HM := hide (NO.out hx)
                 have hxx : ¬ (((0 ≤ x.1 ∧ x.1 < n) ∧ 0 ≤ x.2.1 ∧ x.2.1 < m) ∧ 0 ≤ x.2.2 ∧ x.2.2 < n) := fun h => by
                  rw [show edOk n m x = true by unfold edOk; simp only [Bool.and_eq_true, inB_iff]; exact h] at hx
                  cases hx
                 clear hx NO
                 by_cases p0 : x.1 < 0
                 · clear hxx
                   go_wp2_with fail
                   refine bodyPost_ret (results_tmp rfl _ _ _) rfl ?_
                   exact ⟨by rw [← HRr.out, HM.out]; rfl, KX.out⟩
                 · by_cases p1 : x.1 ≥ n
                   · clear hxx
                     go_wp2_with fail
                     refine bodyPost_ret (results_tmp rfl _ _ _) rfl ?_
                     exact ⟨by rw [← HRr.out, HM.out]; rfl, KX.out⟩
                   · by_cases p2 : x.2.2 < 0
                     · clear hxx
                       go_wp2_with fail
                       refine bodyPost_ret (results_tmp rfl _ _ _) rfl ?_
                       exact ⟨by rw [← HRr.out, HM.out]; rfl, KX.out⟩
                     · by_cases p3 : x.2.2 ≥ n
                       · clear hxx
                         go_wp2_with fail
                         refine bodyPost_ret (results_tmp rfl _ _ _) rfl ?_
                         exact ⟨by rw [← HRr.out, HM.out]; rfl, KX.out⟩
                       · by_cases p4 : x.2.1 < 0
                         · clear hxx
                           go_wp2_with fail
                           refine bodyPost_ret (results_tmp rfl _ _ _) rfl ?_
                           exact ⟨by rw [← HRr.out, HM.out]; rfl, KX.out⟩
                         · have p5 : x.2.1 ≥ m := by omega
                           clear hxx
                           go_wp2_with fail
                           refine bodyPost_ret (results_tmp rfl _ _ _) rfl ?_
                           exact ⟨by rw [← HRr.out, HM.out]; rfl, KX.out⟩
              · have l0 : ¬ (i : Int) < (Ed.length : Int) := by omega
                have y4 : wr.cell? ⟨w.heap.size, 4, none⟩ = some (.slice a3 Ed.length c3) := cell_of (blk_on B0.out HY.out.2) rfl
                have HM : Hid (mayA n m St Fi Ed = true) := hide (by
                 have h5 := HY.out.1
                 rw [List.take_of_length_le (by omega)] at h5
                 have h6 := HNM.out
                 unfold mayA
                 simp only [Bool.and_eq_true, decide_eq_true_eq, inB_iff]
                 exact ⟨⟨⟨⟨⟨by omega, by omega⟩, by omega⟩, HSF.out.1⟩, HSF.out.2⟩, List.all_eq_true.2 h5⟩)
                go_wp2_with fail
                refine bodyPost_ret (results_tmp rfl _ _ _) rfl ?_
                exact ⟨by rw [← HRr.out, HM.out]; rfl, KE.out⟩
def ownNI (X : List Int) : MkP := fun x lo hi W => W.ownsRow lo 3 1 x X.length (X.map (Value.int .i64)) ∧ ∀ g, x.ownBlock = some g → g < hi
theorem ownNI_mono {X : List Int} : MonoP (ownNI X) := fun _ _ _ _ _ _ d h => ⟨own_below h.1 d, h.2⟩
theorem ownNI_of {X : List Int} {B : Nat} {W : World} {x v : Value} (e : x = v) (h : W.ownsRow B 3 1 v X.length (X.map (Value.int .i64))) : ownNI X x B W.heap.size W := by
 subst e
 exact ⟨h, fun g hg => (h.lt g hg).2⟩
structure OwnO (B : Nat) (w : World) (v1 v2 v3 : Value) (S F : List Int) (E : List EdT) : Prop where
 s : w.ownsRow B 3 1 v1 S.length (S.map (Value.int .i64))
 f : w.ownsRow B 3 1 v2 F.length (F.map (Value.int .i64))
 e : w.ownsRow B 61 3 v3 E.length (E.flatMap encE)
 ne : ∀ g, v1.ownBlock = some g → v2.ownBlock ≠ some g
theorem ownO_of {B l1 l2 l3 h1 h2 : Nat} {w : World} {v1 v2 v3 : Value} {S F : List Int} {E : List EdT} (s : w.ownsRow l1 3 1 v1 S.length (S.map (Value.int .i64))) (f : w.ownsRow l2 3 1 v2 F.length (F.map (Value.int .i64))) (e : w.ownsRow l3 61 3 v3 E.length (E.flatMap encE)) (g1 : ∀ g, v1.ownBlock = some g → g < h1) (g2 : ∀ g, v2.ownBlock = some g → g < h2) (hB1 : B ≤ l1) (hB2 : B ≤ l2) (hB3 : B ≤ l3) (ap : h1 ≤ l2 ∨ h2 ≤ l1) : OwnO B w v1 v2 v3 S F E :=
 ⟨owns_down s hB1, owns_down f hB2, owns_down e hB3, fun g hg hh => by
  have a1 := s.lt g hg
  have a2 := f.lt g hh
  have b1 := g1 g hg
  have b2 := g2 g hh
  omega⟩
theorem OwnO.on {B : Nat} {w w' : World} {v1 v2 v3 : Value} {S F : List Int} {E : List EdT} (h : OwnO B w v1 v2 v3 S F E) (d : Below w.heap.size w w') : OwnO B w' v1 v2 v3 S F E := ⟨own_below h.s d, own_below h.f d, own_below h.e d, h.ne⟩
theorem OwnO.down {B C : Nat} {w : World} {v1 v2 v3 : Value} {S F : List Int} {E : List EdT} (h : OwnO C w v1 v2 v3 S F E) (hB : B ≤ C) : OwnO B w v1 v2 v3 S F E := ⟨owns_down h.s hB, owns_down h.f hB, owns_down h.e hB, h.ne⟩
theorem OwnO.keep {B p : Nat} {w w' : World} {v1 v2 v3 : Value} {S F : List Int} {E : List EdT} {cs : Array Value} (h : OwnO B w v1 v2 v3 S F E) (z : w.heap[p]? = some (.cells cs 25 (0, 0))) (o : Only w w' (fun k => k = p)) : OwnO B w' v1 v2 v3 S F E := ⟨own_keep h.s z (by decide) o, own_keep h.f z (by decide) o, own_keep h.e z (by decide) o, h.ne⟩
theorem OwnO.rd {B : Nat} {w : World} {b1 b2 b3 : Option Addr} {k1 k2 k3 : Nat} {S F : List Int} {E : List EdT} (h : OwnO B w (.slice b1 S.length k1) (.slice b2 F.length k2) (.slice b3 E.length k3) S F E) : RdA w b1 b2 b3 S F E := ⟨own_rdN h.s, own_rdN h.f, own_rdE h.e⟩
def movE (L : List EdT) (b : Int) : List EdT := L.map fun e => (e.1 + b, e.2.1, e.2.2 + b)
theorem movE_len (L : List EdT) (b : Int) : (movE L b).length = L.length := by simp [movE]
theorem movE_snoc (L : List EdT) (b : Int) (i : Nat) (h : i < L.length) : movE (L.take (i + 1)) b = movE (L.take i) b ++ [(L[i].1 + b, L[i].2.1, L[i].2.2 + b)] := by
 unfold movE
 rw [List.take_succ_eq_append_getElem h, List.map_append]
 rfl
structure MvA (w W : World) (p : Nat) (n m : Int) (v1 v2 v3 : Value) (S F : List Int) (E : List EdT) : Prop where
 bx : W.heap[p]? = some (.cells #[.int .i64 n, .int .i64 m, v1, v2, v3] 25 (0, 0))
 ge : w.heap.size ≤ p
 ow : OwnO w.heap.size W v1 v2 v3 S F E
 be : Below w.heap.size w W
theorem mvA_of {w W : World} {p : Nat} {n m : Int} {v1 v2 : Value} {S F : List Int} (z : W.heap[p]? = some (.cells #[.int .i64 0, .int .i64 0, .slice none 0 0, .slice none 0 0, .slice none 0 0] 25 (0, 0))) (d : Below w.heap.size w W) (hp : w.heap.size ≤ p) (o : OwnO w.heap.size W v1 v2 (.slice none 0 0) S F []) :
 MvA w (((((W.setCell ⟨p, 0, none⟩ (.int .i64 n)).setCell ⟨p, 1, none⟩ (.int .i64 m)).setCell ⟨p, 2, none⟩ v1).setCell ⟨p, 3, none⟩ v2).setCell ⟨p, 4, none⟩ (.slice none 0 0)) p n m v1 v2 (.slice none 0 0) S F [] := by
 have o5 := only5 W p (.int .i64 n) (.int .i64 m) v1 v2 (.slice none 0 0)
 exact ⟨set5 W p _ _ _ _ _ (.int .i64 n) (.int .i64 m) v1 v2 (.slice none 0 0) 25 z, hp, o.keep z o5, d.trans (o5.toBelow d.size (fun k hk => by rw [hk]; exact hp))⟩
theorem mvA_next {w wr w5 : World} {p : Nat} {n m : Int} {v1 v2 v3 v5 : Value} {S F : List Int} {X Y : List EdT} {cs1 cs2 : Array Value} (h : MvA w wr p n m v1 v2 v3 S F X) (o : w5.ownsRow w.heap.size 61 3 v5 Y.length (Y.flatMap encE)) (oo : Only ((wr.alloc (.cells cs1 61)).alloc (.cells cs2 61)) w5 (fun k => v3.ownBlock = some k)) :
 w5.heap[p]? = some (.cells #[.int .i64 n, .int .i64 m, v1, v2, v3] 25 (0, 0)) ∧ MvA w (w5.setCell ⟨p, 4, none⟩ v5) p n m v1 v2 v5 S F Y := by
 have d1 : Below wr.heap.size wr ((wr.alloc (.cells cs1 61)).alloc (.cells cs2 61)) := ((Below.refl _ _).alloc (Nat.le_refl _) _).alloc (by simp) _
 have s2 := own_below h.ow.s d1
 have f2 := own_below h.ow.f d1
 have e2 := own_below h.ow.e d1
 have b2 := blk_on h.bx d1
 have b5 := (oo.block p (Array.getElem?_eq_some_iff.1 b2).1 (fun hk => row_tag e2 b2 (by decide) hk)).trans b2
 have s5 := row_only s2 oo (fun k hk hk2 => rows_differ e2 s2 (by decide) hk2 hk)
 have f5 := row_only f2 oo (fun k hk hk2 => rows_differ e2 f2 (by decide) hk2 hk)
 have o2 := only_set w5 p 4 v5
 have dd := h.be.trans (d1.mono h.be.size)
 have d5 := dd.trans (oo.toBelow dd.size (fun k hk => (e2.lt k hk).1))
 exact ⟨b5, heap_setCell_same _ _ 4 _ 25 _ b5, h.ge, ⟨own_keep s5 b5 (by decide) o2, own_keep f5 b5 (by decide) o2, own_keep o b5 (by decide) o2, h.ow.ne⟩, d5.trans (o2.toBelow d5.size (fun k hk => by rw [hk]; exact h.ge))⟩
theorem moved_any (w : World) (N n1 n2 n3 : Nat) (m b : Int) (a1 a2 a3 : Option Addr) (c1 c2 c3 : Nat) (St Fi : List Int) (Ed : List EdT) (e1 : St.length = n1) (e2 : Fi.length = n2) (e3 : Ed.length = n3) (hA : Hid (RdA w a1 a2 a3 St Fi Ed)) (h1 : n1 ≤ 2000000) (h2 : n2 ≤ 2000000) (h3 : n3 ≤ 2000000) (hN : N ≤ 4096) (hb : 0 ≤ b ∧ b ≤ 4096) (hS : Hid (∀ x ∈ St, 0 ≤ x ∧ x ≤ 4096)) (hF : Hid (∀ x ∈ Fi, 0 ≤ x ∧ x ≤ 4096)) (hE : Hid (∀ e ∈ Ed, (0 ≤ e.1 ∧ e.1 ≤ 4096) ∧ 0 ≤ e.2.2 ∧ e.2.2 ≤ 4096)) :
 Calls Tryz.prog 50 #[.agg #[.int .i64 (N : Int), .int .i64 m, .slice a1 n1 c1, .slice a2 n2 c2, .slice a3 n3 c3], .int .i64 b] w fun e w' => ∃ b1 k1 b2 k2 b3 k3, e = .returned (.agg #[.int .i64 ((N : Int) + b), .int .i64 m, .slice b1 n1 k1, .slice b2 n2 k2, .slice b3 n3 k3]) ∧ Hid (OwnO w.heap.size w' (.slice b1 n1 k1) (.slice b2 n2 k2) (.slice b3 n3 k3) (movN St b) (movN Fi b) (movE Ed b) ∧ Below w.heap.size w w') := by
 obtain ⟨W0, hW0⟩ : ∃ W0, (w.alloc (.cells #[.int .i64 (N : Int), .int .i64 m, .slice a1 n1 c1, .slice a2 n2 c2, .slice a3 n3 c3] 25)).alloc (.cells #[.int .i64 0, .int .i64 0, .slice none 0 0, .slice none 0 0, .slice none 0 0] 25) = W0 := ⟨_, rfl⟩
 have HD := hide (box2 w #[.int .i64 (N : Int), .int .i64 m, .slice a1 n1 c1, .slice a2 n2 c2, .slice a3 n3 c3] #[.int .i64 0, .int .i64 0, .slice none 0 0, .slice none 0 0, .slice none 0 0] 25)
 rw [hW0] at HD
 have SK : Hid (∀ W, Below W0.heap.size W0 W → W.cell? ⟨w.heap.size, 0, none⟩ = some (.int .i64 (N : Int)) ∧ W.cell? ⟨w.heap.size, 1, none⟩ = some (.int .i64 m) ∧ W.cell? ⟨w.heap.size, 2, none⟩ = some (.slice a1 n1 c1) ∧ W.cell? ⟨w.heap.size, 3, none⟩ = some (.slice a2 n2 c2) ∧ W.cell? ⟨w.heap.size, 4, none⟩ = some (.slice a3 n3 c3)) := hide (fun W d => by
  have e := blk_on HD.out.2.1 d
  exact ⟨cell_of e rfl, cell_of e rfl, cell_of e rfl, cell_of e rfl, cell_of e rfl⟩)
 have T1 : Hid (∀ W, Below W0.heap.size W0 W → Calls Tryz.prog 84 #[.slice a1 n1 c1, .int .i64 b] W fun e w' => ∃ g, e = .returned (.slice (some ⟨g, 0, none⟩) n1 n1) ∧ Hid (w'.ownsRow W.heap.size 3 1 (.slice (some ⟨g, 0, none⟩) n1 n1) n1 ((movN St b).map (Value.int .i64)) ∧ Below W.heap.size W w')) := hide (fun W d => movedS_any W a1 n1 c1 St b e1 (hide (hA.out.s.on (HD.out.1.trans (d.mono HD.out.1.size)))) (by omega) (by omega) (hide (fun x hx => by have := hS.out x hx; omega)))
 have T2 : Hid (∀ W, Below W0.heap.size W0 W → Calls Tryz.prog 84 #[.slice a2 n2 c2, .int .i64 b] W fun e w' => ∃ g, e = .returned (.slice (some ⟨g, 0, none⟩) n2 n2) ∧ Hid (w'.ownsRow W.heap.size 3 1 (.slice (some ⟨g, 0, none⟩) n2 n2) n2 ((movN Fi b).map (Value.int .i64)) ∧ Below W.heap.size W w')) := hide (fun W d => movedS_any W a2 n2 c2 Fi b e2 (hide (hA.out.f.on (HD.out.1.trans (d.mono HD.out.1.size)))) (by omega) (by omega) (hide (fun x hx => by have := hF.out x hx; omega)))
 have HL := hide (And.intro e1 (And.intro e2 e3))
 have ew : IntKind.i64.wrap ((N : Int) + b) = (N : Int) + b := by rw [IntKind.wrap_i64]; omega
 clear e1 e2 e3
 go_enter Tryz.func50, Tryz.ntmps50
 go_upto_region 1 with fail
 go_cut [5] from 5 to 22 (fun v5 W => ∃ p5 b1 k1 b2 k2, v5 = .pointer (some ⟨p5, 0, none⟩) ∧ Hid (MvA W0 W p5 ((N : Int) + b) m (.slice b1 n1 k1) (.slice b2 n2 k2) (.slice none 0 0) (movN St b) (movN Fi b) []))
 case first =>
  have hmo : MonIL 0 [vI 0 (.pointer (some ⟨w.heap.size, 0, none⟩)), vI 1 (.int .i64 (N : Int)), vI 2 (.int .i64 b), vI 3 (.int .i64 ((N : Int) + b)), vI 4 (.pointer (some ⟨w.heap.size, 1, none⟩)), vI 5 (.int .i64 m), vI 6 (.pointer (some ⟨w.heap.size, 2, none⟩)), vI 7 (.slice a1 n1 c1), vI 8 (.int .i64 b), pI 9 (ownNI (movN St b)), vI 10 (.pointer (some ⟨w.heap.size, 3, none⟩)), vI 11 (.slice a2 n2 c2), vI 12 (.int .i64 b), pI 13 (ownNI (movN Fi b)), ⟨[9, 13], [], fun y _ _ _ => y 14 = .agg #[.int .i64 ((N : Int) + b), .int .i64 m, y 9, y 13, .slice none 0 0]⟩, pI 15 (boxP)] := ⟨vI_mono _ _, vI_mono _ _, vI_mono _ _, vI_mono _ _, vI_mono _ _, vI_mono _ _, vI_mono _ _, vI_mono _ _, vI_mono _ _, pI_mono ownNI_mono, vI_mono _ _, vI_mono _ _, vI_mono _ _, pI_mono ownNI_mono, (fun _ _ _ _ _ _ _ _ hy h => by dsimp only at hy h ⊢; rw [hy 14 (Or.inl rfl), hy 9 (Or.inr (by simp)), hy 13 (Or.inr (by simp))]; exact h), pI_mono boxP_mono, trivial⟩
  refine wp_region_sl _ (by kernel_rfl) (by kernel_rfl) (by kernel_rfl) (by kernel_rfl) hmo ⟨?o0, ?o1, ?o2, ?o3, ?o4, ?o5, ?o6, ?o7, ?o8, ?o9, ?o10, ?o11, ?o12, ?o13, ?o14, ?o15, trivial⟩ ?fin
  case o0 =>
   intro At yy W hy hb d hd K hK
   obtain ⟨s2, s2'⟩ := zsb (hb 2 rfl : _ = .pointer (some ⟨w.heap.size, 0, none⟩))
   clear hd hy hb
   go_simp
   exact zkq hK hmo d (if_pos rfl)
  case o1 =>
   intro At yy W hy hb d hd K hK
   obtain ⟨s8, s8'⟩ := zsg 0 8 .data hy hd rfl
   clear hd hy hb
   obtain ⟨y0, y1, y2, y3, y4⟩ := SK.out W d
   go_simp
   exact zkq hK hmo d (if_pos rfl)
  case o2 =>
   intro At yy W hy hb d hd K hK
   obtain ⟨s1, s1'⟩ := zsb (hb 1 rfl : _ = .int .i64 b)
   clear hd hy hb
   go_simp
   exact zkq hK hmo d (if_pos rfl)
  case o3 =>
   intro At yy W hy hb d hd K hK
   obtain ⟨s9, s9'⟩ := zsg 1 9 .data hy hd rfl
   obtain ⟨s10, s10'⟩ := zsg 2 10 .data hy hd rfl
   clear hd hy hb
   go_simp
   exact zkq hK hmo d (if_pos rfl)
  case o4 =>
   intro At yy W hy hb d hd K hK
   obtain ⟨s2, s2'⟩ := zsb (hb 2 rfl : _ = .pointer (some ⟨w.heap.size, 0, none⟩))
   clear hd hy hb
   go_simp
   exact zkq hK hmo d (if_pos rfl)
  case o5 =>
   intro At yy W hy hb d hd K hK
   obtain ⟨s12, s12'⟩ := zsg 4 12 .data hy hd rfl
   clear hd hy hb
   obtain ⟨y0, y1, y2, y3, y4⟩ := SK.out W d
   go_simp
   exact zkq hK hmo d (if_pos rfl)
  case o6 =>
   intro At yy W hy hb d hd K hK
   obtain ⟨s2, s2'⟩ := zsb (hb 2 rfl : _ = .pointer (some ⟨w.heap.size, 0, none⟩))
   clear hd hy hb
   go_simp
   exact zkq hK hmo d (if_pos rfl)
  case o7 =>
   intro At yy W hy hb d hd K hK
   obtain ⟨s14, s14'⟩ := zsg 6 14 .data hy hd rfl
   clear hd hy hb
   obtain ⟨y0, y1, y2, y3, y4⟩ := SK.out W d
   go_simp
   exact zkq hK hmo d (if_pos rfl)
  case o8 =>
   intro At yy W hy hb d hd K hK
   obtain ⟨s1, s1'⟩ := zsb (hb 1 rfl : _ = .int .i64 b)
   clear hd hy hb
   go_simp
   exact zkq hK hmo d (if_pos rfl)
  case o9 =>
   intro At yy W hy hb d hd K hK
   obtain ⟨s15, s15'⟩ := zsg 7 15 .data hy hd rfl
   obtain ⟨s16, s16'⟩ := zsg 8 16 .data hy hd rfl
   clear hd hy hb
   go_simp
   go_wp2_with (go_at_call 84; refine (T1.out _ d).mono ?_; rintro e wa ⟨g, rfl, hR⟩)
   exact hK.out _ wa (stp_of hmo d hR.out.2) (ownNI_of (if_pos rfl) (by rw [movN_len, HL.out.1]; exact hR.out.1))
  case o10 =>
   intro At yy W hy hb d hd K hK
   obtain ⟨s2, s2'⟩ := zsb (hb 2 rfl : _ = .pointer (some ⟨w.heap.size, 0, none⟩))
   clear hd hy hb
   go_simp
   exact zkq hK hmo d (if_pos rfl)
  case o11 =>
   intro At yy W hy hb d hd K hK
   obtain ⟨s18, s18'⟩ := zsg 10 18 .data hy hd rfl
   clear hd hy hb
   obtain ⟨y0, y1, y2, y3, y4⟩ := SK.out W d
   go_simp
   exact zkq hK hmo d (if_pos rfl)
  case o12 =>
   intro At yy W hy hb d hd K hK
   obtain ⟨s1, s1'⟩ := zsb (hb 1 rfl : _ = .int .i64 b)
   clear hd hy hb
   go_simp
   exact zkq hK hmo d (if_pos rfl)
  case o13 =>
   intro At yy W hy hb d hd K hK
   obtain ⟨s19, s19'⟩ := zsg 11 19 .data hy hd rfl
   obtain ⟨s20, s20'⟩ := zsg 12 20 .data hy hd rfl
   clear hd hy hb
   go_simp
   go_wp2_with (go_at_call 84; refine (T2.out _ d).mono ?_; rintro e wa ⟨g, rfl, hR⟩)
   exact hK.out _ wa (stp_of hmo d hR.out.2) (ownNI_of (if_pos rfl) (by rw [movN_len, HL.out.2.1]; exact hR.out.1))
  case o14 =>
   intro At yy W hy hb d hd K hK
   have f9 := hd ⟨9, .data⟩ (by simp) rfl rfl
   have f13 := hd ⟨13, .data⟩ (by simp) rfl rfl
   obtain ⟨_, _, _, _, o9, _⟩ := f9
   obtain ⟨_, _, _, _, o13, _⟩ := f13
   obtain ⟨b1, k1, e9⟩ := own_slice o9
   obtain ⟨b2, k2, e13⟩ := own_slice o13
   obtain ⟨s11, s11'⟩ := zsg 3 11 .data hy hd rfl
   obtain ⟨s13, s13'⟩ := zsg 5 13 .data hy hd rfl
   obtain ⟨s17, s17'⟩ := zsb ((hy 9 _ 17 rfl rfl).trans e9)
   obtain ⟨s21, s21'⟩ := zsb ((hy 13 _ 21 rfl rfl).trans e13)
   clear hd hy hb
   go_simp
   exact zkq hK hmo d (by show updV yy 14 _ 14 = .agg #[.int .i64 ((N : Int) + b), .int .i64 m, updV yy 14 _ 9, updV yy 14 _ 13, .slice none 0 0]; simp [updV, e9, e13])
  case o15 =>
   intro At yy W hy hb d hd K hK
   clear hd hy hb
   go_simp
   exact hK.out _ _ (stp_of hmo d ((Below.refl _ _).alloc (Nat.le_refl _) _)) ⟨if_pos rfl, by simp, World.alloc_heap_new _ _⟩
  case fin =>
   intro yy lo hi W hM
   show wpList _ _ _ [_] _ _
   have e0 := hM.v 0 (by simp) rfl rfl rfl
   have e1 := hM.v 1 (by simp) rfl rfl rfl
   have e2 := hM.v 2 (by simp) rfl rfl rfl
   have e3 := hM.v 3 (by simp) rfl rfl rfl
   have e4 := hM.v 4 (by simp) rfl rfl rfl
   have e5 := hM.v 5 (by simp) rfl rfl rfl
   have e6 := hM.v 6 (by simp) rfl rfl rfl
   have e7 := hM.v 7 (by simp) rfl rfl rfl
   have e8 := hM.v 8 (by simp) rfl rfl rfl
   have e10 := hM.v 10 (by simp) rfl rfl rfl
   have e11 := hM.v 11 (by simp) rfl rfl rfl
   have e12 := hM.v 12 (by simp) rfl rfl rfl
   have e14 : yy 14 = .agg #[.int .i64 ((N : Int) + b), .int .i64 m, yy 9, yy 13, .slice none 0 0] := hM.fact 14 (by simp) rfl (notR_all 14 rfl)
   obtain ⟨o9, l9⟩ := hM.fact 9 (by simp) rfl (notR_all 9 rfl)
   obtain ⟨o13, l13⟩ := hM.fact 13 (by simp) rfl (notR_all 13 rfl)
   obtain ⟨e15, l15, z15⟩ := hM.fact 15 (by simp) rfl (notR_all 15 rfl)
   have t9 := hM.at' 9 (by simp) rfl
   have t13 := hM.at' 13 (by simp) rfl
   have t15 := hM.at' 15 (by simp) rfl
   have ap := hM.apart 9 13 (by simp) (by simp) rfl rfl (by decide)
   have dd := hM.d
   have HOO : OwnO W0.heap.size W (yy 9) (yy 13) (.slice none 0 0) (movN St b) (movN Fi b) [] := ownO_of o9 o13 (World.ownsRow_nil W W0.heap.size _ _) l9 l13 (by omega) (by omega) (by omega) ap
   obtain ⟨b1, k1, e9⟩ := own_slice o9
   obtain ⟨b2, k2, e13⟩ := own_slice o13
   rw [e9, e13] at HOO e14
   rw [movN_len, HL.out.1] at e9
   rw [movN_len, HL.out.2.1] at e13
   rw [movN_len, movN_len, HL.out.1, HL.out.2.1] at HOO e14
   generalize lo 15 = p5 at e15 z15 t15 l15
   obtain ⟨o0', o1', o2', o3', o4'⟩ := zd5 z15 rfl rfl rfl rfl rfl
   have g0 : W.frozen? ⟨p5, 0, none⟩ = false := fz_of z15
   have g1 : W.frozen? ⟨p5, 1, none⟩ = false := fz_of z15
   have g2 : W.frozen? ⟨p5, 2, none⟩ = false := fz_of z15
   have g3 : W.frozen? ⟨p5, 3, none⟩ = false := fz_of z15
   have g4 : W.frozen? ⟨p5, 4, none⟩ = false := fz_of z15
   have HF := hide (mvA_of (n := (N : Int) + b) (m := m) z15 dd t15.1 HOO)
   simp only [fills, Act.put, List.take, List.length, List.setIfInBounds_toArray, List.set_cons_zero, List.set_cons_succ, e0, e1, e2, e3, e4, e5, e6, e7, e8, e10, e11, e12, e9, e13, e14, e15]
   clear hM hmo e0 e1 e2 e3 e4 e5 e6 e7 e8 e10 e11 e12 e9 e13 e14 e15 o9 o13 l9 l13 l15 z15 t9 t13 t15 ap dd HOO
   go_wp2_with fail
   go_meet
   exact ⟨p5, b1, k1, b2, k2, rfl, HF⟩
 case rest =>
  obtain ⟨p5, b1, k1, b2, k2, rfl, HA⟩ := hcut
  rename World => wx
  clear T1 T2
  have y4 := (SK.out wx HA.out.be).2.2.2.2
  go_wp2_with fail
  clear y4
  go_loopw [26] (fun iv wr => ∃ i : Nat, i ≤ n3 ∧ iv = .int .i64 (i : Int) ∧ ∃ b3 k3, Hid (MvA W0 wr p5 ((N : Int) + b) m (.slice b1 n1 k1) (.slice b2 n2 k2) (.slice b3 i k3) (movN St b) (movN Fi b) (movE (Ed.take i) b))) (fun iv _ => n3 - (intOf iv).toNat)
  case atStart => exact ⟨0, Nat.zero_le _, rfl, none, 0, HA⟩
  case round =>
   obtain ⟨i, hi, rfl, b3, k3, HY⟩ := hrel
   clear HA
   by_cases hil : i < n3
   · have i0 : (0 : Int) ≤ (i : Int) := by omega
     have i1 : (i : Int) < (n3 : Int) := by omega
     have hjl : i < Ed.length := by have := HL.out.2.2; omega
     obtain ⟨ge, o, ea, q1, q2, q3⟩ := (hA.out.e.on (HD.out.1.trans (HY.out.be.mono HD.out.1.size))) i hjl
     subst ea
     have HT := hide (movE_snoc Ed b i hjl)
     have hx := hE.out _ (List.getElem_mem hjl)
     generalize Ed[i] = x at q1 q2 q3 HT hx
     obtain ⟨x1, x2, x3⟩ := x
     simp only at q1 q2 q3 hx
     have HT2 : Hid (movE (Ed.take (i + 1)) b = movE (Ed.take i) b ++ [(x1 + b, x2, x3 + b)]) := HT
     have HTl : Hid ((movE (Ed.take i) b).length = i) := hide (by rw [movE_len, List.length_take]; omega)
     clear HT
     have r1 : IntKind.i64.wrap (x1 + b) = x1 + b := by rw [IntKind.wrap_i64]; omega
     have r3 : IntKind.i64.wrap (x3 + b) = x3 + b := by rw [IntKind.wrap_i64]; omega
     have HS0 := hide HY.out.be.size
     obtain ⟨W1, hW1⟩ : ∃ W1, wr.alloc (.cells #[.int .i64 x1, .int .i64 x2, .int .i64 x3] 61) = W1 := ⟨_, rfl⟩
     have HW : Hid (W1.heap[wr.heap.size]? = some (.cells #[.int .i64 x1, .int .i64 x2, .int .i64 x3] 61 (0, 0)) ∧ Below wr.heap.size wr W1 ∧ W1.heap.size = wr.heap.size + 1 ∧ wr.alloc (.cells #[.int .i64 x1, .int .i64 x2, .int .i64 x3] 61) = W1) := hide (by rw [← hW1]; exact ⟨World.alloc_heap_new _ _, (Below.refl _ _).alloc (Nat.le_refl _) _, by simp, rfl⟩)
     obtain ⟨z0, z1, z2⟩ := zd3 HW.out.1 rfl rfl rfl
     have z4 : W1.cell? ⟨p5, 4, none⟩ = some (.slice b3 i k3) := cell_of (blk_on HY.out.bx HW.out.2.1) rfl
     have HX := hide (own_below HY.out.ow.e HW.out.2.1)
     go_wp2_with (at_builtin; refine wpList_appG rfl _ _ rfl W0.heap.size (.slice b3 i k3) (movE (Ed.take i) b) rfl (own_below HX.out ((Below.refl _ _).alloc (Nat.le_refl _) _)) W1.heap.size (x1 + b, x2, x3 + b) rfl (World.alloc_heap_new _ _) (by have := HTl.out; omega) (by have := HS0.out; have := HW.out.2.2.1; rw [World.size_alloc]; omega) ?_; intro v5 w5 HO5 HG5; obtain ⟨z5, d5, e5⟩ := own_slice HO5.out; have E5 : v5 = .slice z5 (i + 1) d5 := (by rw [e5, List.length_append, HTl.out]; rfl); clear e5; subst E5; have HQ := hide (mvA_next (cs1 := #[.int .i64 x1, .int .i64 x2, .int .i64 x3]) HY.out HO5.out (by rw [HW.out.2.2.2]; exact HG5.out)); have c5 : w5.cell? ⟨p5, 4, none⟩ = some (.slice b3 i k3) := cell_of HQ.out.1 rfl; have f5 : w5.frozen? ⟨p5, 4, none⟩ = false := fz_of HQ.out.1)
     refine ⟨⟨i + 1, by omega, by go_num, z5, d5, hide (by rw [HT2.out]; exact HQ.out.2)⟩, by simp [intOf]; omega⟩
   · obtain rfl : n3 = i := by omega
     have i1 : ¬ (n3 : Int) < (n3 : Int) := by omega
     have HZ : Hid (MvA W0 wr p5 ((N : Int) + b) m (.slice b1 n1 k1) (.slice b2 n2 k2) (.slice b3 n3 k3) (movN St b) (movN Fi b) (movE Ed b)) := hide (by
      have q := HY.out
      rw [List.take_of_length_le (by have := HL.out.2.2; omega)] at q
      exact q)
     clear HY
     have F3 := blk_on HD.out.2.2.1 HZ.out.be
     have F4 := HZ.out.bx
     obtain ⟨o0, o1, o2, o3, o4⟩ := zd5 F3 rfl rfl rfl rfl rfl
     have f0 : wr.frozen? ⟨w.heap.size + 1, 0, none⟩ = false := fz_of F3
     have f1 : wr.frozen? ⟨w.heap.size + 1, 1, none⟩ = false := fz_of F3
     have f2 : wr.frozen? ⟨w.heap.size + 1, 2, none⟩ = false := fz_of F3
     have f3 : wr.frozen? ⟨w.heap.size + 1, 3, none⟩ = false := fz_of F3
     have f4 : wr.frozen? ⟨w.heap.size + 1, 4, none⟩ = false := fz_of F3
     obtain ⟨v0, v1, v2, v3, v4⟩ := zd5 F4 rfl rfl rfl rfl rfl
     have O6 := hide (And.intro (set5 wr (w.heap.size + 1) _ _ _ _ _ (.int .i64 ((N : Int) + b)) (.int .i64 m) (.slice b1 n1 k1) (.slice b2 n2 k2) (.slice b3 n3 k3) 25 F3) (only5 wr (w.heap.size + 1) (.int .i64 ((N : Int) + b)) (.int .i64 m) (.slice b1 n1 k1) (.slice b2 n2 k2) (.slice b3 n3 k3)))
     have HO2 := hide (HZ.out.ow.keep F3 O6.out.2)
     clear F3 F4
     go_wp2_with fail
     refine bodyPost_ret (results_cell_row (p := 4) (ty := 25) rfl _ _ (w.heap.size + 1) 25 _ (0, 0) _ rfl O6.out.1 Tryz.underlying25 rfl (by kernel_rfl)) rfl ?_
     have s1 := HD.out.2.2.2
     have s2 := HZ.out.be.size
     exact ⟨b1, k1, b2, k2, b3, k3, rfl, hide ⟨HO2.out.down (by omega), (HD.out.1.trans (HZ.out.be.mono (by omega))).trans (O6.out.2.toBelow (by omega) (fun k hk => by omega))⟩⟩
end Go.Proofs.YtchoopnjckcohaaGreatDoor
