import Derived.Test.YtnfdifkcchciaaaDoorTs
import Derived.Test.YtnfdifkcchciaaaDoorLiv
namespace Go.Proofs.YtnfdifkcchciaaaDoor
open Go.RowKit Go.Maps

set_option maxRecDepth 100000 in
set_option maxHeartbeats 4000000 in
theorem tables_any (hap : Hid ApartSpec) (most other : Int) (aL : Option Addr) (cL : Nat) (L : List Opd) (w : World) (hT : Hid (BytesAt w ∧ 0 < w.heap.size)) (HR : Hid (ReadsO w aL L)) (HZ : Hid (∀ x ∈ L, x.s.size ≤ 1048576)) (hL : L.length ≤ 1048576) :
    Calls Tryd.prog 5 #[.int .i64 most, .int .i64 other, .slice aL L.length cL] w fun e w' => e = .returned (.bool true) ∧ Below w.heap.size w w' := by
  have S0 := hide (tt_start w most other)
  go_enter Tryd.func5, Tryd.ntmps5
  go_wp2
  go_loopw [21] (fun ii wr => ∃ (j : Nat) (p q : Sd), j ≤ 2 ∧ ii = .int .i64 j ∧ Hid (Tt1 w most other p q wr)) (fun i _ => 2 - (intOf i).toNat)
  case atStart => exact ⟨0, _, _, by omega, rfl, S0⟩
  case round =>
    obtain ⟨j, p, q, hj, rfl, S1⟩ := hrel
    clear S0
    have m0 := S1.out.2.2.c0
    have m1 := S1.out.2.2.c1
    have a0 := S1.out.1.a0
    have a1 := S1.out.1.a1
    have b0 := S1.out.1.b0
    have b1 := S1.out.1.b1
    have f0 : wr.frozen? ⟨w.heap.size, 0, none⟩ = false := S1.out.1.fa 0
    have f1 : wr.frozen? ⟨w.heap.size, 1, none⟩ = false := S1.out.1.fa 1
    have f2 : wr.frozen? ⟨w.heap.size + 1, 0, none⟩ = false := S1.out.1.fb 0
    have f3 : wr.frozen? ⟨w.heap.size + 1, 1, none⟩ = false := S1.out.1.fb 1
    obtain rfl | rfl | rfl : j = 0 ∨ j = 1 ∨ j = 2 := by omega
    · by_cases hm : most < 0
      · go_wp2_with fail
        refine (new_bad most _ hm).mono ?_
        rintro e w1 ⟨rfl, hw⟩
        obtain rfl := hw.symm
        clear hw
        go_wp2_with fail
        refine (rnew_bad most _ hm).mono ?_
        rintro e w1 ⟨rfl, hw⟩
        obtain rfl := hw.symm
        clear hw
        go_wp2
        have S2 := hide S1.out.bad0
        go_roundw
        case rel => exact ⟨1, Sd.none, q, by omega, by go_num, S2⟩
        case measure => simp [intOf]
      · go_wp2_with fail
        refine (new_ok most _ (by omega)).mono ?_
        rintro e w1 ⟨t, bm, rfl, T1, ht, hbm, d1⟩
        have S2 := hide (S1.out.below d1)
        have X1 := hide (And.intro T1 (And.intro ht (And.intro hbm d1)))
        have m0 := S2.out.2.2.c0
        clear T1 ht hbm d1
        go_wp2_with fail
        refine (rnew_ok most _ (by omega)).mono ?_
        rintro e w2 ⟨r, rfl, R1, hr, d2⟩
        have S3 := hide (S2.out.below d2)
        have S4 := hide (S1.out.new0 X1.out.1 X1.out.2.1 X1.out.2.2.1 X1.out.2.2.2 R1 hr d2)
        have f0 := S3.out.1.fa 0
        have f1 : w2.frozen? ⟨w.heap.size + 1, 0, none⟩ = false := S3.out.1.fb 0
        have a0 := S3.out.1.a0
        have b0 := S3.out.1.b0
        clear R1 hr d2 m0
        go_wp2
        go_roundw
        case rel => exact ⟨1, _, q, by omega, by go_num, S4⟩
        case measure => simp [intOf]
    · by_cases hm : other < 0
      · go_wp2_with fail
        refine (new_bad other _ hm).mono ?_
        rintro e w1 ⟨rfl, hw⟩
        obtain rfl := hw.symm
        clear hw
        go_wp2_with fail
        refine (rnew_bad other _ hm).mono ?_
        rintro e w1 ⟨rfl, hw⟩
        obtain rfl := hw.symm
        clear hw
        go_wp2
        have S2 := hide S1.out.bad1
        go_roundw
        case rel => exact ⟨2, p, Sd.none, by omega, by go_num, S2⟩
        case measure => simp [intOf]
      · go_wp2_with fail
        refine (new_ok other _ (by omega)).mono ?_
        rintro e w1 ⟨t, bm, rfl, T1, ht, hbm, d1⟩
        have S2 := hide (S1.out.below d1)
        have X1 := hide (And.intro T1 (And.intro ht (And.intro hbm d1)))
        have m0 := S2.out.2.2.c1
        clear T1 ht hbm d1
        go_wp2_with fail
        refine (rnew_ok other _ (by omega)).mono ?_
        rintro e w2 ⟨r, rfl, R1, hr, d2⟩
        have S3 := hide (S2.out.below d2)
        have S4 := hide (S1.out.new1 X1.out.1 X1.out.2.1 X1.out.2.2.1 X1.out.2.2.2 R1 hr d2)
        have f0 := S3.out.1.fa 1
        have f1 : w2.frozen? ⟨w.heap.size + 1, 1, none⟩ = false := S3.out.1.fb 1
        have a0 := S3.out.1.a1
        have b0 := S3.out.1.b1
        clear R1 hr d2 m0
        go_wp2
        go_roundw
        case rel => exact ⟨2, p, _, by omega, by go_num, S4⟩
        case measure => simp [intOf]
    · clear m0 m1 a0 a1 b0 b1 f0 f1 f2 f3
      have S2 := hide S1.out.st
      clear S1
      go_wp2
      go_loopw [57] (fun ii wr => ∃ (k : Nat) (p q : Sd), k ≤ L.length ∧ ii = .int .i64 k ∧ Hid (Tt w p q k wr)) (fun i _ => L.length - (intOf i).toNat)
      case atStart => exact ⟨0, p, q, Nat.zero_le _, rfl, S2⟩
      case round =>
        obtain ⟨k, p, q, hk, rfl, S1⟩ := hrel
        clear S2
        by_cases hlt : k < L.length
        · obtain ⟨g, o, rfl, q1⟩ := HR.out k hlt
          have hz := HZ.out _ (List.getElem_mem hlt)
          generalize hx : L[k] = x at q1 hz
          clear hx
          obtain ⟨kd, sec, s, n⟩ := x
          dsimp only at q1 hz
          have QB := hide (World.block_lt_of_cell? w _ q1.c0)
          have q2 := q1.below QB.out S1.out.2.D
          have c0 := q2.c0
          have c1 := q2.c1
          have c2 := q2.c2
          have c3 := q2.c3
          have Q0 := hide q1
          have HTr : Hid (BytesAt wr ∧ 0 < wr.heap.size) := hide ⟨hT.out.1.below S1.out.2.D hT.out.2, Nat.lt_of_lt_of_le hT.out.2 S1.out.2.D.size⟩
          have i0 : (0 : Int) ≤ (k : Int) := by omega
          have i2 : (k : Int) < (L.length : Int) := by omega
          clear q1 q2
          cases sec with
          | false =>
            have hll : p.l.length < 2097152 := by have := S1.out.2.lp; omega
            cases hon : p.on with
            | false =>
              have y0 := S1.out.1.b0
              rw [Sd.rp_off hon] at y0
              go_wp2
              have S2 := hide (Tt.mono S1.out (Nat.le_succ k))
              go_roundw
              case rel => exact ⟨k + 1, p, q, by omega, by go_num, S2⟩
              case measure => simp [intOf]; omega
            | true =>
              have x0 := S1.out.1.a0
              have y0 := S1.out.1.b0
              rw [Sd.tp_on hon] at x0
              rw [Sd.rp_on hon] at y0
              have HON := hide hon
              clear hon
              go_wp2_with fail
              go_region_held3 (fun W => W.cell? ⟨w.heap.size, 0, none⟩ = some (.pointer (some ⟨p.t, 0, none⟩)) ∧ W.cell? ⟨w.heap.size + 1, 0, none⟩ = some (.pointer (some ⟨p.r, 0, none⟩)) ∧ W.cell? ⟨g, o + k * 4, none⟩ = some (.int .i64 kd) ∧ W.cell? ⟨g, o + k * 4 + 1, none⟩ = some (.bool false) ∧ W.cell? ⟨g, o + k * 4 + 2, none⟩ = some (.string s) ∧ W.cell? ⟨g, o + k * 4 + 3, none⟩ = some (.int .i64 n)) (first | exact ⟨x2, y2, z2.c0, z2.c1, z2.c2, z2.c3⟩ | exact ⟨x0, y0, c0, c1, c2, c3⟩ | go_keep)
                (first
                  | (go_at_call 21; refine (told_any hap p.t p.bm p.r p.most p.v p.vr p.l kd s n false _ (hide ((S1.out.below (below_drew wr)).2.p1 HON.out)) (hide ⟨HTr.out.1.below (below_drew wr) HTr.out.2, HTr.out.2⟩) hll hz).mono ?_; rintro e w2 ⟨rfl, X⟩; obtain ⟨v2, vr2, l2, S2⟩ := Tt.told0 (S1.out.below (below_drew wr)) HON.out X; have x2 := S2.1.a0; rw [Sd.tp_on rfl] at x2; have y2 := S2.1.b0; rw [Sd.rp_on rfl] at y2; have z2 := Q0.out.below QB.out S2.2.D))
              have HS2 := hide S2
              have z0 := z2.c0
              clear S2 X z2 S1
              by_cases h5 : kd = 5
              · subst h5
                go_wp2_with fail
                refine (tclone p.t p.bm p.most v2 l2 _ (hide (HS2.out.2.p1 rfl).tb)).mono ?_
                rintro e w3 ⟨t3, v3, bm3, rfl, T3, N3, d3⟩
                have S3 := hide (HS2.out.below d3)
                have X3 := hide (And.intro T3 (And.intro N3 d3))
                have a3 := S3.out.1.a1
                have f3 : w3.frozen? ⟨w.heap.size, 1, none⟩ = false := S3.out.1.fa 1
                have y3 := (S3.out.1.setA1 (.pointer (some ⟨t3, 0, none⟩))).b0
                rw [Sd.rp_on rfl] at y3
                clear T3 N3 d3 x2 y2 z0
                go_wp2_with fail
                refine (rclone p.r p.most vr2 l2 _ (hide ((S3.out.2.setA 1 _).p1 rfl).rb)).mono ?_
                rintro e w4 ⟨r4, v4, rfl, R4, N4, d4⟩
                have X4 := hide ((S3.out.1.setA1 (.pointer (some ⟨t3, 0, none⟩))).below d4)
                have S5 := hide (HS2.out.clone0 X3.out.1 X3.out.2.1 X3.out.2.2 R4 N4 d4)
                have b4 := X4.out.b1
                have f4 : w4.frozen? ⟨w.heap.size + 1, 1, none⟩ = false := X4.out.fb 1
                have x5 := S5.out.1.a1
                rw [Sd.tp_on rfl] at x5
                clear R4 N4 d4 a3 f3 y3
                go_wp2
                refine ⟨?_, ?measure⟩
                repeat apply Exists.intro
                refine ⟨?rel, rfl⟩
                case rel => exact ⟨k + 1, _, _, by omega, by go_num, S5⟩
                case measure => simp [intOf]; omega
              · have h5' : (kd == 5) = false := by rw [beq_eq_false_iff_ne]; exact h5
                go_wp2
                refine ⟨?_, ?measure⟩
                repeat apply Exists.intro
                refine ⟨?rel, rfl⟩
                case rel => exact ⟨k + 1, _, _, by omega, by go_num, HS2⟩
                case measure => simp [intOf]; omega
          | true =>
            have hll : q.l.length < 2097152 := by have := S1.out.2.lq; omega
            cases hon : q.on with
            | false =>
              have y0 := S1.out.1.b1
              rw [Sd.rp_off hon] at y0
              go_wp2
              have S2 := hide (Tt.mono S1.out (Nat.le_succ k))
              go_roundw
              case rel => exact ⟨k + 1, p, q, by omega, by go_num, S2⟩
              case measure => simp [intOf]; omega
            | true =>
              have x0 := S1.out.1.a1
              have y0 := S1.out.1.b1
              rw [Sd.tp_on hon] at x0
              rw [Sd.rp_on hon] at y0
              have HON := hide hon
              clear hon
              go_wp2_with fail
              go_region_held3 (fun W => W.cell? ⟨w.heap.size, 1, none⟩ = some (.pointer (some ⟨q.t, 0, none⟩)) ∧ W.cell? ⟨w.heap.size + 1, 1, none⟩ = some (.pointer (some ⟨q.r, 0, none⟩)) ∧ W.cell? ⟨g, o + k * 4, none⟩ = some (.int .i64 kd) ∧ W.cell? ⟨g, o + k * 4 + 1, none⟩ = some (.bool true) ∧ W.cell? ⟨g, o + k * 4 + 2, none⟩ = some (.string s) ∧ W.cell? ⟨g, o + k * 4 + 3, none⟩ = some (.int .i64 n)) (first | exact ⟨x2, y2, z2.c0, z2.c1, z2.c2, z2.c3⟩ | exact ⟨x0, y0, c0, c1, c2, c3⟩ | go_keep)
                (first
                  | (go_at_call 21; refine (told_any hap q.t q.bm q.r q.most q.v q.vr q.l kd s n true _ (hide ((S1.out.below (below_drew wr)).2.q1 HON.out)) (hide ⟨HTr.out.1.below (below_drew wr) HTr.out.2, HTr.out.2⟩) hll hz).mono ?_; rintro e w2 ⟨rfl, X⟩; obtain ⟨v2, vr2, l2, S2⟩ := Tt.told1 (S1.out.below (below_drew wr)) HON.out X; have x2 := S2.1.a1; rw [Sd.tp_on rfl] at x2; have y2 := S2.1.b1; rw [Sd.rp_on rfl] at y2; have z2 := Q0.out.below QB.out S2.2.D))
              have HS2 := hide S2
              have z0 := z2.c0
              clear S2 X z2 S1
              by_cases h5 : kd = 5
              · subst h5
                go_wp2_with fail
                refine (tclone q.t q.bm q.most v2 l2 _ (hide (HS2.out.2.q1 rfl).tb)).mono ?_
                rintro e w3 ⟨t3, v3, bm3, rfl, T3, N3, d3⟩
                have S3 := hide (HS2.out.below d3)
                have X3 := hide (And.intro T3 (And.intro N3 d3))
                have a3 := S3.out.1.a0
                have f3 : w3.frozen? ⟨w.heap.size, 0, none⟩ = false := S3.out.1.fa 0
                have y3 := (S3.out.1.setA0 (.pointer (some ⟨t3, 0, none⟩))).b1
                rw [Sd.rp_on rfl] at y3
                clear T3 N3 d3 x2 y2 z0
                go_wp2_with fail
                refine (rclone q.r q.most vr2 l2 _ (hide ((S3.out.2.setA 0 _).q1 rfl).rb)).mono ?_
                rintro e w4 ⟨r4, v4, rfl, R4, N4, d4⟩
                have X4 := hide ((S3.out.1.setA0 (.pointer (some ⟨t3, 0, none⟩))).below d4)
                have S5 := hide (HS2.out.clone1 X3.out.1 X3.out.2.1 X3.out.2.2 R4 N4 d4)
                have b4 := X4.out.b0
                have f4 : w4.frozen? ⟨w.heap.size + 1, 0, none⟩ = false := X4.out.fb 0
                have x5 := S5.out.1.a0
                rw [Sd.tp_on rfl] at x5
                clear R4 N4 d4 a3 f3 y3
                go_wp2
                refine ⟨?_, ?measure⟩
                repeat apply Exists.intro
                refine ⟨?rel, rfl⟩
                case rel => exact ⟨k + 1, _, _, by omega, by go_num, S5⟩
                case measure => simp [intOf]; omega
              · have h5' : (kd == 5) = false := by rw [beq_eq_false_iff_ne]; exact h5
                go_wp2
                refine ⟨?_, ?measure⟩
                repeat apply Exists.intro
                refine ⟨?rel, rfl⟩
                case rel => exact ⟨k + 1, _, _, by omega, by go_num, HS2⟩
                case measure => simp [intOf]; omega
        · have i2 : ¬ (k : Int) < (L.length : Int) := by omega
          go_wp2
          go_loopw [107] (fun ii wr => ∃ j : Nat, j ≤ 2 ∧ ii = .int .i64 j ∧ Hid (Tt w p q k wr)) (fun i _ => 2 - (intOf i).toNat)
          case atStart => exact ⟨0, by omega, rfl, S1⟩
          case round =>
            obtain ⟨j, hj, rfl, S2⟩ := hrel
            clear S1
            have S1 := S2
            clear S2
            obtain rfl | rfl | rfl : j = 0 ∨ j = 1 ∨ j = 2 := by omega
            · cases hon : p.on with
              | false =>
                have y0 := S1.out.1.b0
                rw [Sd.rp_off hon] at y0
                go_wp2_with fail
                refine wp_region_held_drew (S := fun W => W.cell? ⟨w.heap.size + 1, 0, none⟩ = some (.pointer none)) (by kernel_rfl) y0 (fun hHeld => ?_)
                refine wpAnyH_take (i := 0) (oi := { dst := some 110, op := Op.move (Operand.tmp 17), type := 3, pos := "law.go:312", after := #[], guard := none }) (v := ?vv0_0) rfl (by kernel_rfl) (by kernel_rfl) (by kernel_rfl) (fun _ _ _ h => h) (Or.inl ⟨by rfl, ?hy0_0⟩) hHeld ?rs0_0
                case hy0_0 => (intro w hSw; (try dsimp only at hSw); go_simp; try with_reducible rfl)
                simp only [Act.put, List.setIfInBounds_toArray, List.set_cons_zero, List.set_cons_succ]
                refine wpAnyH_take (i := 1) (oi := { dst := some 111, op := Op.indexAddr 49 (Operand.tmp 8) (Operand.tmp 110), type := 0, pos := "law.go:312", after := #[{ on := 0, ground := Ground.data }], guard := none }) (v := ?vv0_1) rfl (by kernel_rfl) (by kernel_rfl) (by kernel_rfl) (fun _ _ _ h => h) (Or.inl ⟨by rfl, ?hy0_1⟩) hHeld ?rs0_1
                case hy0_1 => (intro w hSw; (try dsimp only at hSw); go_simp; try with_reducible rfl)
                simp only [Act.put, List.setIfInBounds_toArray, List.set_cons_zero, List.set_cons_succ]
                refine wpAnyH_take (i := 2) (oi := { dst := some 112, op := Op.load 48 (Operand.tmp 111), type := 48, pos := "law.go:312", after := #[{ on := 1, ground := Ground.data }], guard := none }) (v := ?vv0_2) rfl (by kernel_rfl) (by kernel_rfl) (by kernel_rfl) (fun _ _ _ h => h) (Or.inl ⟨by rfl, ?hy0_2⟩) hHeld ?rs0_2
                case hy0_2 => (intro w hSw; (try dsimp only at hSw); go_simp; try with_reducible rfl)
                simp only [Act.put, List.setIfInBounds_toArray, List.set_cons_zero, List.set_cons_succ]
                refine wpAnyH_take (i := 3) (oi := { dst := some 113, op := Op.binOp BinOp.neq 48 (Operand.tmp 112) (Operand.const (Value.pointer none)) 48, type := 4, pos := "law.go:312", after := #[{ on := 2, ground := Ground.data }], guard := none }) (v := ?vv0_3) rfl (by kernel_rfl) (by kernel_rfl) (by kernel_rfl) (fun _ _ _ h => h) (Or.inl ⟨by rfl, ?hy0_3⟩) hHeld ?rs0_3
                case hy0_3 => (intro w hSw; (try dsimp only at hSw); go_simp; try with_reducible rfl)
                simp only [Act.put, List.setIfInBounds_toArray, List.set_cons_zero, List.set_cons_succ]
                refine wpAnyH_take (i := 4) (oi := { dst := some 114, op := Op.move (Operand.tmp 113), type := 4, pos := "law.go:312", after := #[{ on := 3, ground := Ground.data }], guard := none }) (v := ?vv0_4) rfl (by kernel_rfl) (by kernel_rfl) (by kernel_rfl) (fun _ _ _ h => h) (Or.inl ⟨by rfl, ?hy0_4⟩) hHeld ?rs0_4
                case hy0_4 => (intro w hSw; (try dsimp only at hSw); go_simp; try with_reducible rfl)
                simp only [Act.put, List.setIfInBounds_toArray, List.set_cons_zero, List.set_cons_succ]
                refine wpAnyH_take (i := 5) (oi := { dst := some 115, op := Op.move (Operand.tmp 17), type := 3, pos := "law.go:312", after := #[{ on := 4, ground := Ground.guard }], guard := some (4, true) }) (v := undef) rfl (by kernel_rfl) (by kernel_rfl) (by kernel_rfl) (fun _ _ _ h => h) (Or.inr ⟨by rfl, rfl⟩) hHeld ?_
                simp only [Act.put, List.setIfInBounds_toArray, List.set_cons_zero, List.set_cons_succ]
                refine wpAnyH_take (i := 6) (oi := { dst := some 116, op := Op.indexAddr 47 (Operand.tmp 7) (Operand.tmp 115), type := 0, pos := "law.go:312", after := #[{ on := 5, ground := Ground.data }, { on := 4, ground := Ground.guard }], guard := some (4, true) }) (v := undef) rfl (by kernel_rfl) (by kernel_rfl) (by kernel_rfl) (fun _ _ _ h => h) (Or.inr ⟨by rfl, rfl⟩) hHeld ?_
                simp only [Act.put, List.setIfInBounds_toArray, List.set_cons_zero, List.set_cons_succ]
                refine wpAnyH_take (i := 7) (oi := { dst := some 117, op := Op.load 23 (Operand.tmp 116), type := 23, pos := "law.go:312", after := #[{ on := 6, ground := Ground.data }, { on := 4, ground := Ground.guard }], guard := some (4, true) }) (v := undef) rfl (by kernel_rfl) (by kernel_rfl) (by kernel_rfl) (fun _ _ _ h => h) (Or.inr ⟨by rfl, rfl⟩) hHeld ?_
                simp only [Act.put, List.setIfInBounds_toArray, List.set_cons_zero, List.set_cons_succ]
                refine wpAnyH_take (i := 8) (oi := { dst := some 118, op := Op.move (Operand.tmp 17), type := 3, pos := "law.go:312", after := #[{ on := 4, ground := Ground.guard }], guard := some (4, true) }) (v := undef) rfl (by kernel_rfl) (by kernel_rfl) (by kernel_rfl) (fun _ _ _ h => h) (Or.inr ⟨by rfl, rfl⟩) hHeld ?_
                simp only [Act.put, List.setIfInBounds_toArray, List.set_cons_zero, List.set_cons_succ]
                refine wpAnyH_take (i := 9) (oi := { dst := some 119, op := Op.indexAddr 49 (Operand.tmp 8) (Operand.tmp 118), type := 0, pos := "law.go:312", after := #[{ on := 8, ground := Ground.data }, { on := 4, ground := Ground.guard }], guard := some (4, true) }) (v := undef) rfl (by kernel_rfl) (by kernel_rfl) (by kernel_rfl) (fun _ _ _ h => h) (Or.inr ⟨by rfl, rfl⟩) hHeld ?_
                simp only [Act.put, List.setIfInBounds_toArray, List.set_cons_zero, List.set_cons_succ]
                refine wpAnyH_take (i := 10) (oi := { dst := some 120, op := Op.load 48 (Operand.tmp 119), type := 48, pos := "law.go:312", after := #[{ on := 9, ground := Ground.data }, { on := 4, ground := Ground.guard }], guard := some (4, true) }) (v := undef) rfl (by kernel_rfl) (by kernel_rfl) (by kernel_rfl) (fun _ _ _ h => h) (Or.inr ⟨by rfl, rfl⟩) hHeld ?_
                simp only [Act.put, List.setIfInBounds_toArray, List.set_cons_zero, List.set_cons_succ]
                refine wpAnyH_take (i := 11) (oi := { dst := some 121, op := Op.nilCheck (Operand.tmp 120), type := 0, pos := "law.go:312", after := #[{ on := 10, ground := Ground.data }, { on := 4, ground := Ground.guard }], guard := some (4, true) }) (v := undef) rfl (by kernel_rfl) (by kernel_rfl) (by kernel_rfl) (fun _ _ _ h => h) (Or.inr ⟨by rfl, rfl⟩) hHeld ?_
                simp only [Act.put, List.setIfInBounds_toArray, List.set_cons_zero, List.set_cons_succ]
                refine wpAnyH_take (i := 12) (oi := { dst := some 122, op := Op.fieldAddr 60 (Operand.tmp 121) 1, type := 0, pos := "law.go:312", after := #[{ on := 11, ground := Ground.data }, { on := 4, ground := Ground.guard }], guard := some (4, true) }) (v := undef) rfl (by kernel_rfl) (by kernel_rfl) (by kernel_rfl) (fun _ _ _ h => h) (Or.inr ⟨by rfl, rfl⟩) hHeld ?_
                simp only [Act.put, List.setIfInBounds_toArray, List.set_cons_zero, List.set_cons_succ]
                refine wpAnyH_take (i := 13) (oi := { dst := some 123, op := Op.load 22 (Operand.tmp 122), type := 22, pos := "law.go:312", after := #[{ on := 12, ground := Ground.data }, { on := 4, ground := Ground.guard }], guard := some (4, true) }) (v := undef) rfl (by kernel_rfl) (by kernel_rfl) (by kernel_rfl) (fun _ _ _ h => h) (Or.inr ⟨by rfl, rfl⟩) hHeld ?_
                simp only [Act.put, List.setIfInBounds_toArray, List.set_cons_zero, List.set_cons_succ]
                refine wpAnyH_take (i := 14) (oi := { dst := some 124, op := Op.call { callee := Callee.value (Operand.func 24), args := #[Operand.tmp 117, Operand.tmp 123], argTypes := #[23, 22] }, type := 4, pos := "law.go:312", after := #[{ on := 7, ground := Ground.data }, { on := 13, ground := Ground.data }, { on := 4, ground := Ground.chain }, { on := 4, ground := Ground.guard }], guard := some (4, true) }) (v := undef) rfl (by kernel_rfl) (by kernel_rfl) (by kernel_rfl) (fun _ _ _ h => h) (Or.inr ⟨by rfl, rfl⟩) hHeld ?_
                simp only [Act.put, List.setIfInBounds_toArray, List.set_cons_zero, List.set_cons_succ]
                refine wpAnyH_take (i := 15) (oi := { dst := some 125, op := Op.unOp UnOp.not 4 (Operand.tmp 124), type := 4, pos := "law.go:312", after := #[{ on := 14, ground := Ground.data }, { on := 4, ground := Ground.guard }], guard := some (4, true) }) (v := undef) rfl (by kernel_rfl) (by kernel_rfl) (by kernel_rfl) (fun _ _ _ h => h) (Or.inr ⟨by rfl, rfl⟩) hHeld ?_
                simp only [Act.put, List.setIfInBounds_toArray, List.set_cons_zero, List.set_cons_succ]
                refine wpAnyH_take (i := 16) (oi := { dst := some 126, op := Op.pick (Operand.tmp 114) (Operand.tmp 125) (Operand.const (Value.bool false)), type := 4, pos := "law.go:312", after := #[{ on := 4, ground := Ground.data }, { on := 15, ground := Ground.data }], guard := none }) (v := ?vv0_16) rfl (by kernel_rfl) (by kernel_rfl) (by kernel_rfl) (fun _ _ _ h => h) (Or.inl ⟨by rfl, ?hy0_16⟩) hHeld ?rs0_16
                case hy0_16 => (intro w hSw; (try dsimp only at hSw); go_simp; try with_reducible rfl)
                simp only [Act.put, List.setIfInBounds_toArray, List.set_cons_zero, List.set_cons_succ]
                refine wpAnyH_done (by kernel_rfl) ?_ _
                have S2 := hide (S1.out.below (below_drew wr))
                clear hHeld
                go_wp2
                go_roundw
                case rel => exact ⟨1, by omega, by go_num, S2⟩
                case measure => simp [intOf]
              | true =>
                have x0 := S1.out.1.a0
                have y0 := S1.out.1.b0
                have z0 := (S1.out.2.p1 hon).rb.c1
                rw [Sd.tp_on hon] at x0
                rw [Sd.rp_on hon] at y0
                have HON := hide hon
                clear hon
                go_wp2_with fail
                go_region_held3 (fun W => W.cell? ⟨w.heap.size, 0, none⟩ = some (.pointer (some ⟨p.t, 0, none⟩)) ∧ W.cell? ⟨w.heap.size + 1, 0, none⟩ = some (.pointer (some ⟨p.r, 0, none⟩)) ∧ W.cell? ⟨p.r, 1, none⟩ = some p.vr) (first | exact ⟨x2, y2, z2⟩ | exact ⟨x0, y0, z0⟩ | go_keep)
                  (first
                    | (go_at_call 24; refine (listed_any hap p.t p.bm p.most p.v p.l p.vr _ (hide ((S1.out.below (below_drew wr)).2.p1 HON.out).tb) (hide ((S1.out.below (below_drew wr)).2.p1 HON.out).rb.own.str)).mono ?_; rintro e w2 ⟨rfl, d2⟩; have S2 := (S1.out.below (below_drew wr)).below d2; have x2 := S2.1.a0; rw [Sd.tp_on HON.out] at x2; have y2 := S2.1.b0; rw [Sd.rp_on HON.out] at y2; have z2 := (S2.2.p1 HON.out).rb.c1))
                have S3 := hide S2
                clear S2 d2 x2 y2 z2 S1
                go_wp2
                go_roundw
                case rel => exact ⟨1, by omega, by go_num, S3⟩
                case measure => simp [intOf]
            · cases hon : q.on with
              | false =>
                have y0 := S1.out.1.b1
                rw [Sd.rp_off hon] at y0
                go_wp2_with fail
                refine wp_region_held_drew (S := fun W => W.cell? ⟨w.heap.size + 1, 1, none⟩ = some (.pointer none)) (by kernel_rfl) y0 (fun hHeld => ?_)
                refine wpAnyH_take (i := 0) (oi := { dst := some 110, op := Op.move (Operand.tmp 17), type := 3, pos := "law.go:312", after := #[], guard := none }) (v := ?vv1_0) rfl (by kernel_rfl) (by kernel_rfl) (by kernel_rfl) (fun _ _ _ h => h) (Or.inl ⟨by rfl, ?hy1_0⟩) hHeld ?rs1_0
                case hy1_0 => (intro w hSw; (try dsimp only at hSw); go_simp; try with_reducible rfl)
                simp only [Act.put, List.setIfInBounds_toArray, List.set_cons_zero, List.set_cons_succ]
                refine wpAnyH_take (i := 1) (oi := { dst := some 111, op := Op.indexAddr 49 (Operand.tmp 8) (Operand.tmp 110), type := 0, pos := "law.go:312", after := #[{ on := 0, ground := Ground.data }], guard := none }) (v := ?vv1_1) rfl (by kernel_rfl) (by kernel_rfl) (by kernel_rfl) (fun _ _ _ h => h) (Or.inl ⟨by rfl, ?hy1_1⟩) hHeld ?rs1_1
                case hy1_1 => (intro w hSw; (try dsimp only at hSw); go_simp; try with_reducible rfl)
                simp only [Act.put, List.setIfInBounds_toArray, List.set_cons_zero, List.set_cons_succ]
                refine wpAnyH_take (i := 2) (oi := { dst := some 112, op := Op.load 48 (Operand.tmp 111), type := 48, pos := "law.go:312", after := #[{ on := 1, ground := Ground.data }], guard := none }) (v := ?vv1_2) rfl (by kernel_rfl) (by kernel_rfl) (by kernel_rfl) (fun _ _ _ h => h) (Or.inl ⟨by rfl, ?hy1_2⟩) hHeld ?rs1_2
                case hy1_2 => (intro w hSw; (try dsimp only at hSw); go_simp; try with_reducible rfl)
                simp only [Act.put, List.setIfInBounds_toArray, List.set_cons_zero, List.set_cons_succ]
                refine wpAnyH_take (i := 3) (oi := { dst := some 113, op := Op.binOp BinOp.neq 48 (Operand.tmp 112) (Operand.const (Value.pointer none)) 48, type := 4, pos := "law.go:312", after := #[{ on := 2, ground := Ground.data }], guard := none }) (v := ?vv1_3) rfl (by kernel_rfl) (by kernel_rfl) (by kernel_rfl) (fun _ _ _ h => h) (Or.inl ⟨by rfl, ?hy1_3⟩) hHeld ?rs1_3
                case hy1_3 => (intro w hSw; (try dsimp only at hSw); go_simp; try with_reducible rfl)
                simp only [Act.put, List.setIfInBounds_toArray, List.set_cons_zero, List.set_cons_succ]
                refine wpAnyH_take (i := 4) (oi := { dst := some 114, op := Op.move (Operand.tmp 113), type := 4, pos := "law.go:312", after := #[{ on := 3, ground := Ground.data }], guard := none }) (v := ?vv1_4) rfl (by kernel_rfl) (by kernel_rfl) (by kernel_rfl) (fun _ _ _ h => h) (Or.inl ⟨by rfl, ?hy1_4⟩) hHeld ?rs1_4
                case hy1_4 => (intro w hSw; (try dsimp only at hSw); go_simp; try with_reducible rfl)
                simp only [Act.put, List.setIfInBounds_toArray, List.set_cons_zero, List.set_cons_succ]
                refine wpAnyH_take (i := 5) (oi := { dst := some 115, op := Op.move (Operand.tmp 17), type := 3, pos := "law.go:312", after := #[{ on := 4, ground := Ground.guard }], guard := some (4, true) }) (v := undef) rfl (by kernel_rfl) (by kernel_rfl) (by kernel_rfl) (fun _ _ _ h => h) (Or.inr ⟨by rfl, rfl⟩) hHeld ?_
                simp only [Act.put, List.setIfInBounds_toArray, List.set_cons_zero, List.set_cons_succ]
                refine wpAnyH_take (i := 6) (oi := { dst := some 116, op := Op.indexAddr 47 (Operand.tmp 7) (Operand.tmp 115), type := 0, pos := "law.go:312", after := #[{ on := 5, ground := Ground.data }, { on := 4, ground := Ground.guard }], guard := some (4, true) }) (v := undef) rfl (by kernel_rfl) (by kernel_rfl) (by kernel_rfl) (fun _ _ _ h => h) (Or.inr ⟨by rfl, rfl⟩) hHeld ?_
                simp only [Act.put, List.setIfInBounds_toArray, List.set_cons_zero, List.set_cons_succ]
                refine wpAnyH_take (i := 7) (oi := { dst := some 117, op := Op.load 23 (Operand.tmp 116), type := 23, pos := "law.go:312", after := #[{ on := 6, ground := Ground.data }, { on := 4, ground := Ground.guard }], guard := some (4, true) }) (v := undef) rfl (by kernel_rfl) (by kernel_rfl) (by kernel_rfl) (fun _ _ _ h => h) (Or.inr ⟨by rfl, rfl⟩) hHeld ?_
                simp only [Act.put, List.setIfInBounds_toArray, List.set_cons_zero, List.set_cons_succ]
                refine wpAnyH_take (i := 8) (oi := { dst := some 118, op := Op.move (Operand.tmp 17), type := 3, pos := "law.go:312", after := #[{ on := 4, ground := Ground.guard }], guard := some (4, true) }) (v := undef) rfl (by kernel_rfl) (by kernel_rfl) (by kernel_rfl) (fun _ _ _ h => h) (Or.inr ⟨by rfl, rfl⟩) hHeld ?_
                simp only [Act.put, List.setIfInBounds_toArray, List.set_cons_zero, List.set_cons_succ]
                refine wpAnyH_take (i := 9) (oi := { dst := some 119, op := Op.indexAddr 49 (Operand.tmp 8) (Operand.tmp 118), type := 0, pos := "law.go:312", after := #[{ on := 8, ground := Ground.data }, { on := 4, ground := Ground.guard }], guard := some (4, true) }) (v := undef) rfl (by kernel_rfl) (by kernel_rfl) (by kernel_rfl) (fun _ _ _ h => h) (Or.inr ⟨by rfl, rfl⟩) hHeld ?_
                simp only [Act.put, List.setIfInBounds_toArray, List.set_cons_zero, List.set_cons_succ]
                refine wpAnyH_take (i := 10) (oi := { dst := some 120, op := Op.load 48 (Operand.tmp 119), type := 48, pos := "law.go:312", after := #[{ on := 9, ground := Ground.data }, { on := 4, ground := Ground.guard }], guard := some (4, true) }) (v := undef) rfl (by kernel_rfl) (by kernel_rfl) (by kernel_rfl) (fun _ _ _ h => h) (Or.inr ⟨by rfl, rfl⟩) hHeld ?_
                simp only [Act.put, List.setIfInBounds_toArray, List.set_cons_zero, List.set_cons_succ]
                refine wpAnyH_take (i := 11) (oi := { dst := some 121, op := Op.nilCheck (Operand.tmp 120), type := 0, pos := "law.go:312", after := #[{ on := 10, ground := Ground.data }, { on := 4, ground := Ground.guard }], guard := some (4, true) }) (v := undef) rfl (by kernel_rfl) (by kernel_rfl) (by kernel_rfl) (fun _ _ _ h => h) (Or.inr ⟨by rfl, rfl⟩) hHeld ?_
                simp only [Act.put, List.setIfInBounds_toArray, List.set_cons_zero, List.set_cons_succ]
                refine wpAnyH_take (i := 12) (oi := { dst := some 122, op := Op.fieldAddr 60 (Operand.tmp 121) 1, type := 0, pos := "law.go:312", after := #[{ on := 11, ground := Ground.data }, { on := 4, ground := Ground.guard }], guard := some (4, true) }) (v := undef) rfl (by kernel_rfl) (by kernel_rfl) (by kernel_rfl) (fun _ _ _ h => h) (Or.inr ⟨by rfl, rfl⟩) hHeld ?_
                simp only [Act.put, List.setIfInBounds_toArray, List.set_cons_zero, List.set_cons_succ]
                refine wpAnyH_take (i := 13) (oi := { dst := some 123, op := Op.load 22 (Operand.tmp 122), type := 22, pos := "law.go:312", after := #[{ on := 12, ground := Ground.data }, { on := 4, ground := Ground.guard }], guard := some (4, true) }) (v := undef) rfl (by kernel_rfl) (by kernel_rfl) (by kernel_rfl) (fun _ _ _ h => h) (Or.inr ⟨by rfl, rfl⟩) hHeld ?_
                simp only [Act.put, List.setIfInBounds_toArray, List.set_cons_zero, List.set_cons_succ]
                refine wpAnyH_take (i := 14) (oi := { dst := some 124, op := Op.call { callee := Callee.value (Operand.func 24), args := #[Operand.tmp 117, Operand.tmp 123], argTypes := #[23, 22] }, type := 4, pos := "law.go:312", after := #[{ on := 7, ground := Ground.data }, { on := 13, ground := Ground.data }, { on := 4, ground := Ground.chain }, { on := 4, ground := Ground.guard }], guard := some (4, true) }) (v := undef) rfl (by kernel_rfl) (by kernel_rfl) (by kernel_rfl) (fun _ _ _ h => h) (Or.inr ⟨by rfl, rfl⟩) hHeld ?_
                simp only [Act.put, List.setIfInBounds_toArray, List.set_cons_zero, List.set_cons_succ]
                refine wpAnyH_take (i := 15) (oi := { dst := some 125, op := Op.unOp UnOp.not 4 (Operand.tmp 124), type := 4, pos := "law.go:312", after := #[{ on := 14, ground := Ground.data }, { on := 4, ground := Ground.guard }], guard := some (4, true) }) (v := undef) rfl (by kernel_rfl) (by kernel_rfl) (by kernel_rfl) (fun _ _ _ h => h) (Or.inr ⟨by rfl, rfl⟩) hHeld ?_
                simp only [Act.put, List.setIfInBounds_toArray, List.set_cons_zero, List.set_cons_succ]
                refine wpAnyH_take (i := 16) (oi := { dst := some 126, op := Op.pick (Operand.tmp 114) (Operand.tmp 125) (Operand.const (Value.bool false)), type := 4, pos := "law.go:312", after := #[{ on := 4, ground := Ground.data }, { on := 15, ground := Ground.data }], guard := none }) (v := ?vv1_16) rfl (by kernel_rfl) (by kernel_rfl) (by kernel_rfl) (fun _ _ _ h => h) (Or.inl ⟨by rfl, ?hy1_16⟩) hHeld ?rs1_16
                case hy1_16 => (intro w hSw; (try dsimp only at hSw); go_simp; try with_reducible rfl)
                simp only [Act.put, List.setIfInBounds_toArray, List.set_cons_zero, List.set_cons_succ]
                refine wpAnyH_done (by kernel_rfl) ?_ _
                have S2 := hide (S1.out.below (below_drew wr))
                clear hHeld
                go_wp2
                go_roundw
                case rel => exact ⟨2, by omega, by go_num, S2⟩
                case measure => simp [intOf]
              | true =>
                have x0 := S1.out.1.a1
                have y0 := S1.out.1.b1
                have z0 := (S1.out.2.q1 hon).rb.c1
                rw [Sd.tp_on hon] at x0
                rw [Sd.rp_on hon] at y0
                have HON := hide hon
                clear hon
                go_wp2_with fail
                go_region_held3 (fun W => W.cell? ⟨w.heap.size, 1, none⟩ = some (.pointer (some ⟨q.t, 0, none⟩)) ∧ W.cell? ⟨w.heap.size + 1, 1, none⟩ = some (.pointer (some ⟨q.r, 0, none⟩)) ∧ W.cell? ⟨q.r, 1, none⟩ = some q.vr) (first | exact ⟨x2, y2, z2⟩ | exact ⟨x0, y0, z0⟩ | go_keep)
                  (first
                    | (go_at_call 24; refine (listed_any hap q.t q.bm q.most q.v q.l q.vr _ (hide ((S1.out.below (below_drew wr)).2.q1 HON.out).tb) (hide ((S1.out.below (below_drew wr)).2.q1 HON.out).rb.own.str)).mono ?_; rintro e w2 ⟨rfl, d2⟩; have S2 := (S1.out.below (below_drew wr)).below d2; have x2 := S2.1.a1; rw [Sd.tp_on HON.out] at x2; have y2 := S2.1.b1; rw [Sd.rp_on HON.out] at y2; have z2 := (S2.2.q1 HON.out).rb.c1))
                have S3 := hide S2
                clear S2 d2 x2 y2 z2 S1
                go_wp2
                go_roundw
                case rel => exact ⟨2, by omega, by go_num, S3⟩
                case measure => simp [intOf]
            · go_wp2_with fail
              refine (lives_any _ (hT.out.1.below S1.out.2.D hT.out.2) (Nat.lt_of_lt_of_le hT.out.2 S1.out.2.D.size)).mono ?_
              rintro e w2 ⟨rfl, d⟩
              have D := S1.out.2.D.trans (d.mono S1.out.2.D.size)
              clear d
              go_wp2
              go_ret
              exact ⟨rfl, D⟩

end Go.Proofs.YtnfdifkcchciaaaDoor
