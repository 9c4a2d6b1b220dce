import Derived.Test.YtdgmokelmocejabDoorPks
namespace Go.Proofs.YtdgmokelmocejabDoor
open Go.RowKit

set_option maxRecDepth 100000 in
set_option maxHeartbeats 8000000 in
/-- ref.pick. -/
theorem pick_any (n X Y : Nat) (aoA aoB : Option Addr) (cA cB : Nat) (nb : Int) (y0 y1 y2 y3 : Bool) (w : World) (hn : n ≤ 8192) (hA : Reads w aoA (elems n X)) (hB : Reads w aoB (elems n Y)) :
    Calls Tryd.prog 82 #[.agg #[.int .i64 n, .slice aoA (elems n X).length cA], .agg #[.int .i64 nb, .slice aoB (elems n Y).length cB], .agg #[.bool y0, .bool y1, .bool y2, .bool y3]] w fun e w' =>
      ∃ v, e = .returned (.agg #[.int .i64 n, v]) ∧ w'.ownsRow w.heap.size 3 1 v (pickL (tabF y0 y1 y2 y3) X Y n).length (intV (pickL (tabF y0 y1 y2 y3) X Y n)) ∧ Below w.heap.size w w' := by
  obtain ⟨i0, hi, hz0, hz1, hz2⟩ := info_parts info3
  have HA := hide hA
  have HB := hide hB
  clear hA hB
  go_enter Tryd.func82, Tryd.ntmps82
  go_wp2
  have S0 := rpk_start w n (.slice aoA (elems n X).length cA) nb (.slice aoB (elems n Y).length cB) y0 y1 y2 y3
  generalize (((((w.alloc (.cells #[.int .i64 n, .slice aoA (elems n X).length cA] 42)).alloc (.cells #[.int .i64 nb, .slice aoB (elems n Y).length cB] 42)).alloc (.cells #[.bool y0, .bool y1, .bool y2, .bool y3] 94)).alloc (.cells #[.int .i64 0, .slice none 0 0] 42)).alloc (.cells #[.int .i64 n, .slice none 0 0] 42)) = W0 at S0 ⊢
  generalize w.heap.size + 1 + 1 + 1 + 1 = P4 at S0 ⊢
  generalize w.heap.size + 1 + 1 + 1 = P3 at S0 ⊢
  generalize w.heap.size + 1 + 1 = P2 at S0 ⊢
  generalize w.heap.size + 1 = P1 at S0 ⊢
  have HS0 := hide S0
  clear S0
  go_loopw [8, 9, 10] (fun i j k wr => ∃ (m cap : Nat) (ao : Option Addr), m ≤ n ∧ i = .int .i64 ((elems m X).length : Int) ∧ j = .int .i64 ((elems m Y).length : Int) ∧ k = .int .i64 m ∧ Hid (RPk w P1 P2 P3 P4 n (.slice aoA (elems n X).length cA) nb (.slice aoB (elems n Y).length cB) y0 y1 y2 y3 (pickL (tabF y0 y1 y2 y3) X Y m) ao cap wr)) (fun _ _ k _ => n - (intOf k).toNat)
  case atStart => exact ⟨0, 0, none, Nat.zero_le _, rfl, rfl, rfl, HS0⟩
  case round =>
    clear HS0
    obtain ⟨m, cap, ao, hm, rfl, rfl, rfl, R⟩ := hrel
    obtain ⟨a0, a1, b1, t0, t1, t2, t3, s0, s1, r0, r1, fr, fs⟩ := rpk_cells R.out
    by_cases hlt : m < n
    · have hlti : (m : Int) < (n : Int) := by omega
      clear r0 r1 fr s0
      have fs1 := fs 1
      clear fs
      have cX := pk_case n X m hlt
      have cY := pk_case n Y m hlt
      have RA := reads_b HA.out R.out.below
      have RB := reads_b HB.out R.out.below
      have eX := congrArg List.length (elems_one m X)
      have eY := congrArg List.length (elems_one m Y)
      have eP := pickL_one (tabF y0 y1 y2 y3) X Y m
      have hlen := pickL_len (tabF y0 y1 y2 y3) X Y m
      have hown := R.out.own
      have hsz := R.out.below.size
      have hP4 := cell_lt R.out.set
      rw [List.length_append] at eX eY
      have hcx := cnt_le m X
      have hcy := cnt_le m Y
      have hcn := cnt_le n X
      have hcn2 := cnt_le n Y
      unfold cnt at hcx hcy hcn hcn2
      generalize (elems m X).length = x at *
      generalize (elems m Y).length = y at *
      generalize pickL (tabF y0 y1 y2 y3) X Y m = L at *
      rcases cX with ⟨bx, lx, gx⟩ | ⟨bx, lx, gx⟩ | ⟨bx, lx⟩
      · obtain ⟨gA, eA, dA⟩ := RA x lx
        rw [gx] at dA
        subst eA
        have lxi : (x : Int) < ((elems n X).length : Int) := by omega
        have lx0 : (0 : Int) ≤ (x : Int) := by omega
        have HX : Hid ((elems (m + 1) X).length = x + 1) := by show _ = _; rw [eX, bx]; simp
        clear eX RA gx
        rcases cY with ⟨by_, ly, gy⟩ | ⟨by_, ly, gy⟩ | ⟨by_, ly⟩
        · obtain ⟨gB, eB, dB⟩ := RB y ly
          rw [gy] at dB
          subst eB
          have lyi : (y : Int) < ((elems n Y).length : Int) := by omega
          have ly0 : (0 : Int) ≤ (y : Int) := by omega
          have HY : Hid ((elems (m + 1) Y).length = y + 1) := by show _ = _; rw [eY, by_]; simp
          clear eY RB gy
          by_cases hyv : y3 = true
          · subst hyv
            have HP : Hid (pickL (tabF y0 y1 y2 true) X Y (m + 1) = L ++ [m]) := by show _ = _; rw [eP]; simp [tabF, bx, by_]
            clear eP bx by_
            go_wp2_with (at_builtin; refine wpList_append_lies _ rfl _ _ _ rfl w.heap.size 3 i0 _ 1 8 Tryd.underlying22 hi hz0 hz1 hz2 rfl (by omega) _ L.length (intV L) rfl (hown.alloc _) ⟨wr.heap.size, 0, none⟩ 1 1 [.int .i64 m] rfl rfl (World.news_of_block (cs := #[.int .i64 m]) (t := 3) (fr := (0, 0)) (heap_alloc_new wr _)) (by simp [Value.oneCell']) (by omega) (by unfold maxLen; omega) (by omega) (by simp; omega) (wr.heap.size + 1) (by simp) ?_)
            intro g cap2 w1 hown1 hgr hat hlt1
            obtain ⟨R2, k1, k2⟩ := rpk_put R.out hgr hown1
            have R3 := hide R2
            clear hown1 hgr hat hlt1 R2 R hown a0 a1 b1 t0 t1 t2 t3 s1 fs1
            go_wp2
            go_roundw
            case rel => exact ⟨m + 1, cap2, some ⟨g, 0, none⟩, by omega, by rw [HX.out]; try go_num, by rw [HY.out]; try go_num, by go_num, by rw [HP.out]; exact R3⟩
            case measure => simp [intOf]; omega
          · replace hyv : y3 = false := by simpa using hyv
            subst hyv
            have HP : Hid (pickL (tabF y0 y1 y2 false) X Y (m + 1) = L) := by show _ = _; rw [eP]; simp [tabF, bx, by_]
            clear eP bx by_
            go_wp2
            go_roundw
            case rel => exact ⟨m + 1, cap, ao, by omega, by rw [HX.out]; try go_num, by rw [HY.out]; try go_num, by go_num, by rw [HP.out]; exact R⟩
            case measure => simp [intOf]; omega
        · obtain ⟨gB, eB, dB⟩ := RB y ly
          generalize (elems n Y).getD y 0 = qy at *
          subst eB
          have ny : ((qy : Int) == (m : Int)) = false := by rw [beq_eq_false_iff_ne]; omega
          have lyi : (y : Int) < ((elems n Y).length : Int) := by omega
          have ly0 : (0 : Int) ≤ (y : Int) := by omega
          have HY : Hid ((elems (m + 1) Y).length = y) := by show _ = _; rw [eY, by_]; simp
          clear eY RB gy
          by_cases hyv : y1 = true
          · subst hyv
            have HP : Hid (pickL (tabF y0 true y2 y3) X Y (m + 1) = L ++ [m]) := by show _ = _; rw [eP]; simp [tabF, bx, by_]
            clear eP bx by_
            go_wp2_with (at_builtin; refine wpList_append_lies _ rfl _ _ _ rfl w.heap.size 3 i0 _ 1 8 Tryd.underlying22 hi hz0 hz1 hz2 rfl (by omega) _ L.length (intV L) rfl (hown.alloc _) ⟨wr.heap.size, 0, none⟩ 1 1 [.int .i64 m] rfl rfl (World.news_of_block (cs := #[.int .i64 m]) (t := 3) (fr := (0, 0)) (heap_alloc_new wr _)) (by simp [Value.oneCell']) (by omega) (by unfold maxLen; omega) (by omega) (by simp; omega) (wr.heap.size + 1) (by simp) ?_)
            intro g cap2 w1 hown1 hgr hat hlt1
            obtain ⟨R2, k1, k2⟩ := rpk_put R.out hgr hown1
            have R3 := hide R2
            clear hown1 hgr hat hlt1 R2 R hown a0 a1 b1 t0 t1 t2 t3 s1 fs1
            go_wp2
            go_roundw
            case rel => exact ⟨m + 1, cap2, some ⟨g, 0, none⟩, by omega, by rw [HX.out]; try go_num, by rw [HY.out]; try go_num, by go_num, by rw [HP.out]; exact R3⟩
            case measure => simp [intOf]; omega
          · replace hyv : y1 = false := by simpa using hyv
            subst hyv
            have HP : Hid (pickL (tabF y0 false y2 y3) X Y (m + 1) = L) := by show _ = _; rw [eP]; simp [tabF, bx, by_]
            clear eP bx by_
            go_wp2
            go_roundw
            case rel => exact ⟨m + 1, cap, ao, by omega, by rw [HX.out]; try go_num, by rw [HY.out]; try go_num, by go_num, by rw [HP.out]; exact R⟩
            case measure => simp [intOf]; omega
        · have lyi : ¬ (y : Int) < ((elems n Y).length : Int) := by omega
          have HY : Hid ((elems (m + 1) Y).length = y) := by show _ = _; rw [eY, by_]; simp
          clear eY RB
          by_cases hyv : y1 = true
          · subst hyv
            have HP : Hid (pickL (tabF y0 true y2 y3) X Y (m + 1) = L ++ [m]) := by show _ = _; rw [eP]; simp [tabF, bx, by_]
            clear eP bx by_
            go_wp2_with (at_builtin; refine wpList_append_lies _ rfl _ _ _ rfl w.heap.size 3 i0 _ 1 8 Tryd.underlying22 hi hz0 hz1 hz2 rfl (by omega) _ L.length (intV L) rfl (hown.alloc _) ⟨wr.heap.size, 0, none⟩ 1 1 [.int .i64 m] rfl rfl (World.news_of_block (cs := #[.int .i64 m]) (t := 3) (fr := (0, 0)) (heap_alloc_new wr _)) (by simp [Value.oneCell']) (by omega) (by unfold maxLen; omega) (by omega) (by simp; omega) (wr.heap.size + 1) (by simp) ?_)
            intro g cap2 w1 hown1 hgr hat hlt1
            obtain ⟨R2, k1, k2⟩ := rpk_put R.out hgr hown1
            have R3 := hide R2
            clear hown1 hgr hat hlt1 R2 R hown a0 a1 b1 t0 t1 t2 t3 s1 fs1
            go_wp2
            go_roundw
            case rel => exact ⟨m + 1, cap2, some ⟨g, 0, none⟩, by omega, by rw [HX.out]; try go_num, by rw [HY.out]; try go_num, by go_num, by rw [HP.out]; exact R3⟩
            case measure => simp [intOf]; omega
          · replace hyv : y1 = false := by simpa using hyv
            subst hyv
            have HP : Hid (pickL (tabF y0 false y2 y3) X Y (m + 1) = L) := by show _ = _; rw [eP]; simp [tabF, bx, by_]
            clear eP bx by_
            go_wp2
            go_roundw
            case rel => exact ⟨m + 1, cap, ao, by omega, by rw [HX.out]; try go_num, by rw [HY.out]; try go_num, by go_num, by rw [HP.out]; exact R⟩
            case measure => simp [intOf]; omega
      · obtain ⟨gA, eA, dA⟩ := RA x lx
        generalize (elems n X).getD x 0 = qx at *
        subst eA
        have nx : ((qx : Int) == (m : Int)) = false := by rw [beq_eq_false_iff_ne]; omega
        have lxi : (x : Int) < ((elems n X).length : Int) := by omega
        have lx0 : (0 : Int) ≤ (x : Int) := by omega
        have HX : Hid ((elems (m + 1) X).length = x) := by show _ = _; rw [eX, bx]; simp
        clear eX RA gx
        rcases cY with ⟨by_, ly, gy⟩ | ⟨by_, ly, gy⟩ | ⟨by_, ly⟩
        · obtain ⟨gB, eB, dB⟩ := RB y ly
          rw [gy] at dB
          subst eB
          have lyi : (y : Int) < ((elems n Y).length : Int) := by omega
          have ly0 : (0 : Int) ≤ (y : Int) := by omega
          have HY : Hid ((elems (m + 1) Y).length = y + 1) := by show _ = _; rw [eY, by_]; simp
          clear eY RB gy
          by_cases hyv : y2 = true
          · subst hyv
            have HP : Hid (pickL (tabF y0 y1 true y3) X Y (m + 1) = L ++ [m]) := by show _ = _; rw [eP]; simp [tabF, bx, by_]
            clear eP bx by_
            go_wp2_with (at_builtin; refine wpList_append_lies _ rfl _ _ _ rfl w.heap.size 3 i0 _ 1 8 Tryd.underlying22 hi hz0 hz1 hz2 rfl (by omega) _ L.length (intV L) rfl (hown.alloc _) ⟨wr.heap.size, 0, none⟩ 1 1 [.int .i64 m] rfl rfl (World.news_of_block (cs := #[.int .i64 m]) (t := 3) (fr := (0, 0)) (heap_alloc_new wr _)) (by simp [Value.oneCell']) (by omega) (by unfold maxLen; omega) (by omega) (by simp; omega) (wr.heap.size + 1) (by simp) ?_)
            intro g cap2 w1 hown1 hgr hat hlt1
            obtain ⟨R2, k1, k2⟩ := rpk_put R.out hgr hown1
            have R3 := hide R2
            clear hown1 hgr hat hlt1 R2 R hown a0 a1 b1 t0 t1 t2 t3 s1 fs1
            go_wp2
            go_roundw
            case rel => exact ⟨m + 1, cap2, some ⟨g, 0, none⟩, by omega, by rw [HX.out]; try go_num, by rw [HY.out]; try go_num, by go_num, by rw [HP.out]; exact R3⟩
            case measure => simp [intOf]; omega
          · replace hyv : y2 = false := by simpa using hyv
            subst hyv
            have HP : Hid (pickL (tabF y0 y1 false y3) X Y (m + 1) = L) := by show _ = _; rw [eP]; simp [tabF, bx, by_]
            clear eP bx by_
            go_wp2
            go_roundw
            case rel => exact ⟨m + 1, cap, ao, by omega, by rw [HX.out]; try go_num, by rw [HY.out]; try go_num, by go_num, by rw [HP.out]; exact R⟩
            case measure => simp [intOf]; omega
        · obtain ⟨gB, eB, dB⟩ := RB y ly
          generalize (elems n Y).getD y 0 = qy at *
          subst eB
          have ny : ((qy : Int) == (m : Int)) = false := by rw [beq_eq_false_iff_ne]; omega
          have lyi : (y : Int) < ((elems n Y).length : Int) := by omega
          have ly0 : (0 : Int) ≤ (y : Int) := by omega
          have HY : Hid ((elems (m + 1) Y).length = y) := by show _ = _; rw [eY, by_]; simp
          clear eY RB gy
          by_cases hyv : y0 = true
          · subst hyv
            have HP : Hid (pickL (tabF true y1 y2 y3) X Y (m + 1) = L ++ [m]) := by show _ = _; rw [eP]; simp [tabF, bx, by_]
            clear eP bx by_
            go_wp2_with (at_builtin; refine wpList_append_lies _ rfl _ _ _ rfl w.heap.size 3 i0 _ 1 8 Tryd.underlying22 hi hz0 hz1 hz2 rfl (by omega) _ L.length (intV L) rfl (hown.alloc _) ⟨wr.heap.size, 0, none⟩ 1 1 [.int .i64 m] rfl rfl (World.news_of_block (cs := #[.int .i64 m]) (t := 3) (fr := (0, 0)) (heap_alloc_new wr _)) (by simp [Value.oneCell']) (by omega) (by unfold maxLen; omega) (by omega) (by simp; omega) (wr.heap.size + 1) (by simp) ?_)
            intro g cap2 w1 hown1 hgr hat hlt1
            obtain ⟨R2, k1, k2⟩ := rpk_put R.out hgr hown1
            have R3 := hide R2
            clear hown1 hgr hat hlt1 R2 R hown a0 a1 b1 t0 t1 t2 t3 s1 fs1
            go_wp2
            go_roundw
            case rel => exact ⟨m + 1, cap2, some ⟨g, 0, none⟩, by omega, by rw [HX.out]; try go_num, by rw [HY.out]; try go_num, by go_num, by rw [HP.out]; exact R3⟩
            case measure => simp [intOf]; omega
          · replace hyv : y0 = false := by simpa using hyv
            subst hyv
            have HP : Hid (pickL (tabF false y1 y2 y3) X Y (m + 1) = L) := by show _ = _; rw [eP]; simp [tabF, bx, by_]
            clear eP bx by_
            go_wp2
            go_roundw
            case rel => exact ⟨m + 1, cap, ao, by omega, by rw [HX.out]; try go_num, by rw [HY.out]; try go_num, by go_num, by rw [HP.out]; exact R⟩
            case measure => simp [intOf]; omega
        · have lyi : ¬ (y : Int) < ((elems n Y).length : Int) := by omega
          have HY : Hid ((elems (m + 1) Y).length = y) := by show _ = _; rw [eY, by_]; simp
          clear eY RB
          by_cases hyv : y0 = true
          · subst hyv
            have HP : Hid (pickL (tabF true y1 y2 y3) X Y (m + 1) = L ++ [m]) := by show _ = _; rw [eP]; simp [tabF, bx, by_]
            clear eP bx by_
            go_wp2_with (at_builtin; refine wpList_append_lies _ rfl _ _ _ rfl w.heap.size 3 i0 _ 1 8 Tryd.underlying22 hi hz0 hz1 hz2 rfl (by omega) _ L.length (intV L) rfl (hown.alloc _) ⟨wr.heap.size, 0, none⟩ 1 1 [.int .i64 m] rfl rfl (World.news_of_block (cs := #[.int .i64 m]) (t := 3) (fr := (0, 0)) (heap_alloc_new wr _)) (by simp [Value.oneCell']) (by omega) (by unfold maxLen; omega) (by omega) (by simp; omega) (wr.heap.size + 1) (by simp) ?_)
            intro g cap2 w1 hown1 hgr hat hlt1
            obtain ⟨R2, k1, k2⟩ := rpk_put R.out hgr hown1
            have R3 := hide R2
            clear hown1 hgr hat hlt1 R2 R hown a0 a1 b1 t0 t1 t2 t3 s1 fs1
            go_wp2
            go_roundw
            case rel => exact ⟨m + 1, cap2, some ⟨g, 0, none⟩, by omega, by rw [HX.out]; try go_num, by rw [HY.out]; try go_num, by go_num, by rw [HP.out]; exact R3⟩
            case measure => simp [intOf]; omega
          · replace hyv : y0 = false := by simpa using hyv
            subst hyv
            have HP : Hid (pickL (tabF false y1 y2 y3) X Y (m + 1) = L) := by show _ = _; rw [eP]; simp [tabF, bx, by_]
            clear eP bx by_
            go_wp2
            go_roundw
            case rel => exact ⟨m + 1, cap, ao, by omega, by rw [HX.out]; try go_num, by rw [HY.out]; try go_num, by go_num, by rw [HP.out]; exact R⟩
            case measure => simp [intOf]; omega
      · have lxi : ¬ (x : Int) < ((elems n X).length : Int) := by omega
        have HX : Hid ((elems (m + 1) X).length = x) := by show _ = _; rw [eX, bx]; simp
        clear eX RA
        rcases cY with ⟨by_, ly, gy⟩ | ⟨by_, ly, gy⟩ | ⟨by_, ly⟩
        · obtain ⟨gB, eB, dB⟩ := RB y ly
          rw [gy] at dB
          subst eB
          have lyi : (y : Int) < ((elems n Y).length : Int) := by omega
          have ly0 : (0 : Int) ≤ (y : Int) := by omega
          have HY : Hid ((elems (m + 1) Y).length = y + 1) := by show _ = _; rw [eY, by_]; simp
          clear eY RB gy
          by_cases hyv : y2 = true
          · subst hyv
            have HP : Hid (pickL (tabF y0 y1 true y3) X Y (m + 1) = L ++ [m]) := by show _ = _; rw [eP]; simp [tabF, bx, by_]
            clear eP bx by_
            go_wp2_with (at_builtin; refine wpList_append_lies _ rfl _ _ _ rfl w.heap.size 3 i0 _ 1 8 Tryd.underlying22 hi hz0 hz1 hz2 rfl (by omega) _ L.length (intV L) rfl (hown.alloc _) ⟨wr.heap.size, 0, none⟩ 1 1 [.int .i64 m] rfl rfl (World.news_of_block (cs := #[.int .i64 m]) (t := 3) (fr := (0, 0)) (heap_alloc_new wr _)) (by simp [Value.oneCell']) (by omega) (by unfold maxLen; omega) (by omega) (by simp; omega) (wr.heap.size + 1) (by simp) ?_)
            intro g cap2 w1 hown1 hgr hat hlt1
            obtain ⟨R2, k1, k2⟩ := rpk_put R.out hgr hown1
            have R3 := hide R2
            clear hown1 hgr hat hlt1 R2 R hown a0 a1 b1 t0 t1 t2 t3 s1 fs1
            go_wp2
            go_roundw
            case rel => exact ⟨m + 1, cap2, some ⟨g, 0, none⟩, by omega, by rw [HX.out]; try go_num, by rw [HY.out]; try go_num, by go_num, by rw [HP.out]; exact R3⟩
            case measure => simp [intOf]; omega
          · replace hyv : y2 = false := by simpa using hyv
            subst hyv
            have HP : Hid (pickL (tabF y0 y1 false y3) X Y (m + 1) = L) := by show _ = _; rw [eP]; simp [tabF, bx, by_]
            clear eP bx by_
            go_wp2
            go_roundw
            case rel => exact ⟨m + 1, cap, ao, by omega, by rw [HX.out]; try go_num, by rw [HY.out]; try go_num, by go_num, by rw [HP.out]; exact R⟩
            case measure => simp [intOf]; omega
        · obtain ⟨gB, eB, dB⟩ := RB y ly
          generalize (elems n Y).getD y 0 = qy at *
          subst eB
          have ny : ((qy : Int) == (m : Int)) = false := by rw [beq_eq_false_iff_ne]; omega
          have lyi : (y : Int) < ((elems n Y).length : Int) := by omega
          have ly0 : (0 : Int) ≤ (y : Int) := by omega
          have HY : Hid ((elems (m + 1) Y).length = y) := by show _ = _; rw [eY, by_]; simp
          clear eY RB gy
          by_cases hyv : y0 = true
          · subst hyv
            have HP : Hid (pickL (tabF true y1 y2 y3) X Y (m + 1) = L ++ [m]) := by show _ = _; rw [eP]; simp [tabF, bx, by_]
            clear eP bx by_
            go_wp2_with (at_builtin; refine wpList_append_lies _ rfl _ _ _ rfl w.heap.size 3 i0 _ 1 8 Tryd.underlying22 hi hz0 hz1 hz2 rfl (by omega) _ L.length (intV L) rfl (hown.alloc _) ⟨wr.heap.size, 0, none⟩ 1 1 [.int .i64 m] rfl rfl (World.news_of_block (cs := #[.int .i64 m]) (t := 3) (fr := (0, 0)) (heap_alloc_new wr _)) (by simp [Value.oneCell']) (by omega) (by unfold maxLen; omega) (by omega) (by simp; omega) (wr.heap.size + 1) (by simp) ?_)
            intro g cap2 w1 hown1 hgr hat hlt1
            obtain ⟨R2, k1, k2⟩ := rpk_put R.out hgr hown1
            have R3 := hide R2
            clear hown1 hgr hat hlt1 R2 R hown a0 a1 b1 t0 t1 t2 t3 s1 fs1
            go_wp2
            go_roundw
            case rel => exact ⟨m + 1, cap2, some ⟨g, 0, none⟩, by omega, by rw [HX.out]; try go_num, by rw [HY.out]; try go_num, by go_num, by rw [HP.out]; exact R3⟩
            case measure => simp [intOf]; omega
          · replace hyv : y0 = false := by simpa using hyv
            subst hyv
            have HP : Hid (pickL (tabF false y1 y2 y3) X Y (m + 1) = L) := by show _ = _; rw [eP]; simp [tabF, bx, by_]
            clear eP bx by_
            go_wp2
            go_roundw
            case rel => exact ⟨m + 1, cap, ao, by omega, by rw [HX.out]; try go_num, by rw [HY.out]; try go_num, by go_num, by rw [HP.out]; exact R⟩
            case measure => simp [intOf]; omega
        · have lyi : ¬ (y : Int) < ((elems n Y).length : Int) := by omega
          have HY : Hid ((elems (m + 1) Y).length = y) := by show _ = _; rw [eY, by_]; simp
          clear eY RB
          by_cases hyv : y0 = true
          · subst hyv
            have HP : Hid (pickL (tabF true y1 y2 y3) X Y (m + 1) = L ++ [m]) := by show _ = _; rw [eP]; simp [tabF, bx, by_]
            clear eP bx by_
            go_wp2_with (at_builtin; refine wpList_append_lies _ rfl _ _ _ rfl w.heap.size 3 i0 _ 1 8 Tryd.underlying22 hi hz0 hz1 hz2 rfl (by omega) _ L.length (intV L) rfl (hown.alloc _) ⟨wr.heap.size, 0, none⟩ 1 1 [.int .i64 m] rfl rfl (World.news_of_block (cs := #[.int .i64 m]) (t := 3) (fr := (0, 0)) (heap_alloc_new wr _)) (by simp [Value.oneCell']) (by omega) (by unfold maxLen; omega) (by omega) (by simp; omega) (wr.heap.size + 1) (by simp) ?_)
            intro g cap2 w1 hown1 hgr hat hlt1
            obtain ⟨R2, k1, k2⟩ := rpk_put R.out hgr hown1
            have R3 := hide R2
            clear hown1 hgr hat hlt1 R2 R hown a0 a1 b1 t0 t1 t2 t3 s1 fs1
            go_wp2
            go_roundw
            case rel => exact ⟨m + 1, cap2, some ⟨g, 0, none⟩, by omega, by rw [HX.out]; try go_num, by rw [HY.out]; try go_num, by go_num, by rw [HP.out]; exact R3⟩
            case measure => simp [intOf]; omega
          · replace hyv : y0 = false := by simpa using hyv
            subst hyv
            have HP : Hid (pickL (tabF false y1 y2 y3) X Y (m + 1) = L) := by show _ = _; rw [eP]; simp [tabF, bx, by_]
            clear eP bx by_
            go_wp2
            go_roundw
            case rel => exact ⟨m + 1, cap, ao, by omega, by rw [HX.out]; try go_num, by rw [HY.out]; try go_num, by go_num, by rw [HP.out]; exact R⟩
            case measure => simp [intOf]; omega
    · have hmn : m = n := by omega
      have hlti : ¬ (m : Int) < (n : Int) := by omega
      subst hmn
      have f0 := fr 0
      have f1 := fr 1
      have hlt4 := R.out.lt
      have h1 := heap_setCell_same wr P3 0 _ 42 (.int .i64 m) R.out.res
      have h2 := heap_setCell_same _ P3 1 _ 42 (.slice ao (pickL (tabF y0 y1 y2 y3) X Y m).length cap) h1
      have o1 := ownsRow_setCell_other R.out.own (a := ⟨P3, 0, none⟩) (own_neT (by decide) R.out.own R.out.res) (.int .i64 m)
      have o2 := ownsRow_setCell_other o1 (a := ⟨P3, 1, none⟩) (own_neT (by decide) o1 h1) (.slice ao (pickL (tabF y0 y1 y2 y3) X Y m).length cap)
      have b2 : Below w.heap.size w ((wr.setCell ⟨P3, 0, none⟩ (.int .i64 m)).setCell ⟨P3, 1, none⟩ (.slice ao (pickL (tabF y0 y1 y2 y3) X Y m).length cap)) := (R.out.below.setCell (by simp; omega) _).setCell (by simp; omega) _
      have c0 : ((wr.setCell ⟨P3, 0, none⟩ (.int .i64 m)).setCell ⟨P3, 1, none⟩ (.slice ao (pickL (tabF y0 y1 y2 y3) X Y m).length cap)).cell? ⟨P3, 0, none⟩ = some (.int .i64 m) := by rw [cell_of_row _ _ 0 _ 42 (0, 0) h2]; rfl
      have c1 : ((wr.setCell ⟨P3, 0, none⟩ (.int .i64 m)).setCell ⟨P3, 1, none⟩ (.slice ao (pickL (tabF y0 y1 y2 y3) X Y m).length cap)).cell? ⟨P3, 1, none⟩ = some (.slice ao (pickL (tabF y0 y1 y2 y3) X Y m).length cap) := by rw [cell_of_row _ _ 1 _ 42 (0, 0) h2]; rfl
      have HC := hide (And.intro c0 c1)
      have HO := hide (And.intro o2 b2)
      clear hlt hm R fr fs h1 h2 o1 o2 b2 c0 c1
      go_wp2
      obtain ⟨c0, c1⟩ := HC.out
      refine bodyPost_ret (v := .agg #[.int .i64 m, .slice ao (pickL (tabF y0 y1 y2 y3) X Y m).length cap]) (by simp [results, Tryd.results82, go_sem, c0, c1]) rfl ⟨_, rfl, HO.out⟩
end Go.Proofs.YtdgmokelmocejabDoor
