import Derived.Test.YtmagchclmmphaaaGreatDoorPd
import Derived.Test.YtmagchclmmphaaaGreatDoorQC
namespace Go.Proofs.YtmagchclmmphaaaGreatDoor
open Go.RowKit Go.Maps
attribute [local go_sem] Oper.semAt_some

set_option maxRecDepth 100000 in
set_option maxHeartbeats 4000000 in
theorem canon_any (s : ByteArray) (w : World) (hT : Hid (RowsAt w ∧ BytesAt w ∧ 1 < w.heap.size)) (hs : s.size ≤ 1048576) :
    Calls Tryz.prog 3 #[.string s] w fun e w' => e = .returned (.bool true) ∧ Below w.heap.size w w' := by
  have hT1 := hide (fun (W : World) (d : Below w.heap.size w W) => show RowsAt W ∧ BytesAt W ∧ 1 < W.heap.size from
    ⟨hT.out.1.below d (by have := hT.out.2.2; omega), hT.out.2.1.below d hT.out.2.2, Nat.lt_of_lt_of_le hT.out.2.2 d.size⟩)
  rcases err_two s with he | he
  · have P1 := parse_read s w hT (by omega) he
    have HL := hide (len_T s (by omega) he)
    go_enter Tryz.func3, Tryz.ntmps3
    go_wp2_with fail
    refine P1.mono ?_
    rintro e w1 ⟨ao, co, asx, cs, an, cn, ar, cr, rfl, qo, qs, qn, qr, d1⟩
    have HQ := hide (And.intro qo (And.intro qs (And.intro qn qr)))
    have HD1 := hide d1
    clear qo qs qn qr d1 P1
    have hz : (w1.alloc (.cells #[.string ⟨#[]⟩, .slice none 0 0, .slice none 0 0, .slice none 0 0, .slice none 0 0] 26)).alloc (.cells #[.int .i64 0, .int .i64 0] 29) = two31 w1 := rfl
    obtain ⟨⟨o0, o1, o2, o3, o4⟩, ⟨p0, p1⟩, ⟨f0, f1, f2, f3, f4⟩, g0, g1⟩ := two31_cells w1
    have HS := hide (two31_set w1 (.string (tT s)) (.slice ao (oT s).length co) (.slice asx (sT s).length cs) (.slice an (fT s).length cn) (.slice ar (rT s).length cr) (.int .i64 0) (.int .i64 0))
    go_wp2_with fail
    obtain ⟨W3, hW3⟩ : ∃ W3, (((((((two31 w1).setCell ⟨w1.heap.size, 0, none⟩ (.string (tT s))).setCell ⟨w1.heap.size, 1, none⟩ (.slice ao (oT s).length co)).setCell ⟨w1.heap.size, 2, none⟩ (.slice asx (sT s).length cs)).setCell ⟨w1.heap.size, 3, none⟩ (.slice an (fT s).length cn)).setCell ⟨w1.heap.size, 4, none⟩ (.slice ar (rT s).length cr)).setCell ⟨w1.heap.size + 1, 0, none⟩ (.int .i64 0)).setCell ⟨w1.heap.size + 1, 1, none⟩ (.int .i64 0) = W3 := ⟨_, rfl⟩
    rw [hW3]
    have HS3 : Hid (W3.heap[w1.heap.size]? = some (.cells #[.string (tT s), .slice ao (oT s).length co, .slice asx (sT s).length cs, .slice an (fT s).length cn, .slice ar (rT s).length cr] 26 (0, 0)) ∧ W3.heap[w1.heap.size + 1]? = some (.cells #[.int .i64 0, .int .i64 0] 29 (0, 0)) ∧ Below w1.heap.size w1 W3 ∧ w1.heap.size + 2 ≤ W3.heap.size) := hide (by rw [← hW3]; exact HS.out)
    have HD3 := hide (HD1.out.trans (HS3.out.2.2.1.mono HD1.out.size))
    clear HS hW3 hz o0 o1 o2 o3 o4 p0 p1 f0 f1 f2 f3 f4 g0 g1
    -- what the first content's cells are, later on
    have k0 : ∀ (j : Nat) (v : Value), #[Value.string (tT s), .slice ao (oT s).length co, .slice asx (sT s).length cs, .slice an (fT s).length cn, .slice ar (rT s).length cr][j]? = some v → ∀ W, Below W3.heap.size W3 W → W.cell? ⟨w1.heap.size, j, none⟩ = some v := fun j v hv W d => cell_of ((d.block _ (by have := HS3.out.2.2.2; omega)).trans HS3.out.1) hv
    have k1 : ∀ (j : Nat) (v : Value), #[Value.int .i64 0, .int .i64 0][j]? = some v → ∀ W, Below W3.heap.size W3 W → W.cell? ⟨w1.heap.size + 1, j, none⟩ = some v := fun j v hv W d => cell_of ((d.block _ (by have := HS3.out.2.2.2; omega)).trans HS3.out.2.1) hv
    have HK := hide (And.intro k0 k1)
    clear k0 k1
    have C1 := rf.rcheck_any s W3 (by omega)
    rw [he] at C1
    refine C1.mono ?_
    rintro e w4 ⟨rfl, d4⟩
    have HD4 := hide d4
    have c0 := HK.out.1 0 _ rfl w4 d4
    have c1 := HK.out.1 1 _ rfl w4 d4
    have c2 := HK.out.1 2 _ rfl w4 d4
    have c3 := HK.out.1 3 _ rfl w4 d4
    have c4 := HK.out.1 4 _ rfl w4 d4
    clear C1 d4
    go_wp2_with fail
    have hl : (oT s).length ≤ 4194304 ∧ (sT s).length ≤ 4194304 ∧ (fT s).length ≤ 4194304 ∧ (rT s).length ≤ 4194304 := by obtain ⟨a, b, c, d⟩ := HL.out; exact ⟨by omega, by omega, by omega, by omega⟩
    have D14 := hide (HS3.out.2.2.1.trans (HD4.out.mono (by have := HS3.out.2.2.2; omega)))
    have DW4 := hide (HD1.out.trans (D14.out.mono HD1.out.size))
    refine (print_read s w4 ao asx an ar co cs cn cr (hide (hT1.out w4 DW4.out).2) hl he (hide (HQ.out.1.on D14.out)) (hide (HQ.out.2.1.below D14.out)) (hide (HQ.out.2.2.1.below D14.out)) (hide (HQ.out.2.2.2.on D14.out))).mono ?_
    rintro e w5 ⟨rfl, d5⟩
    have D45 := hide (HD4.out.trans (d5.mono HD4.out.size))
    have DW5 := hide (DW4.out.trans (d5.mono DW4.out.size))
    have D15 := hide (D14.out.trans (d5.mono D14.out.size))
    clear c0 c1 c2 c3 c4 d5
    obtain ⟨e0, e1, e2, e3, e4, e5⟩ := can_T s he
    have P2 := parse_read (canT s) w5 (hide (hT1.out w5 DW5.out)) (can_size s hs he) e0
    rw [e1, e2, e3, e4, e5] at P2
    clear e0 e1 e2 e3 e4 e5
    go_wp2_with fail
    refine P2.mono ?_
    rintro e w6 ⟨bo, eo, bs, es, bn, en, br, er, rfl, qo, qs, qn, qr, d6⟩
    have HR := hide (And.intro qo (And.intro qs (And.intro qn qr)))
    have HD6 := hide d6
    clear qo qs qn qr d6 P2
    have hz : (w6.alloc (.cells #[.string ⟨#[]⟩, .slice none 0 0, .slice none 0 0, .slice none 0 0, .slice none 0 0] 26)).alloc (.cells #[.int .i64 0, .int .i64 0] 29) = two31 w6 := rfl
    obtain ⟨⟨o0, o1, o2, o3, o4⟩, ⟨p0, p1⟩, ⟨f0, f1, f2, f3, f4⟩, g0, g1⟩ := two31_cells w6
    have HS := hide (two31_set w6 (.string (tT s)) (.slice bo (oT s).length eo) (.slice bs (sT s).length es) (.slice bn (fT s).length en) (.slice br (rT s).length er) (.int .i64 0) (.int .i64 0))
    go_wp2_with fail
    obtain ⟨W7, hW7⟩ : ∃ W7, (((((((two31 w6).setCell ⟨w6.heap.size, 0, none⟩ (.string (tT s))).setCell ⟨w6.heap.size, 1, none⟩ (.slice bo (oT s).length eo)).setCell ⟨w6.heap.size, 2, none⟩ (.slice bs (sT s).length es)).setCell ⟨w6.heap.size, 3, none⟩ (.slice bn (fT s).length en)).setCell ⟨w6.heap.size, 4, none⟩ (.slice br (rT s).length er)).setCell ⟨w6.heap.size + 1, 0, none⟩ (.int .i64 0)).setCell ⟨w6.heap.size + 1, 1, none⟩ (.int .i64 0) = W7 := ⟨_, rfl⟩
    rw [hW7]
    have HS7 : Hid (W7.heap[w6.heap.size]? = some (.cells #[.string (tT s), .slice bo (oT s).length eo, .slice bs (sT s).length es, .slice bn (fT s).length en, .slice br (rT s).length er] 26 (0, 0)) ∧ W7.heap[w6.heap.size + 1]? = some (.cells #[.int .i64 0, .int .i64 0] 29 (0, 0)) ∧ Below w6.heap.size w6 W7 ∧ w6.heap.size + 2 ≤ W7.heap.size) := hide (by rw [← hW7]; exact HS.out)
    clear HS hW7 hz o0 o1 o2 o3 o4 p0 p1 f0 f1 f2 f3 f4 g0 g1
    have D57 := hide (HD6.out.trans (HS7.out.2.2.1.mono HD6.out.size))
    have DW7 := hide (DW5.out.trans (D57.out.mono DW5.out.size))
    have D17 := hide (D15.out.trans (D57.out.mono D15.out.size))
    have D47 := hide (D45.out.trans (D57.out.mono D45.out.size))
    refine (print_read s W7 bo bs bn br eo es en er (hide (hT1.out W7 DW7.out).2) hl he (hide (HR.out.1.on HS7.out.2.2.1)) (hide (HR.out.2.1.below HS7.out.2.2.1)) (hide (HR.out.2.2.1.below HS7.out.2.2.1)) (hide (HR.out.2.2.2.on HS7.out.2.2.1))).mono ?_
    rintro e w8 ⟨rfl, d8⟩
    have HD8 := hide d8
    have D48 := hide (D47.out.trans (d8.mono D47.out.size))
    have D18 := hide (D17.out.trans (d8.mono D17.out.size))
    have D68 := hide (HS7.out.2.2.1.trans (d8.mono HS7.out.2.2.1.size))
    have DW8 := hide (DW7.out.trans (d8.mono DW7.out.size))
    have c0 := HK.out.1 0 _ rfl w8 D48.out
    have c1 := HK.out.1 1 _ rfl w8 D48.out
    have c2 := HK.out.1 2 _ rfl w8 D48.out
    have c3 := HK.out.1 3 _ rfl w8 D48.out
    have c4 := HK.out.1 4 _ rfl w8 D48.out
    have u0 := HK.out.2 0 _ rfl w8 D48.out
    have u1 := HK.out.2 1 _ rfl w8 D48.out
    have b8 : w8.heap[w6.heap.size]? = _ := (d8.block _ (by have := HS7.out.2.2.2; omega)).trans HS7.out.1
    have b9 : w8.heap[w6.heap.size + 1]? = _ := (d8.block _ (by have := HS7.out.2.2.2; omega)).trans HS7.out.2.1
    have y0 : w8.cell? ⟨w6.heap.size, 0, none⟩ = some (.string (tT s)) := cell_of b8 rfl
    have y1 : w8.cell? ⟨w6.heap.size, 1, none⟩ = some (.slice bo (oT s).length eo) := cell_of b8 rfl
    have y2 : w8.cell? ⟨w6.heap.size, 2, none⟩ = some (.slice bs (sT s).length es) := cell_of b8 rfl
    have y3 : w8.cell? ⟨w6.heap.size, 3, none⟩ = some (.slice bn (fT s).length en) := cell_of b8 rfl
    have y4 : w8.cell? ⟨w6.heap.size, 4, none⟩ = some (.slice br (rT s).length er) := cell_of b8 rfl
    have x0 : w8.cell? ⟨w6.heap.size + 1, 0, none⟩ = some (.int .i64 0) := cell_of b9 rfl
    have x1 : w8.cell? ⟨w6.heap.size + 1, 1, none⟩ = some (.int .i64 0) := cell_of b9 rfl
    clear d8 b8 b9
    have SE := same_eq w8 (tT s) (oT s) (sT s) (fT s) (rT s) ao asx an ar bo bs bn br co cs cn cr eo es en er (hide ⟨HQ.out.1.on D18.out, HR.out.1.on D68.out⟩) (hide ⟨HQ.out.2.1.below D18.out, HR.out.2.1.below D68.out⟩) (hide ⟨HQ.out.2.2.1.below D18.out, HR.out.2.2.1.below D68.out⟩) (hide ⟨HQ.out.2.2.2.on D18.out, HR.out.2.2.2.on D68.out⟩) hl.1 hl.2.1 hl.2.2.1 hl.2.2.2
    go_wp2_with (first
      | (go_at_call 9; refine SE.mono ?_; rintro e w9 ⟨rfl, d9⟩)
      | (go_at_call 10; refine (least_any w9 (hide (hT1.out w9 (DW8.out.trans (d9.mono DW8.out.size))))).mono ?_; rintro e w10 ⟨rfl, d10⟩))
    go_ret
    refine ⟨?_, (DW8.out.trans (d9.mono DW8.out.size)).trans (d10.mono (DW8.out.trans (d9.mono DW8.out.size)).size)⟩
    simp
  · have P1 := parse_bad s w (hide ⟨hT.out.1, by have := hT.out.2.2; omega⟩) (by omega) he
    obtain ⟨n, hn⟩ : ∃ n, lenF s = n := ⟨_, rfl⟩
    have HN := hide hn
    rw [hn] at P1
    go_enter Tryz.func3, Tryz.ntmps3
    go_wp2_with fail
    refine P1.mono ?_
    rintro e w1 ⟨rfl, d1⟩
    have HD1 := hide d1
    clear d1 P1
    have hz : (w1.alloc (.cells #[.string ⟨#[]⟩, .slice none 0 0, .slice none 0 0, .slice none 0 0, .slice none 0 0] 26)).alloc (.cells #[.int .i64 0, .int .i64 0] 29) = two31 w1 := rfl
    obtain ⟨⟨o0, o1, o2, o3, o4⟩, ⟨p0, p1⟩, ⟨f0, f1, f2, f3, f4⟩, g0, g1⟩ := two31_cells w1
    have HS := hide (two31_set w1 (.string ⟨#[]⟩) (.slice none 0 0) (.slice none 0 0) (.slice none 0 0) (.slice none 0 0) (.int .i64 30) (.int .i64 (n : Nat)))
    go_wp2_with fail
    obtain ⟨W3, hW3⟩ : ∃ W3, (((((((two31 w1).setCell ⟨w1.heap.size, 0, none⟩ (.string ⟨#[]⟩)).setCell ⟨w1.heap.size, 1, none⟩ (.slice none 0 0)).setCell ⟨w1.heap.size, 2, none⟩ (.slice none 0 0)).setCell ⟨w1.heap.size, 3, none⟩ (.slice none 0 0)).setCell ⟨w1.heap.size, 4, none⟩ (.slice none 0 0)).setCell ⟨w1.heap.size + 1, 0, none⟩ (.int .i64 30)).setCell ⟨w1.heap.size + 1, 1, none⟩ (.int .i64 (n : Nat)) = W3 := ⟨_, rfl⟩
    rw [hW3]
    have HS3 : Hid (W3.heap[w1.heap.size]? = some (.cells #[.string ⟨#[]⟩, .slice none 0 0, .slice none 0 0, .slice none 0 0, .slice none 0 0] 26 (0, 0)) ∧ W3.heap[w1.heap.size + 1]? = some (.cells #[.int .i64 30, .int .i64 (n : Nat)] 29 (0, 0)) ∧ Below w1.heap.size w1 W3 ∧ w1.heap.size + 2 ≤ W3.heap.size) := hide (by rw [← hW3]; exact HS.out)
    clear HS hW3 hz o0 o1 o2 o3 o4 p0 p1 f0 f1 f2 f3 f4 g0 g1
    have C1 := rf.rcheck_any s W3 (by omega)
    rw [he, HN.out] at C1
    refine C1.mono ?_
    rintro e w4 ⟨rfl, d4⟩
    have HD4 := hide (HD1.out.trans ((HS3.out.2.2.1.trans (d4.mono (by have := HS3.out.2.2.2; omega))).mono HD1.out.size))
    have b8 : w4.heap[w1.heap.size]? = _ := (d4.block _ (by have := HS3.out.2.2.2; omega)).trans HS3.out.1
    have b9 : w4.heap[w1.heap.size + 1]? = _ := (d4.block _ (by have := HS3.out.2.2.2; omega)).trans HS3.out.2.1
    have y0 : w4.cell? ⟨w1.heap.size, 0, none⟩ = some (.string ⟨#[]⟩) := cell_of b8 rfl
    have y1 : w4.cell? ⟨w1.heap.size, 1, none⟩ = some (.slice none 0 0) := cell_of b8 rfl
    have y2 : w4.cell? ⟨w1.heap.size, 2, none⟩ = some (.slice none 0 0) := cell_of b8 rfl
    have y3 : w4.cell? ⟨w1.heap.size, 3, none⟩ = some (.slice none 0 0) := cell_of b8 rfl
    have y4 : w4.cell? ⟨w1.heap.size, 4, none⟩ = some (.slice none 0 0) := cell_of b8 rfl
    have x0 : w4.cell? ⟨w1.heap.size + 1, 0, none⟩ = some (.int .i64 30) := cell_of b9 rfl
    have x1 : w4.cell? ⟨w1.heap.size + 1, 1, none⟩ = some (.int .i64 (n : Nat)) := cell_of b9 rfl
    clear C1 d4 b8 b9
    have none0 : ReadsS w4 none [] := fun k hk => by simp at hk
    have SE := same_eq w4 ⟨#[]⟩ [] [] [] [] none none none none none none none none 0 0 0 0 0 0 0 0 (hide ⟨fun k hk => by simp at hk, fun k hk => by simp at hk⟩) (hide ⟨none0, none0⟩) (hide ⟨none0, none0⟩) (hide ⟨fun k hk => by simp at hk, fun k hk => by simp at hk⟩) (by simp) (by simp) (by simp) (by simp)
    simp only [List.length_nil] at SE
    go_wp2_with (first
      | (go_at_call 9; refine SE.mono ?_; rintro e w9 ⟨rfl, d9⟩)
      | (go_at_call 10; refine (least_any w9 (hide (hT1.out w9 (HD4.out.trans (d9.mono HD4.out.size))))).mono ?_; rintro e w10 ⟨rfl, d10⟩))
    go_ret
    refine ⟨?_, (HD4.out.trans (d9.mono HD4.out.size)).trans (d10.mono (HD4.out.trans (d9.mono HD4.out.size)).size)⟩
    simp
end Go.Proofs.YtmagchclmmphaaaGreatDoor
