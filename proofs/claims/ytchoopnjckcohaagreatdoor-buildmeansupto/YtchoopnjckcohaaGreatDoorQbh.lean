import Derived.Test.YtchoopnjckcohaaGreatDoorQbg
set_option maxRecDepth 100000
set_option maxHeartbeats 40000000
namespace Go.Proofs.YtchoopnjckcohaaGreatDoor
open Go.RowKit Go.Maps Go.Shelf
attribute [local go_sem] Oper.semAt_some
theorem right_bad (w : World) (ao : Option Addr) (nl cl : Nat) (n m : Int) (a1 a2 a3 : Option Addr) (c1 c2 c3 : Nat) (Sa Fa : List Int) (Ea : List EdT) (hA : Hid (RdA w a1 a2 a3 Sa Fa Ea)) (h1 : Sa.length ≤ 4194304) (h2 : Fa.length ≤ 4194304) (h3 : Ea.length ≤ 4194304) (_hc : Ea.length ≤ c3) (em : mayA n m Sa Fa Ea = false) :
 Calls Tryz.prog 29 #[.agg #[.int .i64 n, .int .i64 m, .slice a1 Sa.length c1, .slice a2 Fa.length c2, .slice a3 Ea.length c3], .slice ao nl cl] w (AnsO w (badA 2)) := by
 obtain ⟨W0, hW0⟩ : ∃ W0, (w.alloc (.cells #[.int .i64 n, .int .i64 m, .slice a1 Sa.length c1, .slice a2 Fa.length c2, .slice a3 Ea.length c3] 25)).alloc (.cells #[.int .i64 0, .int .i64 0, .slice none 0 0, .slice none 0 0, .slice none 0 0] 25) = W0 := ⟨_, rfl⟩
 have HD := hide (box2 w #[.int .i64 n, .int .i64 m, .slice a1 Sa.length c1, .slice a2 Fa.length c2, .slice a3 Ea.length c3] #[.int .i64 0, .int .i64 0, .slice none 0 0, .slice none 0 0, .slice none 0 0] 25)
 rw [hW0] at HD
 have TN := reverse_bad W0 n m a1 a2 a3 c1 c2 c3 Sa Fa Ea (hide (hA.out.on HD.out.1)) h1 h2 h3 em
 clear em
 obtain ⟨y0, y1, y2, y3, y4⟩ := zd5 HD.out.2.1 rfl rfl rfl rfl rfl
 go_enter Tryz.func29, Tryz.ntmps29
 go_upto_region 3 with (go_at_call 61; refine TN.mono ?_; rintro e w1 ⟨rfl, D1⟩; have H1 := hide D1; clear D1)
 clear TN y0 y1 y2 y3 y4
 obtain ⟨W1, hW1⟩ : ∃ W, w1.alloc (.cells #[.int .i64 0, .int .i64 0, .slice none 0 0, .slice none 0 0, .slice none 0 0] 25) = W := ⟨_, rfl⟩
 have HW : Hid (W1.heap[w.heap.size + 1]? = some (.cells #[.int .i64 0, .int .i64 0, .slice none 0 0, .slice none 0 0, .slice none 0 0] 25 (0, 0)) ∧ w.heap.size + 2 ≤ W1.heap.size ∧ Below w.heap.size w W1) := hide (by
  have k : Below w1.heap.size w1 W1 := by rw [← hW1]; exact (Below.refl _ _).alloc (Nat.le_refl _) _
  have d2 := H1.out.trans (k.mono H1.out.size)
  have s := HD.out.2.2.2
  exact ⟨blk_on HD.out.2.2.1 d2, by have := d2.size; omega, HD.out.1.trans (d2.mono HD.out.1.size)⟩)
 rw [hW1]
 clear hW1 H1
 have F4 := HW.out.1
 obtain ⟨o0, o1, o2, o3, o4⟩ := zd5 F4 rfl rfl rfl rfl rfl
 have fz0 : W1.frozen? ⟨w.heap.size + 1, 0, none⟩ = false := fz_of F4
 have fz1 : W1.frozen? ⟨w.heap.size + 1, 1, none⟩ = false := fz_of F4
 have fz2 : W1.frozen? ⟨w.heap.size + 1, 2, none⟩ = false := fz_of F4
 have fz3 : W1.frozen? ⟨w.heap.size + 1, 3, none⟩ = false := fz_of F4
 have fz4 : W1.frozen? ⟨w.heap.size + 1, 4, none⟩ = false := fz_of F4
 have O6 := hide (And.intro (set5 W1 (w.heap.size + 1) _ _ _ _ _ (.int .i64 0) (.int .i64 0) (.slice none 0 0) (.slice none 0 0) (.slice none 0 0) 25 F4) (only5 W1 (w.heap.size + 1) (.int .i64 0) (.int .i64 0) (.slice none 0 0) (.slice none 0 0) (.slice none 0 0)))
 clear F4
 go_wp2_with fail
 refine bodyPost_ret (results_c1 (p := 4) (q := 5) (ty := 25) rfl _ _ (w.heap.size + 1) 25 _ (0, 0) _ _ rfl rfl O6.out.1 Tryz.underlying25 rfl (by kernel_rfl)) rfl ?_
 have s2 := HW.out.2.1
 exact ansO_bad rfl (HW.out.2.2.trans (O6.out.2.toBelow (by omega) (fun k hk => by omega)))
theorem right_word (w : World) (n m : Int) (a1 a2 a3 : Option Addr) (c1 c2 c3 : Nat) (St Fi : List Int) (Ed : List EdT) (hA : Hid (RdA w a1 a2 a3 St Fi Ed)) (h1 : St.length ≤ 4194304) (h2 : Fi.length ≤ 4194304) (h3 : Ed.length ≤ 4194304) (aw : Option Addr) (cw : Nat) (Wd : List Int) (hU : Hid (RdN w aw Wd)) (hw : Wd.length ≤ 4194304) (em : mayA n m St Fi Ed = true) (hw7 : Wd.all (inB m) = false) :
 Calls Tryz.prog 29 #[.agg #[.int .i64 n, .int .i64 m, .slice a1 St.length c1, .slice a2 Fi.length c2, .slice a3 Ed.length c3], .slice aw Wd.length cw] w (AnsO w (badA 7)) := by
 obtain ⟨W0, hW0⟩ : ∃ W0, (w.alloc (.cells #[.int .i64 n, .int .i64 m, .slice a1 St.length c1, .slice a2 Fi.length c2, .slice a3 Ed.length c3] 25)).alloc (.cells #[.int .i64 0, .int .i64 0, .slice none 0 0, .slice none 0 0, .slice none 0 0] 25) = W0 := ⟨_, rfl⟩
 have HD := hide (box2 w #[.int .i64 n, .int .i64 m, .slice a1 St.length c1, .slice a2 Fi.length c2, .slice a3 Ed.length c3] #[.int .i64 0, .int .i64 0, .slice none 0 0, .slice none 0 0, .slice none 0 0] 25)
 rw [hW0] at HD
 obtain ⟨cy0, cy1, cy2, cy3, cy4⟩ := zd5 HD.out.2.1 rfl rfl rfl rfl rfl
 have e1 : wordErr n m (riseL Fi) (riseL St) (riseE (turnE Ed)) Wd.reverse = 7 := by
  unfold wordErr
  rw [if_pos (may_turn em), List.all_reverse, hw7]
  rfl
 have E1' := hide e1
 have TE : Hid (∀ W, Below w.heap.size w W → Calls Tryz.prog 38 #[.agg #[.int .i64 n, .int .i64 m, .slice a1 St.length c1, .slice a2 Fi.length c2, .slice a3 Ed.length c3], .slice none 0 0, .int .i64 7] W fun e w' => e = .returned (.tuple #[.agg #[.int .i64 0, .int .i64 0, .slice none 0 0, .slice none 0 0, .slice none 0 0], .int .i64 7]) ∧ Below W.heap.size W w') := hide (fun W d => ending_bad W n m a1 a2 a3 c1 c2 c3 St Fi Ed (hide (hA.out.on d)) h1 h2 h3 (.slice none 0 0) 7 (by decide))
 clear e1 hw7
 have TR : Calls Tryz.prog 61 #[.agg #[.int .i64 n, .int .i64 m, .slice a1 St.length c1, .slice a2 Fi.length c2, .slice a3 Ed.length c3]] W0 (AnsO W0 ⟨n, m, riseL Fi, riseL St, riseE (turnE Ed), 0⟩) := by
  have q := reverse_ans W0 n m a1 a2 a3 c1 c2 c3 St Fi Ed (hide (hA.out.on HD.out.1)) h1 h2 h3
  rwa [show revAns n m St Fi Ed = ⟨n, m, riseL Fi, riseL St, riseE (turnE Ed), 0⟩ from if_pos em] at q
 have HLn : Hid ((riseL Fi).length ≤ 4194304 ∧ (riseL St).length ≤ 4194304 ∧ (riseE (turnE Ed)).length ≤ 4194304) := hide ⟨Nat.le_trans (riseL_len Fi) h2, Nat.le_trans (riseL_len St) h1, Nat.le_trans (riseE_len _) (by rw [show (turnE Ed).length = Ed.length by simp [turnE]]; exact h3)⟩
 clear em
 generalize riseL Fi = F1 at *
 generalize riseL St = S1 at *
 generalize riseE (turnE Ed) = E1 at *
 obtain ⟨nw, hnw⟩ : ∃ k, Wd.length = k := ⟨_, rfl⟩
 rw [hnw] at hw ⊢
 have HNW := hide hnw
 clear hnw
 go_enter Tryz.func29, Tryz.ntmps29
 go_upto_region 4 with (go_at_call 61; refine TR.mono ?_; rintro e w1 ⟨x1, y1, x2, y2, x3, y3, rfl, O1, D1⟩; have H1 := hide (And.intro O1.out D1); clear O1 D1)
 clear TR cy0 cy1 cy2 cy3 cy4
 obtain ⟨W1, hW1⟩ : ∃ W, w1.alloc (.cells #[.int .i64 n, .int .i64 m, .slice x1 F1.length y1, .slice x2 S1.length y2, .slice x3 E1.length y3] 25) = W := ⟨_, rfl⟩
 have HW : Hid (W1.heap[w1.heap.size]? = some (.cells #[.int .i64 n, .int .i64 m, .slice x1 F1.length y1, .slice x2 S1.length y2, .slice x3 E1.length y3] 25 (0, 0)) ∧ RdA W1 x1 x2 x3 F1 S1 E1 ∧ Below W0.heap.size W0 W1) := hide (by
  have k : Below w1.heap.size w1 W1 := by rw [← hW1]; exact (Below.refl _ _).alloc (Nat.le_refl _) _
  have z := World.alloc_heap_new w1 (.cells #[.int .i64 n, .int .i64 m, .slice x1 F1.length y1, .slice x2 S1.length y2, .slice x3 E1.length y3] 25)
  rw [hW1] at z
  exact ⟨z, (OwnO.rd H1.out.1).on k, H1.out.2.trans (k.mono H1.out.2.size)⟩)
 rw [hW1]
 clear hW1 H1
 have DW : Hid (Below w.heap.size w W1) := hide (HD.out.1.trans (HW.out.2.2.mono HD.out.1.size))
 have TC := clone_own W1 aw nw cw Wd HNW.out (hide (hU.out.on DW.out)) (by omega)
 go_upto_region 5 with (go_at_call 62; refine TC.mono ?_; rintro e w2 ⟨v2, rfl, H2⟩)
 clear TC
 have TV := reverse_own w2 W1.heap.size nw v2 Wd HNW.out.symm H2.out.1 (by omega)
 obtain ⟨z2, u2, rfl⟩ := own_slice H2.out.1
 go_upto_region 6 with (go_at_call 63; refine TV.mono ?_; rintro e w3 ⟨rfl, O3, G3⟩; have H3 : Hid (w3.ownsRow W1.heap.size 3 1 (.slice z2 nw u2) nw (Wd.reverse.map (Value.int .i64)) ∧ Below W1.heap.size W1 w3) := hide ⟨O3, H2.out.2.trans ((grown_only G3).toBelow H2.out.2.size (fun k hk => (H2.out.1.lt k hk).1))⟩; clear O3 G3)
 clear TV H2
 have HRW : Hid (RdN w3 z2 Wd.reverse) := hide (own_rdN (by have q := H3.out.1; rw [← HNW.out, ← List.length_reverse] at q; exact q))
 have hrl : Wd.reverse.length = nw := by rw [List.length_reverse]; exact HNW.out
 obtain ⟨r0, r1, r2, r3, r4⟩ := zd5 (blk_on HW.out.1 H3.out.2) rfl rfl rfl rfl rfl
 have TA := After_bad w3 n m x1 x2 x3 z2 y1 y2 y3 u2 F1 S1 E1 Wd.reverse (hide (HW.out.2.1.on H3.out.2)) HRW HLn.out.1 HLn.out.2.1 HLn.out.2.2 (by omega) (by rw [E1'.out]; decide)
 rw [E1'.out, hrl] at TA
 go_upto_region 7 with (go_at_call 51; refine TA.mono ?_; rintro e w4 ⟨rfl, D4⟩; have H4 := hide D4; clear D4)
 clear TA r0 r1 r2 r3 r4
 have D4 : Hid (Below W0.heap.size W0 w4) := hide (by
  have q := HW.out.2.2.trans (H3.out.2.mono HW.out.2.2.size)
  exact q.trans (H4.out.mono q.size))
 have D4w : Hid (Below w.heap.size w w4) := hide (HD.out.1.trans (D4.out.mono HD.out.1.size))
 obtain ⟨cy0, cy1, cy2, cy3, cy4⟩ := zd5 (blk_on HD.out.2.1 D4.out) rfl rfl rfl rfl rfl
 go_wp2_with (go_at_call 38; refine (TE.out w4 D4w.out).mono ?_; rintro e w5 ⟨rfl, D5⟩; have H5 := hide D5; clear D5; have F4 := blk_on (blk_on HD.out.2.2.1 D4.out) H5.out; obtain ⟨o0, o1, o2, o3, o4⟩ := zd5 F4 rfl rfl rfl rfl rfl; have fz0 : w5.frozen? ⟨w.heap.size + 1, 0, none⟩ = false := fz_of F4; have fz1 : w5.frozen? ⟨w.heap.size + 1, 1, none⟩ = false := fz_of F4; have fz2 : w5.frozen? ⟨w.heap.size + 1, 2, none⟩ = false := fz_of F4; have fz3 : w5.frozen? ⟨w.heap.size + 1, 3, none⟩ = false := fz_of F4; have fz4 : w5.frozen? ⟨w.heap.size + 1, 4, none⟩ = false := fz_of F4; have O6 := hide (And.intro (set5 w5 (w.heap.size + 1) _ _ _ _ _ (.int .i64 0) (.int .i64 0) (.slice none 0 0) (.slice none 0 0) (.slice none 0 0) 25 F4) (only5 w5 (w.heap.size + 1) (.int .i64 0) (.int .i64 0) (.slice none 0 0) (.slice none 0 0) (.slice none 0 0))); clear F4)
 refine bodyPost_ret (results_c1 (p := 4) (q := 5) (ty := 25) rfl _ _ (w.heap.size + 1) 25 _ (0, 0) _ _ rfl rfl O6.out.1 Tryz.underlying25 rfl (by kernel_rfl)) rfl ?_
 have s1 := HD.out.2.2.2
 have d5 := D4w.out.trans (H5.out.mono D4w.out.size)
 have s4 := D4w.out.size
 have s5 := H5.out.size
 have s0 := D4.out.size
 exact ansO_bad rfl (d5.trans (O6.out.2.toBelow d5.size (fun k hk => by omega)))
def wdP (n : Nat) (L : List Int) : MkP := fun x _ _ W => ∃ ad c, x = .slice ad n c ∧ RdN W ad L
theorem wdP_mono {n : Nat} {L : List Int} : MonoP (wdP n L) := fun _ _ _ _ _ _ d ⟨ad, c, e, h⟩ => ⟨ad, c, e, h.on d⟩
theorem rd_take {W : World} {ao : Option Addr} {L : List Int} (h : RdN W ao L) (k : Nat) : RdN W ao (L.take k) := fun j hj => by
 have hj2 : j < L.length := by rw [List.length_take] at hj; omega
 obtain ⟨g, o, e, c⟩ := h j hj2
 exact ⟨g, o, e, by rw [List.getElem_take]; exact c⟩
theorem rd_drop {W : World} {ao : Option Addr} {L : List Int} {cw k : Nat} (h : RdN W ao L) (hc : L.length ≤ cw) (hk : k ≤ L.length) : RdN W (if cw = k then ao else Option.map (fun x => x.add k) ao) (L.drop k) := fun j hj => by
 rw [List.length_drop] at hj
 have hj2 : k + j < L.length := by omega
 obtain ⟨g, o, rfl, c⟩ := h (k + j) hj2
 rw [if_neg (by omega)]
 refine ⟨g, o + k, ?_, ?_⟩
 · rw [Option.map_some, Addr.add_lit]
 · rw [List.getElem_drop, Nat.add_assoc]; exact c
end Go.Proofs.YtchoopnjckcohaaGreatDoor
namespace Go.Proofs.YtchoopnjckcohaaGreatDoor
open Go.RowKit Go.Maps
theorem ss_nodup {E : List EdT} (h : SsE E) : E.Nodup := h.imp fun {a b} q e => by
 subst e
 simp [ltE] at q
theorem br_long {N m : Nat} {Ed : List EdT} {Fi Bg : List Int} (hS : SsE Ed) (hF : ∀ e ∈ Ed, (0 ≤ e.1 ∧ e.1 < (N : Int)) ∧ (0 ≤ e.2.1 ∧ e.2.1 < (m : Int)) ∧ (0 ≤ e.2.2 ∧ e.2.2 < (N : Int))) : Ed.length ≤ (brL Ed Fi Bg m N).length :=
 nodup_len _ _ (ss_nodup hS) fun x hx => (mem_brL hF x).2 (.inl hx)
theorem bad_all {m : Int} : ∀ {L : List Int}, L.any (badS m) = false ↔ ∀ x ∈ L, 0 ≤ x ∧ x < m
 | [] => by simp
 | x :: L => by
  rw [List.any_cons, Bool.or_eq_false_iff, bad_all (L := L), List.forall_mem_cons]
  refine and_congr ?_ Iff.rfl
  unfold badS
  rw [decide_eq_false_iff_not]
  omega
def conA (n m n' m' : Int) (Sa Fa : List Int) (Ea : List EdT) (Sb Fb : List Int) (Eb : List EdT) : Ans := if unErr n m n' m' Sa Fa Ea Sb Fb Eb = 0 then behA (n' + n) m (if emptB (riseL Sa) (riseL Fa) then (riseL Sa) ++ movN (riseL Sb) n else (riseL Sa)) (if emptB (movN (riseL Sb) n) (movN (riseL Fb) n) then (riseL Fa) ++ movN (riseL Fb) n else movN (riseL Fb) n) (brL (riseE Ea) (riseL Fa) (movN (riseL Sb) n) m.toNat n.toNat) (movE (riseE Eb) n) else badA (unErr n m n' m' Sa Fa Ea Sb Fb Eb)
def staA (n m : Int) (Sa Fa : List Int) (Ea : List EdT) : Ans := if mayA n m Sa Fa Ea = true then (if n < 4096 then agaA (n + 1) m (movN (riseL Sa) 1) (movN (riseL Fa) 1) (brL (movE (riseE Ea) 1) (movN (riseL Fa) 1) (movN (riseL Sa) 1) m.toNat (n.toNat + 1)) else badA 8) else badA 2
noncomputable def preA (n m : Int) (Sa Fa : List Int) (Ea : List EdT) : Ans := if mayA n m Sa Fa Ea = true then ⟨n, m, riseL Sa, rchL true n m Sa Fa Ea, riseE Ea, 0⟩ else badA 2
noncomputable def sufA (n m : Int) (Sa Fa : List Int) (Ea : List EdT) : Ans := if mayA n m Sa Fa Ea = true then ⟨n, m, rchL false n m Sa Fa Ea, riseL Fa, riseE Ea, 0⟩ else badA 2
def lefA (n m : Int) (Sa Fa : List Int) (Ea : List EdT) (Wd : List Int) : Ans := if wordErr n m Sa Fa Ea Wd = 0 then ⟨n, m, aftL Ea (riseL Sa) Wd, riseL Fa, riseE Ea, 0⟩ else badA (wordErr n m Sa Fa Ea Wd)
def rigA (n m : Int) (Sa Fa : List Int) (Ea : List EdT) (Wd : List Int) : Ans := if wordErr n m Sa Fa Ea Wd = 0 then ⟨n, m, riseL Sa, aftL (riseE (turnE Ea)) (riseL Fa) Wd.reverse, riseE Ea, 0⟩ else badA (wordErr n m Sa Fa Ea Wd)
def onA (Wd : List Int) (s : Int) : Ans := if Wd.any (badS s) = true then badA 7 else if symOk s = true then (if Wd.length < 4096 then ⟨(Wd.length : Int) + 1, s, [0], [(Wd.length : Int)], oneE Wd, 0⟩ else badA 8) else badA 1
def alA (s : Int) : Ans := if symOk s = true then ⟨1, s, [0], [0], allE s.toNat, 0⟩ else badA 1
def noA (s : Int) : Ans := if symOk s = true then ⟨0, s, [], [], [], 0⟩ else badA 1
theorem mk_nat {n m : Int} {Sa Fa : List Int} {Ea : List EdT} (h : mayA n m Sa Fa Ea = true) : ∃ N m' : Nat, n = (N : Int) ∧ m = (m' : Int) ∧ N ≤ 4096 ∧ m' ≤ 128 := by
 obtain ⟨q1, q2, _⟩ := may_parts h
 exact ⟨n.toNat, m.toNat, by omega, by omega, by omega, by omega⟩
theorem un_cases (n m n' m' : Int) (Sa Fa : List Int) (Ea : List EdT) (Sb Fb : List Int) (Eb : List EdT) : (mayA n m Sa Fa Ea = false ∧ unErr n m n' m' Sa Fa Ea Sb Fb Eb = 2) ∨ (mayA n m Sa Fa Ea = true ∧ mayA n' m' Sb Fb Eb = false ∧ unErr n m n' m' Sa Fa Ea Sb Fb Eb = 2) ∨ (mayA n m Sa Fa Ea = true ∧ mayA n' m' Sb Fb Eb = true ∧ m ≠ m' ∧ unErr n m n' m' Sa Fa Ea Sb Fb Eb = 6) ∨ (mayA n m Sa Fa Ea = true ∧ mayA n' m' Sb Fb Eb = true ∧ m = m' ∧ 4096 < n + n' ∧ unErr n m n' m' Sa Fa Ea Sb Fb Eb = 8) ∨ (mayA n m Sa Fa Ea = true ∧ mayA n' m' Sb Fb Eb = true ∧ m = m' ∧ n + n' ≤ 4096 ∧ 65536 < (riseE Ea).length + (riseE Eb).length ∧ unErr n m n' m' Sa Fa Ea Sb Fb Eb = 8) ∨ (mayA n m Sa Fa Ea = true ∧ mayA n' m' Sb Fb Eb = true ∧ m = m' ∧ n + n' ≤ 4096 ∧ (riseE Ea).length + (riseE Eb).length ≤ 65536 ∧ unErr n m n' m' Sa Fa Ea Sb Fb Eb = 0) := by
 unfold unErr
 cases e1 : mayA n m Sa Fa Ea with
 | false => left; exact ⟨rfl, if_pos (.inl rfl)⟩
 | true =>
  cases e2 : mayA n' m' Sb Fb Eb with
  | false => right; left; exact ⟨rfl, rfl, if_pos (.inr rfl)⟩
  | true =>
   rw [if_neg (by simp)]
   by_cases e3 : m = m'
   · rw [if_neg (by simp [e3])]
     by_cases e4 : 4096 < n + n'
     · rw [if_pos e4]; right; right; right; left; exact ⟨rfl, rfl, e3, e4, rfl⟩
     · rw [if_neg e4]
       by_cases e5 : 65536 < (riseE Ea).length + (riseE Eb).length
       · rw [if_pos e5]; right; right; right; right; left; exact ⟨rfl, rfl, e3, by omega, e5, rfl⟩
       · rw [if_neg e5]; right; right; right; right; right; exact ⟨rfl, rfl, e3, by omega, by omega, rfl⟩
   · rw [if_pos e3]; right; right; left; exact ⟨rfl, rfl, e3, rfl⟩
theorem conA_bad {n m n' m' : Int} {Sa Fa : List Int} {Ea : List EdT} {Sb Fb : List Int} {Eb : List EdT} {er : Int} (h : unErr n m n' m' Sa Fa Ea Sb Fb Eb = er) (e0 : er ≠ 0) : conA n m n' m' Sa Fa Ea Sb Fb Eb = badA er := by
 unfold conA
 rw [h, if_neg e0]
theorem uni_bad {n m n' m' : Int} {Sa Fa : List Int} {Ea : List EdT} {Sb Fb : List Int} {Eb : List EdT} {er : Int} (h : unErr n m n' m' Sa Fa Ea Sb Fb Eb = er) (e0 : er ≠ 0) : uniAns n m n' m' Sa Fa Ea Sb Fb Eb = badA er := by
 unfold uniAns
 rw [h, if_neg e0]
theorem mk_uni (w : World) (n m : Int) (a1 a2 a3 : Option Addr) (c1 c2 c3 : Nat) (Sa Fa : List Int) (Ea : List EdT) (hA : Hid (RdA w a1 a2 a3 Sa Fa Ea)) (h1 : Sa.length ≤ 2000000) (h2 : Fa.length ≤ 2000000) (h3 : Ea.length ≤ 2000000) (n' m' : Int) (b1 b2 b3 : Option Addr) (d1 d2 d3 : Nat) (Sb Fb : List Int) (Eb : List EdT) (hB : Hid (RdA w b1 b2 b3 Sb Fb Eb)) (h4 : Sb.length ≤ 2000000) (h5 : Fb.length ≤ 2000000) (h6 : Eb.length ≤ 2000000) : Calls Tryz.prog 25 #[.agg #[.int .i64 n, .int .i64 m, .slice a1 Sa.length c1, .slice a2 Fa.length c2, .slice a3 Ea.length c3], .agg #[.int .i64 n', .int .i64 m', .slice b1 Sb.length d1, .slice b2 Fb.length d2, .slice b3 Eb.length d3]] w (AnsO w (uniAns n m n' m' Sa Fa Ea Sb Fb Eb)) := by
 exact union_made w n m n' m' a1 a2 a3 b1 b2 b3 c1 c2 c3 d1 d2 d3 Sa Fa Sb Fb Ea Eb hA hB (by omega) (by omega) (by omega) (by omega) (by omega) (by omega)
theorem mk_con (w : World) (n m : Int) (a1 a2 a3 : Option Addr) (c1 c2 c3 : Nat) (Sa Fa : List Int) (Ea : List EdT) (hA : Hid (RdA w a1 a2 a3 Sa Fa Ea)) (h1 : Sa.length ≤ 2000000) (h2 : Fa.length ≤ 2000000) (h3 : Ea.length ≤ 2000000) (n' m' : Int) (b1 b2 b3 : Option Addr) (d1 d2 d3 : Nat) (Sb Fb : List Int) (Eb : List EdT) (hB : Hid (RdA w b1 b2 b3 Sb Fb Eb)) (h4 : Sb.length ≤ 2000000) (h5 : Fb.length ≤ 2000000) (h6 : Eb.length ≤ 2000000) : Calls Tryz.prog 21 #[.agg #[.int .i64 n, .int .i64 m, .slice a1 Sa.length c1, .slice a2 Fa.length c2, .slice a3 Ea.length c3], .agg #[.int .i64 n', .int .i64 m', .slice b1 Sb.length d1, .slice b2 Fb.length d2, .slice b3 Eb.length d3]] w (AnsO w (conA n m n' m' Sa Fa Ea Sb Fb Eb)) := by
 rcases un_cases n m n' m' Sa Fa Ea Sb Fb Eb with ⟨e1, h⟩ | ⟨e1, e2, h⟩ | ⟨e1, e2, e3, h⟩ | ⟨e1, e2, e3, e4, h⟩ | ⟨e1, e2, e3, e4, e5, h⟩ | ⟨e1, e2, e3, e4, e5, h⟩
 · rw [conA_bad h (by decide)]; exact concat_a w n m n' m' a1 a2 a3 b1 b2 b3 c1 c2 c3 d1 d2 d3 Sa Fa Sb Fb Ea Eb hA hB h1 h2 h3 h4 h5 h6 e1
 · rw [conA_bad h (by decide)]; exact concat_b w n m n' m' a1 a2 a3 b1 b2 b3 c1 c2 c3 d1 d2 d3 Sa Fa Sb Fb Ea Eb hA hB h1 h2 h3 h4 h5 h6 e1 e2
 · rw [conA_bad h (by decide)]; exact concat_m w n m n' m' a1 a2 a3 b1 b2 b3 c1 c2 c3 d1 d2 d3 Sa Fa Sb Fb Ea Eb hA hB h1 h2 h3 h4 h5 h6 e1 e2 e3
 · rw [conA_bad h (by decide)]
   subst e3
   obtain ⟨N, k, rfl, rfl, _, _⟩ := mk_nat e1
   obtain ⟨M, _, rfl, _, _, _⟩ := mk_nat e2
   exact concat_big w N M k a1 a2 a3 b1 b2 b3 c1 c2 c3 d1 d2 d3 Sa Fa Sb Fb Ea Eb hA hB h1 h2 h3 h4 h5 h6 e1 e2 (by omega)
 · rw [conA_bad h (by decide)]
   subst e3
   obtain ⟨N, k, rfl, rfl, _, _⟩ := mk_nat e1
   obtain ⟨M, _, rfl, _, _, _⟩ := mk_nat e2
   have q := concat_fit w N M k a1 a2 a3 b1 b2 b3 c1 c2 c3 d1 d2 d3 Sa Fa Sb Fb Ea Eb hA hB h1 h2 h3 h4 h5 h6 e1 e2 (by omega)
   have l := br_long (Fi := riseL Fa) (Bg := movN (riseL Sb) N) (riseE_ss Ea) (may_parts (may_rise e1)).2.2.2.2.2
   unfold behA at q
   rw [movE_len, if_pos (by omega)] at q
   exact q
 · subst e3
   obtain ⟨N, k, rfl, rfl, _, _⟩ := mk_nat e1
   obtain ⟨M, _, rfl, _, _, _⟩ := mk_nat e2
   have q := concat_fit w N M k a1 a2 a3 b1 b2 b3 c1 c2 c3 d1 d2 d3 Sa Fa Sb Fb Ea Eb hA hB h1 h2 h3 h4 h5 h6 e1 e2 (by omega)
   unfold conA
   rw [if_pos h, Int.toNat_natCast, Int.toNat_natCast]
   exact q
theorem mk_sta (w : World) (n m : Int) (a1 a2 a3 : Option Addr) (c1 c2 c3 : Nat) (Sa Fa : List Int) (Ea : List EdT) (hA : Hid (RdA w a1 a2 a3 Sa Fa Ea)) (h1 : Sa.length ≤ 2000000) (h2 : Fa.length ≤ 2000000) (h3 : Ea.length ≤ 2000000) : Calls Tryz.prog 16 #[.agg #[.int .i64 n, .int .i64 m, .slice a1 Sa.length c1, .slice a2 Fa.length c2, .slice a3 Ea.length c3]] w (AnsO w (staA n m Sa Fa Ea)) := by
 unfold staA
 cases e1 : mayA n m Sa Fa Ea with
 | false => rw [if_neg (by simp)]; exact star_bad w n m a1 a2 a3 c1 c2 c3 Sa Fa Ea hA h1 h2 h3 e1
 | true =>
  rw [if_pos rfl]
  obtain ⟨N, k, rfl, rfl, _, _⟩ := mk_nat e1
  by_cases hN : N < 4096
  · rw [if_pos (by omega), Int.toNat_natCast, Int.toNat_natCast]
    exact star_fit w N k hN a1 a2 a3 c1 c2 c3 Sa Fa Ea hA h1 h2 h3 e1
  · rw [if_neg (by omega)]
    exact star_full w N k (by omega) a1 a2 a3 c1 c2 c3 Sa Fa Ea hA h1 h2 h3 e1
theorem mk_lef (w : World) (n m : Int) (a1 a2 a3 : Option Addr) (c1 c2 c3 : Nat) (Sa Fa : List Int) (Ea : List EdT) (hA : Hid (RdA w a1 a2 a3 Sa Fa Ea)) (h1 : Sa.length ≤ 2000000) (h2 : Fa.length ≤ 2000000) (h3 : Ea.length ≤ 2000000) (aw : Option Addr) (cw : Nat) (Wd : List Int) (hU : Hid (RdN w aw Wd)) (hw : Wd.length ≤ 2000000) (hT : Hid (TabAt w ∧ 0 < w.heap.size)) : Calls Tryz.prog 17 #[.slice aw Wd.length cw, .agg #[.int .i64 n, .int .i64 m, .slice a1 Sa.length c1, .slice a2 Fa.length c2, .slice a3 Ea.length c3]] w (AnsO w (lefA n m Sa Fa Ea Wd)) := by
 unfold lefA
 by_cases e0 : wordErr n m Sa Fa Ea Wd = 0
 · rw [if_pos e0]; exact left_good w n m a1 a2 a3 c1 c2 c3 Sa Fa Ea hA (by omega) (by omega) (by omega) aw cw Wd hU (by omega) hT e0
 · rw [if_neg e0]; exact left_err w n m a1 a2 a3 c1 c2 c3 Sa Fa Ea hA (by omega) (by omega) (by omega) aw cw Wd hU (by omega) _ e0 rfl
theorem word_cases (n m : Int) (Sa Fa : List Int) (Ea : List EdT) (Wd : List Int) : (mayA n m Sa Fa Ea = false ∧ wordErr n m Sa Fa Ea Wd = 2) ∨ (mayA n m Sa Fa Ea = true ∧ Wd.all (inB m) = false ∧ wordErr n m Sa Fa Ea Wd = 7) ∨ (mayA n m Sa Fa Ea = true ∧ Wd.all (inB m) = true ∧ wordErr n m Sa Fa Ea Wd = 0) := by
 unfold wordErr
 cases e1 : mayA n m Sa Fa Ea with
 | false => left; exact ⟨rfl, by simp⟩
 | true =>
  cases e2 : Wd.all (inB m) with
  | false => right; left; exact ⟨rfl, rfl, by simp⟩
  | true => right; right; exact ⟨rfl, rfl, by simp⟩
theorem mk_rig (w : World) (n m : Int) (a1 a2 a3 : Option Addr) (c1 c2 c3 : Nat) (Sa Fa : List Int) (Ea : List EdT) (hA : Hid (RdA w a1 a2 a3 Sa Fa Ea)) (h1 : Sa.length ≤ 2000000) (h2 : Fa.length ≤ 2000000) (h3 : Ea.length ≤ 2000000) (aw : Option Addr) (cw : Nat) (Wd : List Int) (hU : Hid (RdN w aw Wd)) (hw : Wd.length ≤ 2000000) (hT : Hid (TabAt w ∧ 0 < w.heap.size)) (hc : Ea.length ≤ c3) : Calls Tryz.prog 29 #[.agg #[.int .i64 n, .int .i64 m, .slice a1 Sa.length c1, .slice a2 Fa.length c2, .slice a3 Ea.length c3], .slice aw Wd.length cw] w (AnsO w (rigA n m Sa Fa Ea Wd)) := by
 unfold rigA
 rcases word_cases n m Sa Fa Ea Wd with ⟨e1, h⟩ | ⟨e1, e2, h⟩ | ⟨e1, e2, h⟩
 · rw [h, if_neg (by decide)]; exact right_bad w aw Wd.length cw n m a1 a2 a3 c1 c2 c3 Sa Fa Ea hA (by omega) (by omega) (by omega) hc e1
 · rw [h, if_neg (by decide)]; exact right_word w n m a1 a2 a3 c1 c2 c3 Sa Fa Ea hA (by omega) (by omega) (by omega) aw cw Wd hU (by omega) e1 e2
 · rw [if_pos h]
   have q := right_good w n m a1 a2 a3 c1 c2 c3 Sa Fa Ea hA (by omega) (by omega) (by omega) aw cw Wd hU (by omega) hT h
   rw [riseL_idem] at q
   exact q
theorem sym_nat {s : Int} (h : symOk s = true) : ∃ k : Nat, s = (k : Int) ∧ k ≤ 128 := by
 unfold symOk at h
 rw [decide_eq_true_eq] at h
 exact ⟨s.toNat, by omega, by omega⟩
theorem mk_one (w : World) (aw : Option Addr) (cw : Nat) (Wd : List Int) (hU : Hid (RdN w aw Wd)) (hw : Wd.length ≤ 2000000) (s : Int) : Calls Tryz.prog 20 #[.slice aw Wd.length cw, .int .i64 s] w (AnsO w (onA Wd s)) := by
 unfold onA
 cases eb : Wd.any (badS s) with
 | true => rw [if_pos rfl]; exact one_word w aw cw Wd s hU (by omega) eb
 | false =>
  rw [if_neg (by simp)]
  cases es : symOk s with
  | false =>
   rw [if_neg (by simp)]
   exact one_syms w aw cw Wd s hU (by omega) eb es
  | true =>
   rw [if_pos rfl]
   by_cases hl : Wd.length < 4096
   · rw [if_pos hl]
     obtain ⟨k, rfl, hk⟩ := sym_nat es
     refine (one_ok w aw cw Wd.length k Wd (hide rfl) hU hl hk (hide (bad_all.1 eb))).mono ?_
     intro e w' h
     obtain ⟨b1, k1, b2, k2, b3, k3, he, ho⟩ := h
     have h : AnsO w ⟨(Wd.length : Int) + 1, (k : Int), [0], [(Wd.length : Int)], oneE Wd, 0⟩ e w' := ⟨b1, k1, b2, k2, b3, k3, by rw [he]; simp [oneE_len], hide (by
      show OwnO _ _ (.slice b1 1 k1) (.slice b2 1 k2) (.slice b3 (oneE Wd).length k3) _ _ _
      rw [oneE_len]
      exact ho.out.1), ho.out.2⟩
     exact h
   · rw [if_neg hl]
     exact one_size w aw cw Wd s hU (by omega) eb es (by omega)
theorem mk_all (w : World) (s : Int) : Calls Tryz.prog 22 #[.int .i64 s] w (AnsO w (alA s)) := by
 unfold alA
 cases es : symOk s with
 | false => rw [if_neg (by simp)]; exact all_err w s es
 | true =>
  rw [if_pos rfl]
  obtain ⟨k, rfl, hk⟩ := sym_nat es
  rw [Int.toNat_natCast]
  exact all_good w k hk
theorem mk_non (w : World) (s : Int) : Calls Tryz.prog 24 #[.int .i64 s] w (AnsO w (noA s)) := by
 unfold noA
 cases es : symOk s with
 | false => rw [if_neg (by simp)]; exact none_err w s es
 | true => rw [if_pos rfl]; exact none_good w s es
noncomputable def mkA (k : Nat) (n m : Int) (Sa Fa : List Int) (Ea : List EdT) (n' m' : Int) (Sb Fb : List Int) (Eb : List EdT) (Wd : List Int) (s : Int) : Ans :=
 if k = 0 then uniAns n m n' m' Sa Fa Ea Sb Fb Eb else if k = 1 then conA n m n' m' Sa Fa Ea Sb Fb Eb else if k = 2 then staA n m Sa Fa Ea else if k = 3 then preA n m Sa Fa Ea else if k = 4 then sufA n m Sa Fa Ea else if k = 5 then lefA n m Sa Fa Ea Wd else if k = 6 then rigA n m Sa Fa Ea Wd else if k = 7 then onA Wd s else if k = 8 then alA s else noA s
open Go.Shelf
def tkA (r : Ans) (W : List Int) : Bool := tkF r.n r.m r.s r.f r.e W
theorem un_zero {n m n' m' : Int} {Sa Fa : List Int} {Ea : List EdT} {Sb Fb : List Int} {Eb : List EdT} (h : unErr n m n' m' Sa Fa Ea Sb Fb Eb = 0) : mayA n m Sa Fa Ea = true ∧ mayA n' m' Sb Fb Eb = true ∧ m = m' ∧ n + n' ≤ 4096 ∧ (riseE Ea).length + (riseE Eb).length ≤ 65536 := by
 unfold unErr at h
 split at h
 · cases h
 · split at h
   · cases h
   · split at h
     · cases h
     · split at h
       · cases h
       · rename_i h1 h2 h3 h4
         exact ⟨by cases e : mayA n m Sa Fa Ea <;> simp_all, by cases e : mayA n' m' Sb Fb Eb <;> simp_all, by omega, by omega, by omega⟩
theorem empt_iff {S F : List Int} (h : ∀ x ∈ S, 0 ≤ x) : emptB S F = true ↔ ∃ x ∈ S, x ∈ F := by
 unfold emptB
 rw [List.any_eq_true]
 refine exists_congr fun x => and_congr_right fun hx => ?_
 unfold finB
 rw [decide_eq_true_eq, Int.toNat_of_nonneg (h x hx)]
theorem rch_from {E : List EdT} {n : Int} (hE : ∀ e ∈ E, 0 ≤ e.2.2 ∧ e.2.2 < n) : ∀ (W : List Int) (p q : Int), 0 ≤ p ∧ p < n → Rch E W p q → 0 ≤ q ∧ q < n
 | [], p, q, hp, h => by cases h; exact hp
 | _ :: W, _, q, _, ⟨r, hr, h⟩ => rch_from hE W r q (hE _ hr) h
theorem all_app {m : Int} {U V : List Int} : (U ++ V).all (inB m) = true ↔ U.all (inB m) = true ∧ V.all (inB m) = true := by
 rw [List.all_append, Bool.and_eq_true]
theorem tk_con {n m n' m' : Int} {Sa Fa : List Int} {Ea : List EdT} {Sb Fb : List Int} {Eb : List EdT} (h0 : (conA n m n' m' Sa Fa Ea Sb Fb Eb).er = 0) (W : List Int) : tkA (conA n m n' m' Sa Fa Ea Sb Fb Eb) W = true ↔ ∃ U V, W = U ++ V ∧ tkF n m Sa Fa Ea U = true ∧ tkF n' m' Sb Fb Eb V = true := by
 have hu : unErr n m n' m' Sa Fa Ea Sb Fb Eb = 0 := by
  by_cases e : unErr n m n' m' Sa Fa Ea Sb Fb Eb = 0
  · exact e
  · unfold conA at h0
    rw [if_neg e] at h0
    exact h0
 obtain ⟨em, em', rfl, hnn, _⟩ := un_zero hu
 unfold conA at h0 ⊢
 rw [if_pos hu] at h0 ⊢
 obtain ⟨N, k, rfl, rfl, hN, hk⟩ := mk_nat em
 obtain ⟨M, _, rfl, _, hM, _⟩ := mk_nat em'
 simp only [Int.toNat_natCast] at h0 ⊢
 have r1 := may_rise em
 have r2 := may_rise em'
 have p1 := may_parts r1
 have p2 := may_parts r2
 have s1 := may_st r1
 have s2 := may_st r2
 simp only [tkF_iff (n := (N : Int)), tkF_iff (n := (M : Int))]
 have tr1 : ∀ U, Tak Sa Fa Ea U ↔ Tak (riseL Sa) (riseL Fa) (riseE Ea) U := fun U => tak_rise.symm
 have tr2 : ∀ U, Tak Sb Fb Eb U ↔ Tak (riseL Sb) (riseL Fb) (riseE Eb) U := fun U => tak_rise.symm
 simp only [tr1, tr2]
 have hB := mem_brL (Fi := riseL Fa) (Bg := movN (riseL Sb) (N : Int)) p1.2.2.2.2.2
 have emp1 := empt_iff (F := riseL Fa) (fun x hx => (s1.1 x hx).1)
 have emp2 := empt_iff (S := movN (riseL Sb) (N : Int)) (F := movN (riseL Fb) (N : Int)) (fun x hx => by have := (s2.1 _ (mem_mov.1 hx)).1; omega)
 unfold behA at h0 ⊢
 by_cases hbig : 65536 < (brL (riseE Ea) (riseL Fa) (movN (riseL Sb) (N : Int)) k N).length + (movE (riseE Eb) (N : Int)).length
 · rw [if_pos hbig] at h0
   cases h0
 rw [if_neg hbig]
 unfold tkA
 simp only
 rw [tkF_iff]
 generalize brL (riseE Ea) (riseL Fa) (movN (riseL Sb) (N : Int)) k N = Br at *
 generalize riseL Sa = S1 at *
 generalize riseL Fa = F1 at *
 generalize riseE Ea = E1 at *
 generalize riseL Sb = S2 at *
 generalize riseL Fb = F2 at *
 generalize riseE Eb = E2 at *
 have hE1 : ∀ e ∈ E1, e.1 < (N : Int) ∧ e.2.2 < (N : Int) := fun e he => by have := p1.2.2.2.2.2 e he; omega
 have hE2 : ∀ e ∈ E2, 0 ≤ e.1 ∧ 0 ≤ e.2.2 := fun e he => by have := p2.2.2.2.2.2 e he; omega
 have hlo := rch_con hB hE1 hE2 (fun x hx => (s2.1 x hx).1)
 have hBr : ∀ e ∈ Br, e.1 < (N : Int) := by
  intro e he
  rcases (hB e).1 he with h | ⟨⟨q, h, _⟩, _⟩
  · exact (hE1 e h).1
  · exact (hE1 _ h).1
 have hhi : ∀ (W : List Int) (p q : Int), (N : Int) ≤ p → (Rch (Br ++ movE E2 (N : Int)) W p q ↔ Rch E2 W (p - N) (q - N)) := rch_high hBr (fun e he => (hE2 e he).2)
 have in1 := rch_from (n := (N : Int)) (E := E1) (fun e he => by have := p1.2.2.2.2.2 e he; omega)
 have in2 := rch_from (n := (M : Int)) (E := E2) (fun e he => by have := p2.2.2.2.2.2 e he; omega)
 constructor
 · rintro ⟨_, hw, p, hp, q, hq, hr⟩
   have hp2 : (p ∈ S1) ∨ (p - N ∈ S2 ∧ ∃ x ∈ S1, x ∈ F1) := by
    by_cases e : emptB S1 F1 = true
    · rw [if_pos e] at hp
      rcases List.mem_append.1 hp with h | h
      · exact .inl h
      · exact .inr ⟨mem_mov.1 h, emp1.1 e⟩
    · rw [if_neg e] at hp
      exact .inl hp
   have hq2 : (q ∈ F1 ∧ ∃ x, x ∈ S2 ∧ x ∈ F2) ∨ q - N ∈ F2 := by
    by_cases e : emptB (movN S2 (N : Int)) (movN F2 (N : Int)) = true
    · rw [if_pos e] at hq
      rcases List.mem_append.1 hq with h | h
      · obtain ⟨x, x1, x2⟩ := emp2.1 e
        exact .inl ⟨h, x - N, mem_mov.1 x1, mem_mov.1 x2⟩
      · exact .inr (mem_mov.1 h)
    · rw [if_neg e] at hq
      exact .inr (mem_mov.1 hq)
   rcases hp2 with hp2 | ⟨hp2, x0, hx1, hx2⟩
   · have lp := s1.1 p hp2
     rcases (hlo W p q lp.2).1 hr with h | ⟨U, V, f, x, rfl, u1, u2, u3, u4, u5⟩
     · have lq := in1 W p q lp h
       rcases hq2 with ⟨q1, x, x1, x2⟩ | q1
       · exact ⟨W, [], by simp, ⟨em, hw, p, hp2, q, q1, h⟩, em', by simp, x, x1, x, x2, rfl⟩
       · have := (s2.2 _ q1).1
         omega
     · have lq := in2 V x _ (s2.1 x u4) u5
       rcases hq2 with ⟨q1, _⟩ | q1
       · have := (s1.2 _ q1).2
         omega
       · obtain ⟨w1, w2⟩ := all_app.1 hw
         exact ⟨U, V, rfl, ⟨em, w1, p, hp2, f, u3, u2⟩, em', w2, x, u4, q - N, q1, u5⟩
   · have lp := s2.1 _ hp2
     have h := (hhi W p q (by omega)).1 hr
     have lq := in2 W _ _ lp h
     rcases hq2 with ⟨q1, _⟩ | q1
     · have := (s1.2 _ q1).2
       omega
     · exact ⟨[], W, rfl, ⟨em, by simp, x0, hx1, x0, hx2, rfl⟩, em', hw, p - N, hp2, q - N, q1, h⟩
 · rintro ⟨U, V, rfl, ⟨_, w1, p, hp, f, hf, hr⟩, ⟨_, w2, x, hx, g, hg, hr2⟩⟩
   have hfin : g + N ∈ (if emptB (movN S2 (N : Int)) (movN F2 (N : Int)) = true then F1 ++ movN F2 (N : Int) else movN F2 (N : Int)) := by
    have : g + (N : Int) ∈ movN F2 (N : Int) := mem_mov.2 (by rw [show g + (N : Int) - N = g by omega]; exact hg)
    split
    · exact List.mem_append_right _ this
    · exact this
   refine ⟨?_, all_app.2 ⟨w1, w2⟩, ?_⟩
   · refine may_of (by omega) (by omega) (by rw [List.length_append]; omega) (fun y hy => ?_) (fun y hy => ?_) (fun e he => ?_)
     · split at hy
       · rcases List.mem_append.1 hy with h | h
         · have := s1.1 y h; omega
         · have := s2.1 _ (mem_mov.1 h); omega
       · have := s1.1 y hy; omega
     · split at hy
       · rcases List.mem_append.1 hy with h | h
         · have := s1.2 y h; omega
         · have := s2.2 _ (mem_mov.1 h); omega
       · have := s2.2 _ (mem_mov.1 hy); omega
     · rcases List.mem_append.1 he with h | h
       · rcases (hB e).1 h with h | ⟨⟨q, h, _⟩, h3⟩
         · have := p1.2.2.2.2.2 e h; omega
         · have a1 := p1.2.2.2.2.2 _ h
           have a2 := s2.1 _ (mem_mov.1 h3)
           simp only at a1
           omega
       · unfold movE at h
         obtain ⟨e', he', rfl⟩ := List.mem_map.1 h
         have := p2.2.2.2.2.2 e' he'
         simp only
         omega
   · by_cases hU : U = []
     · subst hU
       cases hr
       have e : emptB S1 F1 = true := emp1.2 ⟨p, hp, hf⟩
       rw [if_pos e]
       have lx := s2.1 x hx
       refine ⟨x + N, List.mem_append_right _ (mem_mov.2 (by rw [show x + (N : Int) - N = x by omega]; exact hx)), g + N, hfin, (hhi _ _ _ (by omega)).2 ?_⟩
       rw [show x + (N : Int) - N = x by omega, show g + (N : Int) - N = g by omega]
       exact hr2
     · refine ⟨p, ?_, g + N, hfin, (hlo _ p _ (s1.1 p hp).2).2 (.inr ⟨U, V, f, x, rfl, hU, hr, hf, hx, by rw [show g + (N : Int) - N = g by omega]; exact hr2⟩)⟩
       split
       · exact List.mem_append_left _ hp
       · exact hp
end Go.Proofs.YtchoopnjckcohaaGreatDoor
