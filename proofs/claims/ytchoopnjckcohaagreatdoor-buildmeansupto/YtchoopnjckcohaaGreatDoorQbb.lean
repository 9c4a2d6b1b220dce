import Derived.Test.YtchoopnjckcohaaGreatDoorQba
set_option maxRecDepth 100000
set_option maxHeartbeats 40000000
namespace Go.Proofs.YtchoopnjckcohaaGreatDoor
open Go.RowKit Go.Maps Go.Shelf
attribute [local go_sem] Oper.semAt_some
theorem ssI_eq : ∀ {A B : List Int}, A.Pairwise (· < ·) → B.Pairwise (· < ·) → (∀ x, x ∈ A ↔ x ∈ B) → A = B
 | [], [], _, _, _ => rfl
 | [], b :: B, _, _, h => by have := (h b).2 List.mem_cons_self; cases this
 | a :: A, [], _, _, h => by have := (h a).1 List.mem_cons_self; cases this
 | a :: A, b :: B, hA, hB, h => by
  rw [List.pairwise_cons] at hA hB
  have e : a = b := by
   have h1 := (h a).1 List.mem_cons_self
   have h2 := (h b).2 List.mem_cons_self
   rcases List.mem_cons.1 h1 with e | h1
   · exact e
   · rcases List.mem_cons.1 h2 with e | h2
     · exact e.symm
     · have := hB.1 a h1
       have := hA.1 b h2
       omega
  subst e
  refine congrArg (a :: ·) (ssI_eq hA.2 hB.2 fun x => ⟨fun hx => ?_, fun hx => ?_⟩)
  · rcases List.mem_cons.1 ((h x).1 (List.mem_cons_of_mem _ hx)) with e | h1
    · subst e; exact absurd (hA.1 x hx) (by omega)
    · exact h1
  · rcases List.mem_cons.1 ((h x).2 (List.mem_cons_of_mem _ hx)) with e | h1
    · subst e; exact absurd (hB.1 x hx) (by omega)
    · exact h1
theorem rise_old {L : List Int} {x : Int} (h : x ∈ riseL L) : riseL (L ++ [x]) = riseL L := ssI_eq (riseL_ss _) (riseL_ss _) fun y => by
 rw [riseL_iff, riseL_iff, List.mem_append, List.mem_singleton]
 rw [riseL_iff] at h
 exact ⟨fun k => k.elim id (fun e => e ▸ h), Or.inl⟩
def imgL (back : Bool) (Ed : List EdT) (Q : List Int) (sym : Int) : List Int := (Ed.filter fun e => decide (e.2.1 = sym ∧ (ends back e).1 ∈ Q)).map fun e => (ends back e).2
theorem imgL_iff {back : Bool} {Ed : List EdT} {Q : List Int} {sym x : Int} : x ∈ imgL back Ed Q sym ↔ ∃ e ∈ Ed, e.2.1 = sym ∧ (ends back e).1 ∈ Q ∧ (ends back e).2 = x := by
 unfold imgL
 simp only [List.mem_map, List.mem_filter, decide_eq_true_eq]
 exact ⟨fun ⟨e, ⟨h, a, b⟩, c⟩ => ⟨e, h, a, b, c⟩, fun ⟨e, h, a, b, c⟩ => ⟨e, ⟨h, a, b⟩, c⟩⟩
theorem imgL_len (back : Bool) (Ed : List EdT) (Q : List Int) (sym : Int) : (imgL back Ed Q sym).length ≤ Ed.length := by
 unfold imgL
 rw [List.length_map]
 exact List.length_filter_le _ _
theorem imgL_take {back : Bool} {Ed : List EdT} {Q : List Int} {sym : Int} {i : Nat} (h : i < Ed.length) : imgL back (Ed.take (i + 1)) Q sym = if Ed[i].2.1 = sym ∧ (ends back Ed[i]).1 ∈ Q then imgL back (Ed.take i) Q sym ++ [(ends back Ed[i]).2] else imgL back (Ed.take i) Q sym := by
 unfold imgL
 rw [List.take_succ_eq_append_getElem h, List.filter_append, List.map_append]
 by_cases k : Ed[i].2.1 = sym ∧ (ends back Ed[i]).1 ∈ Q
 · rw [if_pos k, List.filter_cons_of_pos (by simpa using k)]; rfl
 · rw [if_neg k, List.filter_cons_of_neg (by simpa using k)]; simp
theorem rnext_any (w : World) (n m : Int) (a1 a2 a3 q1 : Option Addr) (c1 c2 c3 cq : Nat) (St Fi : List Int) (Ed : List EdT) (Q : List Int) (sym : Int) (hA : Hid (RdA w a1 a2 a3 St Fi Ed)) (hQ : Hid (RdN w q1 Q)) (h3 : Ed.length ≤ 4194304) (hq : Q.length ≤ 4194304) :
 Calls Tryz.prog 45 #[.agg #[.int .i64 n, .int .i64 m, .slice a1 St.length c1, .slice a2 Fi.length c2, .slice a3 Ed.length c3], .slice q1 Q.length cq, .int .i64 sym] w fun e w' => ∃ b c, e = .returned (.slice b (riseL (imgL false Ed Q sym)).length c) ∧ Hid (w'.ownsRow w.heap.size 3 1 (.slice b (riseL (imgL false Ed Q sym)).length c) (riseL (imgL false Ed Q sym)).length ((riseL (imgL false Ed Q sym)).map (Value.int .i64))) ∧ Below w.heap.size w w' := by
 obtain ⟨W0, hW0⟩ : ∃ W0, w.alloc (.cells #[.int .i64 n, .int .i64 m, .slice a1 St.length c1, .slice a2 Fi.length c2, .slice a3 Ed.length c3] 25) = W0 := ⟨_, rfl⟩
 have H0 : Hid (Below w.heap.size w W0 ∧ W0.heap[w.heap.size]? = some (.cells #[.int .i64 n, .int .i64 m, .slice a1 St.length c1, .slice a2 Fi.length c2, .slice a3 Ed.length c3] 25 (0, 0))) := hide ⟨by rw [← hW0]; exact alloc_below _ _, by rw [← hW0]; exact World.alloc_heap_new _ _⟩
 go_enter Tryz.func45, Tryz.ntmps45
 go_wp2_with fail
 clear hW0
 go_loopw [7, 8] (fun ov iv wr => ∃ i b c, i ≤ Ed.length ∧ ov = .slice b (riseL (imgL false (Ed.take i) Q sym)).length c ∧ iv = .int .i64 (i : Nat) ∧ Hid (wr.ownsRow w.heap.size 3 1 (.slice b (riseL (imgL false (Ed.take i) Q sym)).length c) (riseL (imgL false (Ed.take i) Q sym)).length ((riseL (imgL false (Ed.take i) Q sym)).map (Value.int .i64)) ∧ Below W0.heap.size W0 wr)) (fun _ iv _ => Ed.length - (intOf iv).toNat)
 case atStart => exact ⟨0, none, 0, Nat.zero_le _, by rw [List.take_zero, show imgL false [] Q sym = [] from rfl, rise_nil]; rfl, rfl, hide ⟨by rw [List.take_zero, show imgL false [] Q sym = [] from rfl, rise_nil]; exact World.ownsRow_nil _ _ _ _, Below.refl _ _⟩⟩
 case round =>
  obtain ⟨i, b, c, hi, rfl, rfl, HY⟩ := hrel
  have eb := blk_on H0.out.2 HY.out.2
  have y4 : wr.cell? ⟨w.heap.size, 4, none⟩ = some (.slice a3 Ed.length c3) := cell_of eb rfl
  have dw := H0.out.1.trans (HY.out.2.mono H0.out.1.size)
  clear eb
  by_cases hlt : i < Ed.length
  · have i0 : (i : Int) < (Ed.length : Int) := by omega
    have i1 : (0 : Int) ≤ (i : Int) := by omega
    have iw : IntKind.i64.wrap ((i : Int) + 1) = (i : Int) + 1 := by rw [IntKind.wrap_i64]; omega
    obtain ⟨g, o, hao, q0, q1', q2⟩ := (hA.out.e.on dw) i hlt
    subst hao
    have hlen : (riseL (imgL false (Ed.take i) Q sym)).length ≤ 4194304 := Nat.le_trans (riseL_len _) (Nat.le_trans (imgL_len _ _ _ _) (by rw [List.length_take]; omega))
    have HT := hide (imgL_take (back := false) (Q := Q) (sym := sym) hlt)
    generalize Ed[i] = x at q0 q1' q2 HT
    obtain ⟨x1, x2, x3⟩ := x
    simp only [ends] at HT
    simp only [if_false, Bool.false_eq_true] at HT
    obtain ⟨w1, hw1⟩ : ∃ w1, wr.alloc (.cells #[.int .i64 x1, .int .i64 x2, .int .i64 x3] 61) = w1 := ⟨_, rfl⟩
    have H1 : Hid (Below wr.heap.size wr w1 ∧ w1.heap[wr.heap.size]? = some (.cells #[.int .i64 x1, .int .i64 x2, .int .i64 x3] 61 (0, 0))) := hide ⟨by rw [← hw1]; exact alloc_below _ _, by rw [← hw1]; exact World.alloc_heap_new _ _⟩
    have HY1 : Hid (w1.ownsRow w.heap.size 3 1 (.slice b (riseL (imgL false (Ed.take i) Q sym)).length c) (riseL (imgL false (Ed.take i) Q sym)).length ((riseL (imgL false (Ed.take i) Q sym)).map (Value.int .i64)) ∧ Below W0.heap.size W0 w1) := hide ⟨own_below HY.out.1 H1.out.1, HY.out.2.trans (H1.out.1.mono HY.out.2.size)⟩
    have HQ1 : Hid (RdN w1 q1 Q) := hide (hQ.out.on (dw.trans (H1.out.1.mono dw.size)))
    have HSZ : Hid (w.heap.size ≤ w1.heap.size) := hide (Nat.le_trans dw.size H1.out.1.size)
    have T := with_any w1 b (riseL (imgL false (Ed.take i) Q sym)) c x3 (hide (own_rdN HY1.out.1)) hlen
    rw [with_rise] at T
    obtain ⟨z0, z1, z2⟩ := zd3 H1.out.2 rfl rfl rfl
    clear HY dw
    have HN : Hid (∀ x, x ∈ riseL (imgL false (Ed.take i) Q sym) → riseL (imgL false (Ed.take i) Q sym ++ [x]) = riseL (imgL false (Ed.take i) Q sym)) := hide fun x h => rise_old h
    go_upto_region 6 with fail
    clear hw1 q0 q1' q2 y4
    generalize wr.heap.size = pe at z0 z1 z2 H1 ⊢
    by_cases e1 : x2 = sym
    · by_cases e2 : x1 ∈ Q
      · rw [if_pos ⟨e1, e2⟩] at HT
        have k1 : (x2 == sym) = true := by simpa using e1
        have k2 : decide (x1 ∈ Q) = true := by simpa using e2
        by_cases e3 : x3 ∈ riseL (imgL false (Ed.take i) Q sym)
        · have HE : Hid (riseL (imgL false (Ed.take (i + 1)) Q sym) = riseL (imgL false (Ed.take i) Q sym)) := hide (by rw [HT.out]; exact HN.out _ e3)
          have k3 : decide (x3 ∈ riseL (imgL false (Ed.take i) Q sym)) = true := by simpa using e3
          clear e1 e2 e3 HT HN T
          generalize riseL (imgL false (Ed.take i) Q sym) = X at HY1 HE k3 hlen ⊢
          go_wp2_with (first
           | (go_at_call_of 80 q1; refine (in60 w1 q1 Q cq x1 (hide HQ1.out) (by omega)).mono ?_; rintro e w' ⟨rfl, hw'⟩; obtain rfl := hw'.symm; clear hw'; rw [k2])
           | (go_at_call_of 80 b; refine (in60 w1 b X c x3 (hide (own_rdN HY1.out.1)) hlen).mono ?_; rintro e w' ⟨rfl, hw'⟩; obtain rfl := hw'.symm; clear hw'; rw [k3]))
          go_roundw
          case rel => exact ⟨i + 1, b, c, by omega, by rw [HE.out], by go_num, hide ⟨by rw [HE.out]; exact HY1.out.1, HY1.out.2⟩⟩
          case measure => simp [intOf]; omega
        · have k3 : decide (x3 ∈ riseL (imgL false (Ed.take i) Q sym)) = false := by simpa using e3
          have HE := hide (congrArg riseL HT.out)
          generalize riseL (imgL false (Ed.take i) Q sym ++ [x3]) = Y at T HE
          clear e1 e2 e3 HT HN
          generalize riseL (imgL false (Ed.take i) Q sym) = X at HY1 k3 hlen T ⊢
          go_wp2_with (first
           | (go_at_call_of 80 q1; refine (in60 w1 q1 Q cq x1 (hide HQ1.out) (by omega)).mono ?_; rintro e w' ⟨rfl, hw'⟩; obtain rfl := hw'.symm; clear hw'; rw [k2])
           | (go_at_call_of 80 b; refine (in60 w1 b X c x3 (hide (own_rdN HY1.out.1)) hlen).mono ?_; rintro e w' ⟨rfl, hw'⟩; obtain rfl := hw'.symm; clear hw'; rw [k3])
           | (go_at_call 79; refine T.mono ?_; rintro e w2 ⟨b2, c2, rfl, HR, d2⟩; have HD := hide (HY1.out.2.trans (d2.mono HY1.out.2.size)); have HR2 := hide (owns_down HR.out HSZ.out); clear d2 HR))
          go_roundw
          case rel => exact ⟨i + 1, b2, c2, by omega, by rw [HE.out], by go_num, hide ⟨by rw [HE.out]; exact HR2.out, HD.out⟩⟩
          case measure => simp [intOf]; omega
      · have HE : Hid (riseL (imgL false (Ed.take (i + 1)) Q sym) = riseL (imgL false (Ed.take i) Q sym)) := hide (by rw [HT.out, if_neg fun h => e2 h.2])
        have k1 : (x2 == sym) = true := by simpa using e1
        have k2 : decide (x1 ∈ Q) = false := by simpa using e2
        clear e1 e2 HT HN T
        generalize riseL (imgL false (Ed.take i) Q sym) = X at HY1 HE hlen ⊢
        go_wp2_with (first
         | (go_at_call_of 80 q1; refine (in60 w1 q1 Q cq x1 (hide HQ1.out) (by omega)).mono ?_; rintro e w' ⟨rfl, hw'⟩; obtain rfl := hw'.symm; clear hw'; rw [k2]))
        go_roundw
        case rel => exact ⟨i + 1, b, c, by omega, by rw [HE.out], by go_num, hide ⟨by rw [HE.out]; exact HY1.out.1, HY1.out.2⟩⟩
        case measure => simp [intOf]; omega
    · have HE : Hid (riseL (imgL false (Ed.take (i + 1)) Q sym) = riseL (imgL false (Ed.take i) Q sym)) := hide (by rw [HT.out, if_neg fun h => e1 h.1])
      have k1 : (x2 == sym) = false := by simpa using e1
      clear e1 HT HN T
      generalize riseL (imgL false (Ed.take i) Q sym) = X at HY1 HE hlen ⊢
      go_wp2_with fail
      go_roundw
      case rel => exact ⟨i + 1, b, c, by omega, by rw [HE.out], by go_num, hide ⟨by rw [HE.out]; exact HY1.out.1, HY1.out.2⟩⟩
      case measure => simp [intOf]; omega
  · have i0 : ¬ (i : Int) < (Ed.length : Int) := by omega
    have etk : Ed.take i = Ed := List.take_of_length_le (by omega)
    rw [etk] at HY ⊢
    go_wp2_with fail
    refine bodyPost_ret (results_tmp rfl _ _ _) rfl ?_
    exact ⟨b, c, rfl, hide HY.out.1, dw⟩
def LAns (w : World) (r : List Int × Int) (e : Ending) (w' : World) : Prop := ∃ b c, e = .returned (.tuple #[.slice b r.1.length c, .int .i64 r.2]) ∧ Hid (w'.ownsRow w.heap.size 3 1 (.slice b r.1.length c) r.1.length (r.1.map (Value.int .i64))) ∧ Below w.heap.size w w'
theorem lans_bad {w w' : World} {er : Int} {e : Ending} (he : e = .returned (.tuple #[.slice none 0 0, .int .i64 er])) (d : Below w.heap.size w w') : LAns w ([], er) e w' :=
 ⟨none, 0, he, hide (World.ownsRow_nil _ _ _ _), d⟩
theorem rword_any (w : World) (n m : Int) (a1 a2 a3 : Option Addr) (c1 c2 c3 : Nat) (St Fi : List Int) (Ed : List EdT) (u1 : Option Addr) (cw : Nat) (Wd : List Int) (hA : Hid (RdA w a1 a2 a3 St Fi Ed)) (hU : Hid (RdN w u1 Wd)) (h1 : St.length ≤ 4194304) (h2 : Fi.length ≤ 4194304) (h3 : Ed.length ≤ 4194304) (hw : Wd.length ≤ 4194304) :
 Calls Tryz.prog 43 #[.agg #[.int .i64 n, .int .i64 m, .slice a1 St.length c1, .slice a2 Fi.length c2, .slice a3 Ed.length c3], .slice u1 Wd.length cw] w fun e w' => e = .returned (.int .i64 (wordErr n m St Fi Ed Wd)) ∧ Below w.heap.size w w' := by
 obtain ⟨W0, hW0⟩ : ∃ W0, w.alloc (.cells #[.int .i64 n, .int .i64 m, .slice a1 St.length c1, .slice a2 Fi.length c2, .slice a3 Ed.length c3] 25) = W0 := ⟨_, rfl⟩
 have H0 : Hid (Below w.heap.size w W0 ∧ W0.heap[w.heap.size]? = some (.cells #[.int .i64 n, .int .i64 m, .slice a1 St.length c1, .slice a2 Fi.length c2, .slice a3 Ed.length c3] 25 (0, 0))) := hide ⟨by rw [← hW0]; exact alloc_below _ _, by rw [← hW0]; exact World.alloc_heap_new _ _⟩
 obtain ⟨y0, y1, y2, y3, y4⟩ := zd5 H0.out.2 rfl rfl rfl rfl rfl
 have TV := rvalid_any W0 n m a1 a2 a3 c1 c2 c3 St Fi Ed (hide (hA.out.on H0.out.1)) h1 h2 h3
 by_cases em : mayA n m St Fi Ed = true
 · rw [if_pos em] at TV
   have TB : Hid (∀ W, Below w.heap.size w W → Calls Tryz.prog 41 #[.slice u1 Wd.length cw, .int .i64 m] W fun e w' => e = .returned (.bool (Wd.all (inB m))) ∧ w' = W) := hide (fun W d => below_any W u1 Wd cw m (hide (hU.out.on d)) hw)
   have HE : Hid (wordErr n m St Fi Ed Wd = if Wd.all (inB m) then 0 else 7) := hide (by unfold wordErr; rw [if_pos em])
   clear em
   generalize Wd.all (inB m) = r at TB HE
   obtain ⟨er, he⟩ : ∃ er, wordErr n m St Fi Ed Wd = er := ⟨_, rfl⟩
   rw [he] at HE ⊢
   clear he
   cases r
   · go_enter Tryz.func43, Tryz.ntmps43
     go_wp2_with (first
      | (go_at_call 10; refine TV.mono ?_; rintro e w1 ⟨rfl, d1⟩; have H1 := hide (And.intro (H0.out.1.trans (d1.mono H0.out.1.size)) (blk_on H0.out.2 d1)); clear d1 y0 y1 y2 y3 y4; obtain ⟨y0, y1, y2, y3⟩ := zd4 H1.out.2 rfl rfl rfl rfl; have y4 : w1.cell? ⟨w.heap.size, 4, none⟩ = some (.slice a3 Ed.length c3) := cell_of H1.out.2 rfl)
      | (go_at_call 41; refine (TB.out w1 H1.out.1).mono ?_; rintro e w2 ⟨rfl, hw2⟩; obtain rfl := hw2.symm; clear hw2))
     refine bodyPost_ret (results_tmp rfl _ _ _) rfl ?_
     exact ⟨by rw [HE.out]; rfl, H1.out.1⟩
   · go_enter Tryz.func43, Tryz.ntmps43
     go_wp2_with (first
      | (go_at_call 10; refine TV.mono ?_; rintro e w1 ⟨rfl, d1⟩; have H1 := hide (And.intro (H0.out.1.trans (d1.mono H0.out.1.size)) (blk_on H0.out.2 d1)); clear d1 y0 y1 y2 y3 y4; obtain ⟨y0, y1, y2, y3⟩ := zd4 H1.out.2 rfl rfl rfl rfl; have y4 : w1.cell? ⟨w.heap.size, 4, none⟩ = some (.slice a3 Ed.length c3) := cell_of H1.out.2 rfl)
      | (go_at_call 41; refine (TB.out w1 H1.out.1).mono ?_; rintro e w2 ⟨rfl, hw2⟩; obtain rfl := hw2.symm; clear hw2))
     refine bodyPost_ret (results_tmp rfl _ _ _) rfl ?_
     exact ⟨by rw [HE.out]; rfl, H1.out.1⟩
 · rw [if_neg em] at TV
   have HE : Hid (wordErr n m St Fi Ed Wd = 2) := hide (by unfold wordErr; rw [if_neg em])
   clear em
   go_enter Tryz.func43, Tryz.ntmps43
   go_wp2_with (go_at_call 10; refine TV.mono ?_; rintro e w1 ⟨rfl, d1⟩; have H1 := hide d1; clear d1)
   refine bodyPost_ret (results_tmp rfl _ _ _) rfl ?_
   exact ⟨by rw [HE.out]; rfl, H0.out.1.trans (H1.out.mono H0.out.1.size)⟩
def aftL (Ed : List EdT) (S : List Int) (Wd : List Int) : List Int := Wd.foldl (fun S y => riseL (imgL false Ed S y)) S
theorem aftL_take {Ed : List EdT} {S Wd : List Int} {i : Nat} (h : i < Wd.length) : aftL Ed S (Wd.take (i + 1)) = riseL (imgL false Ed (aftL Ed S (Wd.take i)) Wd[i]) := by
 unfold aftL
 rw [List.take_succ_eq_append_getElem h, List.foldl_append]
 rfl
theorem aftL_len {Ed : List EdT} {S Wd : List Int} (hs : S.length ≤ 4194304) (h3 : Ed.length ≤ 4194304) : (aftL Ed S Wd).length ≤ 4194304 := by
 rcases Wd.eq_nil_or_concat with rfl | ⟨l, y, rfl⟩
 · exact hs
 · unfold aftL
   rw [List.concat_eq_append, List.foldl_append]
   exact Nat.le_trans (riseL_len _) (Nat.le_trans (imgL_len _ _ _ _) h3)
def aftA (n m : Int) (St Fi : List Int) (Ed : List EdT) (Wd : List Int) : List Int × Int := if wordErr n m St Fi Ed Wd = 0 then (aftL Ed (riseL St) Wd, 0) else ([], wordErr n m St Fi Ed Wd)
theorem rafter_any (w : World) (n m : Int) (a1 a2 a3 : Option Addr) (c1 c2 c3 : Nat) (St Fi : List Int) (Ed : List EdT) (u1 : Option Addr) (cw : Nat) (Wd : List Int) (hA : Hid (RdA w a1 a2 a3 St Fi Ed)) (hU : Hid (RdN w u1 Wd)) (h1 : St.length ≤ 4194304) (h2 : Fi.length ≤ 4194304) (h3 : Ed.length ≤ 4194304) (hw : Wd.length ≤ 4194304) :
 Calls Tryz.prog 13 #[.agg #[.int .i64 n, .int .i64 m, .slice a1 St.length c1, .slice a2 Fi.length c2, .slice a3 Ed.length c3], .slice u1 Wd.length cw] w (LAns w (aftA n m St Fi Ed Wd)) := by
 obtain ⟨W0, hW0⟩ : ∃ W0, w.alloc (.cells #[.int .i64 n, .int .i64 m, .slice a1 St.length c1, .slice a2 Fi.length c2, .slice a3 Ed.length c3] 25) = W0 := ⟨_, rfl⟩
 have H0 : Hid (Below w.heap.size w W0 ∧ W0.heap[w.heap.size]? = some (.cells #[.int .i64 n, .int .i64 m, .slice a1 St.length c1, .slice a2 Fi.length c2, .slice a3 Ed.length c3] 25 (0, 0))) := hide ⟨by rw [← hW0]; exact alloc_below _ _, by rw [← hW0]; exact World.alloc_heap_new _ _⟩
 obtain ⟨y0, y1, y2, y3, y4⟩ := zd5 H0.out.2 rfl rfl rfl rfl rfl
 have TA := rword_any W0 n m a1 a2 a3 c1 c2 c3 St Fi Ed u1 cw Wd (hide (hA.out.on H0.out.1)) (hide (hU.out.on H0.out.1)) h1 h2 h3 hw
 unfold aftA
 by_cases e0 : wordErr n m St Fi Ed Wd = 0
 · rw [if_pos e0]
   rw [e0] at TA
   clear e0
   have TN : Hid (∀ W b c X x, Below w.heap.size w W → RdN W b X → X.length ≤ 4194304 → Calls Tryz.prog 45 #[.agg #[.int .i64 n, .int .i64 m, .slice a1 St.length c1, .slice a2 Fi.length c2, .slice a3 Ed.length c3], .slice b X.length c, .int .i64 x] W fun e w' => ∃ b c, e = .returned (.slice b (riseL (imgL false Ed X x)).length c) ∧ Hid (w'.ownsRow W.heap.size 3 1 (.slice b (riseL (imgL false Ed X x)).length c) (riseL (imgL false Ed X x)).length ((riseL (imgL false Ed X x)).map (Value.int .i64))) ∧ Below W.heap.size W w') := hide (fun W b c X x d hx hl => rnext_any W n m a1 a2 a3 b c1 c2 c3 c St Fi Ed X x (hide (hA.out.on d)) (hide hx) h3 hl)
   have HRS : Hid ((riseL St).length ≤ 4194304) := hide (Nat.le_trans (riseL_len St) h1)
   have SB : Hid (∀ W, Below W0.heap.size W0 W → (fun W => W.cell? ⟨w.heap.size, 0, none⟩ = some (.int .i64 n) ∧ W.cell? ⟨w.heap.size, 1, none⟩ = some (.int .i64 m) ∧ W.cell? ⟨w.heap.size, 2, none⟩ = some (.slice a1 St.length c1) ∧ W.cell? ⟨w.heap.size, 3, none⟩ = some (.slice a2 Fi.length c2) ∧ W.cell? ⟨w.heap.size, 4, none⟩ = some (.slice a3 Ed.length c3)) W) := hide (fun W d => by
    have e := blk_on H0.out.2 d
    exact ⟨cell_of e rfl, cell_of e rfl, cell_of e rfl, cell_of e rfl, cell_of e rfl⟩)
   go_enter Tryz.func13, Tryz.ntmps13
   go_wp2_with (first
    | (go_at_call 43; refine TA.mono ?_; rintro e w1 ⟨rfl, d1⟩; have H1 := hide d1; clear d1 y0 y1 y2 y3 y4; obtain ⟨y0, y1, y2, y3, y4⟩ := SB.out w1 H1.out)
    | (go_at_call 44; refine (set_any w1 a1 St c1 (hide (hA.out.s.on (H0.out.1.trans (H1.out.mono H0.out.1.size)))) h1).mono ?_; rintro e w2 ⟨b0, c0, rfl, HO, d2⟩; have H2 := hide (And.intro (owns_down HO.out (Nat.le_trans H0.out.1.size H1.out.size)) (H1.out.trans (d2.mono H1.out.size))); clear d2 HO y0 y1 y2 y3 y4))
   clear hW0
   go_loopw [7, 8] (fun ov iv wr => ∃ i b c, i ≤ Wd.length ∧ ov = .slice b (aftL Ed (riseL St) (Wd.take i)).length c ∧ iv = .int .i64 (i : Nat) ∧ Hid (wr.ownsRow w.heap.size 3 1 (.slice b (aftL Ed (riseL St) (Wd.take i)).length c) (aftL Ed (riseL St) (Wd.take i)).length ((aftL Ed (riseL St) (Wd.take i)).map (Value.int .i64)) ∧ Below W0.heap.size W0 wr)) (fun _ iv _ => Wd.length - (intOf iv).toNat)
   case atStart => exact ⟨0, b0, c0, Nat.zero_le _, rfl, rfl, hide ⟨H2.out.1, H2.out.2⟩⟩
   case round =>
    obtain ⟨i, b, c, hi, rfl, rfl, HY⟩ := hrel
    by_cases hlt : i < Wd.length
    · have i0 : (i : Int) < (Wd.length : Int) := by omega
      have i1 : (0 : Int) ≤ (i : Int) := by omega
      have iw : IntKind.i64.wrap ((i : Int) + 1) = (i : Int) + 1 := by rw [IntKind.wrap_i64]; omega
      have HDW := hide (H0.out.1.trans (HY.out.2.mono H0.out.1.size))
      obtain ⟨gu, ou, hao, q⟩ := (hU.out.on HDW.out) i hlt
      subst hao
      have hlen : (aftL Ed (riseL St) (Wd.take i)).length ≤ 4194304 := aftL_len HRS.out h3
      have HE := hide (aftL_take (Ed := Ed) (S := riseL St) hlt)
      generalize Wd[i] = x at q HE
      generalize aftL Ed (riseL St) (Wd.take i) = X at HY hlen HE ⊢
      have SQ : Hid (∀ W, Below wr.heap.size wr W → W.cell? ⟨gu, ou + i, none⟩ = some (.int .i64 x)) := hide (fun W d => (d.cell (p := ⟨gu, ou + i, none⟩) (World.block_lt_of_cell? wr _ q)).trans q)
      have SX : Hid (∀ W, Below wr.heap.size wr W → (fun W => (fun W => W.cell? ⟨w.heap.size, 0, none⟩ = some (.int .i64 n) ∧ W.cell? ⟨w.heap.size, 1, none⟩ = some (.int .i64 m) ∧ W.cell? ⟨w.heap.size, 2, none⟩ = some (.slice a1 St.length c1) ∧ W.cell? ⟨w.heap.size, 3, none⟩ = some (.slice a2 Fi.length c2) ∧ W.cell? ⟨w.heap.size, 4, none⟩ = some (.slice a3 Ed.length c3)) W ∧ W.cell? ⟨gu, ou + i, none⟩ = some (.int .i64 x)) W) := hide (fun W d => ⟨SB.out W (HY.out.2.trans (d.mono HY.out.2.size)), SQ.out W d⟩)
      have HX := hide (own_rdN HY.out.1)
      have S0 := SX.out wr.drew (Below.refl _ _).drew
      clear q
      go_upto_region 8 with fail
      go_region_held3 (fun W => (fun W => W.cell? ⟨w.heap.size, 0, none⟩ = some (.int .i64 n) ∧ W.cell? ⟨w.heap.size, 1, none⟩ = some (.int .i64 m) ∧ W.cell? ⟨w.heap.size, 2, none⟩ = some (.slice a1 St.length c1) ∧ W.cell? ⟨w.heap.size, 3, none⟩ = some (.slice a2 Fi.length c2) ∧ W.cell? ⟨w.heap.size, 4, none⟩ = some (.slice a3 Ed.length c3)) W ∧ W.cell? ⟨gu, ou + i, none⟩ = some (.int .i64 x))
       (with_reducible assumption)
       ((go_at_call 45; refine (TN.out _ _ _ _ _ HDW.out.drew (HX.out.on (Below.refl _ wr).drew) hlen).mono ?_; rintro e w3 ⟨b2, c2, rfl, HO, d3⟩; have D3 : Below wr.heap.size wr w3 := ⟨d3.os, d3.tape, d3.output, d3.size, d3.block⟩; have S3 := SX.out w3 D3; have HD3 := hide D3; clear d3 D3))
      clear S0 S3
      go_wp2_with fail
      go_roundw
      case rel => exact ⟨i + 1, b2, c2, by omega, by rw [HE.out], by go_num, hide ⟨by rw [HE.out]; exact owns_down HO.out HDW.out.size, HY.out.2.trans (HD3.out.mono HY.out.2.size)⟩⟩
      case measure => simp [intOf]; omega
    · have i0 : ¬ (i : Int) < (Wd.length : Int) := by omega
      have etk : Wd.take i = Wd := List.take_of_length_le (by omega)
      rw [etk] at HY ⊢
      go_wp2_with fail
      go_ret2
      exact ⟨b, c, rfl, hide HY.out.1, H0.out.1.trans (HY.out.2.mono H0.out.1.size)⟩
 · rw [if_neg e0]
   generalize wordErr n m St Fi Ed Wd = er at e0 TA ⊢
   have e1 : (er != 0) = true := by simpa using e0
   clear e0
   go_enter Tryz.func13, Tryz.ntmps13
   go_wp2_with (go_at_call 43; refine TA.mono ?_; rintro e w1 ⟨rfl, d1⟩; have H1 := hide (H0.out.1.trans (d1.mono H0.out.1.size)); clear d1)
   go_ret2
   exact lans_bad rfl H1.out
def accA (n m : Int) (St Fi : List Int) (Ed : List EdT) (Wd : List Int) : Bool × Int := ((aftA n m St Fi Ed Wd).1.any fun x => decide (x ∈ Fi), (aftA n m St Fi Ed Wd).2)
theorem aftA_len {n m : Int} {St Fi : List Int} {Ed : List EdT} {Wd : List Int} (h1 : St.length ≤ 4194304) (h3 : Ed.length ≤ 4194304) : (aftA n m St Fi Ed Wd).1.length ≤ 4194304 := by
 unfold aftA
 by_cases e0 : wordErr n m St Fi Ed Wd = 0
 · rw [if_pos e0]; exact aftL_len (Nat.le_trans (riseL_len St) h1) h3
 · rw [if_neg e0]; exact Nat.zero_le _
theorem raccepts_any (w : World) (n m : Int) (a1 a2 a3 : Option Addr) (c1 c2 c3 : Nat) (St Fi : List Int) (Ed : List EdT) (u1 : Option Addr) (cw : Nat) (Wd : List Int) (hA : Hid (RdA w a1 a2 a3 St Fi Ed)) (hU : Hid (RdN w u1 Wd)) (h1 : St.length ≤ 4194304) (h2 : Fi.length ≤ 4194304) (h3 : Ed.length ≤ 4194304) (hw : Wd.length ≤ 4194304) :
 Calls Tryz.prog 42 #[.agg #[.int .i64 n, .int .i64 m, .slice a1 St.length c1, .slice a2 Fi.length c2, .slice a3 Ed.length c3], .slice u1 Wd.length cw] w fun e w' => e = .returned (.tuple #[.bool (accA n m St Fi Ed Wd).1, .int .i64 (accA n m St Fi Ed Wd).2]) ∧ Below w.heap.size w w' := by
 obtain ⟨W0, hW0⟩ : ∃ W0, w.alloc (.cells #[.int .i64 n, .int .i64 m, .slice a1 St.length c1, .slice a2 Fi.length c2, .slice a3 Ed.length c3] 25) = W0 := ⟨_, rfl⟩
 have H0 : Hid (Below w.heap.size w W0 ∧ W0.heap[w.heap.size]? = some (.cells #[.int .i64 n, .int .i64 m, .slice a1 St.length c1, .slice a2 Fi.length c2, .slice a3 Ed.length c3] 25 (0, 0))) := hide ⟨by rw [← hW0]; exact alloc_below _ _, by rw [← hW0]; exact World.alloc_heap_new _ _⟩
 obtain ⟨y0, y1, y2, y3, y4⟩ := zd5 H0.out.2 rfl rfl rfl rfl rfl
 have TA := rafter_any W0 n m a1 a2 a3 c1 c2 c3 St Fi Ed u1 cw Wd (hide (hA.out.on H0.out.1)) (hide (hU.out.on H0.out.1)) h1 h2 h3 hw
 have hlen := aftA_len (n := n) (m := m) (Fi := Fi) (Wd := Wd) h1 h3
 unfold accA
 generalize aftA n m St Fi Ed Wd = r at TA hlen ⊢
 obtain ⟨L, er⟩ := r
 have HF : Hid (∀ W, Below w.heap.size w W → RdN W a2 Fi) := hide (fun W d => hA.out.f.on d)
 obtain ⟨k, hk⟩ : ∃ k, (L.any fun x => decide (x ∈ Fi)) = k := ⟨_, rfl⟩
 have HK := hide hk
 simp only [hk]
 clear hk
 go_enter Tryz.func42, Tryz.ntmps42
 go_wp2_with (first
  | (go_at_call 13; refine TA.mono ?_; rintro e w1 ⟨b, c, rfl, HO, d1⟩; have H1 := hide (And.intro (H0.out.1.trans (d1.mono H0.out.1.size)) (blk_on H0.out.2 d1)); clear d1 y0 y1 y2 y3 y4; obtain ⟨y0, y1, y2, y3⟩ := zd4 H1.out.2 rfl rfl rfl rfl; have y4 : w1.cell? ⟨w.heap.size, 4, none⟩ = some (.slice a3 Ed.length c3) := cell_of H1.out.2 rfl)
  | (go_at_call 47; refine (meets18 w1 b a2 L Fi c c2 (hide (own_rdN HO.out)) (hide (HF.out w1 H1.out.1)) hlen h2).mono ?_; rintro e w2 ⟨rfl, hw2⟩; obtain rfl := hw2.symm; clear hw2; rw [HK.out]))
 go_ret2
 exact ⟨rfl, H1.out.1⟩
def tkF (n m : Int) (St Fi : List Int) (Ed : List EdT) (Wd : List Int) : Bool := (accA n m St Fi Ed Wd).1 && decide ((accA n m St Fi Ed Wd).2 = 0)
theorem ltakes_any (w : World) (n m : Int) (a1 a2 a3 : Option Addr) (c1 c2 c3 : Nat) (St Fi : List Int) (Ed : List EdT) (u1 : Option Addr) (cw : Nat) (Wd : List Int) (hA : Hid (RdA w a1 a2 a3 St Fi Ed)) (hU : Hid (RdN w u1 Wd)) (h1 : St.length ≤ 4194304) (h2 : Fi.length ≤ 4194304) (h3 : Ed.length ≤ 4194304) (hw : Wd.length ≤ 4194304) :
 Calls Tryz.prog 11 #[.agg #[.int .i64 n, .int .i64 m, .slice a1 St.length c1, .slice a2 Fi.length c2, .slice a3 Ed.length c3], .slice u1 Wd.length cw] w fun e w' => e = .returned (.bool (tkF n m St Fi Ed Wd)) ∧ Below w.heap.size w w' := by
 obtain ⟨W0, hW0⟩ : ∃ W0, w.alloc (.cells #[.int .i64 n, .int .i64 m, .slice a1 St.length c1, .slice a2 Fi.length c2, .slice a3 Ed.length c3] 25) = W0 := ⟨_, rfl⟩
 have HB : Hid (W0.heap[w.heap.size]? = some (.cells #[.int .i64 n, .int .i64 m, .slice a1 St.length c1, .slice a2 Fi.length c2, .slice a3 Ed.length c3] 25 (0, 0)) ∧ Below w.heap.size w W0) := hide (by rw [← hW0]; exact ⟨World.alloc_heap_new _ _, (Below.refl _ _).alloc (Nat.le_refl _) _⟩)
 have T := raccepts_any W0 n m a1 a2 a3 c1 c2 c3 St Fi Ed u1 cw Wd (hide (hA.out.on HB.out.2)) (hide (hU.out.on HB.out.2)) h1 h2 h3 hw
 unfold tkF
 generalize accA n m St Fi Ed Wd = r at T ⊢
 obtain ⟨bb, er⟩ := r
 simp only at T ⊢
 obtain ⟨y0, y1, y2, y3, y4⟩ := zd5 HB.out.1 rfl rfl rfl rfl rfl
 cases bb
 · go_enter Tryz.func11, Tryz.ntmps11
   go_wp2_with (go_at_call 42; refine T.mono ?_; rintro e w1 ⟨rfl, D1⟩; have H1 := hide D1; clear D1)
   go_ret
   exact ⟨rfl, HB.out.2.trans (H1.out.mono HB.out.2.size)⟩
 · by_cases he : er = 0
   · subst he
     go_enter Tryz.func11, Tryz.ntmps11
     go_wp2_with (go_at_call 42; refine T.mono ?_; rintro e w1 ⟨rfl, D1⟩; have H1 := hide D1; clear D1)
     go_ret
     exact ⟨rfl, HB.out.2.trans (H1.out.mono HB.out.2.size)⟩
   · have he2 : (er == 0) = false := by simpa using he
     have HE := hide (decide_eq_false he)
     clear he
     go_enter Tryz.func11, Tryz.ntmps11
     go_wp2_with (go_at_call 42; refine T.mono ?_; rintro e w1 ⟨rfl, D1⟩; have H1 := hide D1; clear D1)
     go_ret
     exact ⟨by rw [HE.out]; rfl, HB.out.2.trans (H1.out.mono HB.out.2.size)⟩
theorem lsyms_any (w : World) (u1 : Option Addr) (cw : Nat) (L : List Int) (m : Int) (hr : Hid (RdN w u1 L)) (hl : L.length ≤ 4194304) :
 Calls Tryz.prog 12 #[.slice u1 L.length cw, .int .i64 m] w fun e w' => e = .returned (.bool (L.all (inB m))) ∧ Below w.heap.size w w' := by
 obtain ⟨n, hn⟩ : ∃ n, n = L.length := ⟨_, rfl⟩
 have HL := hide hn
 rw [← hn]
 rw [← hn] at hl
 clear hn
 go_enter Tryz.func12, Tryz.ntmps12
 go_wp2_with fail
 go_loopw [8] (fun iv wr => ∃ i : Nat, i ≤ n ∧ iv = .int .i64 i ∧ Hid ((L.take i).all (inB m) = true ∧ Below w.heap.size w wr)) (fun iv _ => n - (intOf iv).toNat)
 case atStart => exact ⟨0, Nat.zero_le _, rfl, hide ⟨by simp, Below.refl _ _⟩⟩
 case round =>
  obtain ⟨i, hi, rfl, HY⟩ := hrel
  by_cases hil : i < n
  · have i0 : (0 : Int) ≤ (i : Int) := by omega
    have i1 : (i : Int) < (n : Int) := by omega
    have hi2 : i < L.length := by rw [← HL.out]; exact hil
    obtain ⟨g, o, rfl, c⟩ := (hr.out.on HY.out.2) i hi2
    have HT := hide (show L.take (i + 1) = L.take i ++ [L[i]] by rw [List.take_add_one, List.getElem?_eq_getElem hi2]; rfl)
    have HM := hide (List.getElem_mem hi2)
    generalize L[i] = x at c HT HM
    by_cases x0 : x < 0
    · have JN : Hid (L.all (inB m) = false) := hide (List.all_eq_false.2 ⟨x, HM.out, by rw [inB_not.2 (by omega)]; simp⟩)
      go_wp2_with fail
      go_ret
      exact ⟨by rw [JN.out]; rfl, HY.out.2⟩
    · by_cases x1 : m ≤ x
      · have JN : Hid (L.all (inB m) = false) := hide (List.all_eq_false.2 ⟨x, HM.out, by rw [inB_not.2 (by omega)]; simp⟩)
        go_wp2_with fail
        go_ret
        exact ⟨by rw [JN.out]; rfl, HY.out.2⟩
      · have JY : Hid (inB m x = true) := hide (inB_iff.2 (by omega))
        go_wp2_with fail
        go_roundw
        case rel => exact ⟨i + 1, by omega, by go_num, hide ⟨by rw [HT.out, List.all_append, HY.out.1]; simp [JY.out], HY.out.2⟩⟩
        case measure => simp [intOf]; omega
  · have i1 : ¬ (i : Int) < (n : Int) := by omega
    have J : Hid (L.all (inB m) = true) := hide (by
     have := HY.out.1
     rwa [List.take_of_length_le (by have := HL.out; omega)] at this)
    go_wp2_with fail
    go_ret
    exact ⟨by rw [J.out]; rfl, HY.out.2⟩
def UpN (N : Nat) (l : List Int) : Prop := l.Pairwise (· < ·) ∧ ∀ x ∈ l, 0 ≤ x ∧ x < (N : Int)
theorem up_len : ∀ (l : List Int) (a b : Int), l.Pairwise (· < ·) → (∀ x ∈ l, a ≤ x ∧ x < b) → l.length ≤ (b - a).toNat
 | [], _, _, _, _ => Nat.zero_le _
 | x :: l, a, b, hp, hx => by
  have h1 := hx x (by simp)
  have h2 := up_len l (x + 1) b (List.pairwise_cons.1 hp).2 (fun y hy => ⟨(List.pairwise_cons.1 hp).1 y hy, (hx y (by simp [hy])).2⟩)
  rw [List.length_cons]
  omega
theorem UpN.len {N : Nat} {l : List Int} (h : UpN N l) : l.length ≤ N := by
 have := up_len l 0 N h.1 h.2
 omega
theorem upN_rise {N : Nat} {L : List Int} (h : ∀ x ∈ L, 0 ≤ x ∧ x < (N : Int)) : UpN N (riseL L) := ⟨riseL_ss L, fun x hx => h x ((riseL_iff L x).1 hx)⟩
theorem own_zero {W : World} {B g : Nat} (h : W.heap[g]? = some (.cells #[] 3 (0, 0))) (hB : B ≤ g) : W.ownsRow B 3 1 (.slice (some ⟨g, 0, none⟩) 0 0) ([] : List Int).length (([] : List Int).map (Value.int .i64)) :=
 ⟨by simp, .inr ⟨g, 0, #[], rfl, hB, h, Nat.le_refl _, Nat.zero_le _, by simp, by simp⟩⟩
end Go.Proofs.YtchoopnjckcohaaGreatDoor
