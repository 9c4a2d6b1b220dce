import Derived.Test.YtchoopnjckcohaaGreatRows
import Derived.Test.YtchoopnjckcohaaGreatQae
import Derived.ProofKit
import Derived.OpenShut
import Derived.ShutString
import Derived.Deep.DeepHandedRow
import Derived.Lib.LaidTab
import Derived.Lib.SmallJoins
import Derived.ChangeOld
import Derived.Lay
import Derived.Deep.Slices
set_option maxRecDepth 100000
set_option maxHeartbeats 40000000
namespace Go.Proofs.YtchoopnjckcohaaGreat
open Go.Proofs.Tryz
open Go.RowKit Go.Maps Go.Shelf
attribute [local go_sem] Oper.semAt_some
theorem GU (w : World) (n m n' m' bud0 : Int) (a1 a2 a3 b1 b2 b3 : Option Addr) (c1 c2 c3 d1 d2 d3 : Nat) (Sa Fa Sb Fb : List Int) (Ea Eb : List Aa) (hA : Hid (AP w a1 a2 a3 Sa Fa Ea)) (hB : Hid (AP w b1 b2 b3 Sb Fb Eb)) (h1 : Sa.length ≤ 2000000) (h2 : Fa.length ≤ 2000000) (h3 : Ea.length ≤ 2000000) (h4 : Sb.length ≤ 2000000) (h5 : Fb.length ≤ 2000000) (h6 : Eb.length ≤ 2000000) : Calls prog 21 #[.agg #[.int .i64 n, .int .i64 m, .slice a1 Sa.length c1, .slice a2 Fa.length c2, .slice a3 Ea.length c3], .agg #[.int .i64 n', .int .i64 m', .slice b1 Sb.length d1, .slice b2 Fb.length d2, .slice b3 Eb.length d3], .int .i64 bud0, .func (.func 51) #[] #[]] w (DR w (AO Cq n m n' m' bud0 Sa Fa Ea Sb Fb Eb)) := by
 cases em : AC n m Sa Fa Ea with
 | false =>
  have e : AO Cq n m n' m' bud0 Sa Fa Ea Sb Fb Eb = B7 2 := if_neg (fun h => by rw [em] at h; exact absurd h.1 (by decide))
  rw [e]
  exact Jj w n m n' m' bud0 a1 a2 a3 b1 b2 b3 c1 c2 c3 d1 d2 d3 Sa Fa Sb Fb Ea Eb hA hB h1 h2 h3 h4 h5 h6 em
 | true =>
  cases em' : AC n' m' Sb Fb Eb with
  | false =>
   have e : AO Cq n m n' m' bud0 Sa Fa Ea Sb Fb Eb = B7 2 := if_neg (fun h => by rw [em'] at h; exact absurd h.2 (by decide))
   rw [e]
   exact Ja w n m n' m' bud0 a1 a2 a3 b1 b2 b3 c1 c2 c3 d1 d2 d3 Sa Fa Sb Fb Ea Eb hA hB h1 h2 h3 h4 h5 h6 em em'
  | true =>
   by_cases hm : m = m'
   · subst hm
     obtain ⟨N, rfl⟩ := Int.eq_ofNat_of_zero_le (show 0 ≤ n by have := (Ag em).1; omega)
     obtain ⟨M, rfl⟩ := Int.eq_ofNat_of_zero_le (show 0 ≤ n' by have := (Ag em').1; omega)
     obtain ⟨k, rfl⟩ := Int.eq_ofNat_of_zero_le (show 0 ≤ m by have := (Ag em).2.1; omega)
     have e : AO Cq (N : Int) (k : Int) (M : Int) (k : Int) bud0 Sa Fa Ea Sb Fb Eb = Bi Cq (BF bud0) k (A5 Sa) (A5 Fa) (A7 Ea) (A5 Sb) (A5 Fb) (A7 Eb) := by
      unfold AO
      rw [if_pos ⟨em, em'⟩, if_pos rfl, Int.toNat_natCast]
     rw [e]
     exact Ib w N M k bud0 a1 a2 a3 b1 b2 b3 c1 c2 c3 d1 d2 d3 Sa Fa Sb Fb Ea Eb hA hB h1 h2 h3 h4 h5 h6 em em'
   · have e : AO Cq n m n' m' bud0 Sa Fa Ea Sb Fb Eb = B7 6 := by
      unfold AO
      rw [if_pos ⟨em, em'⟩, if_neg hm]
     rw [e]
     exact J4 w n m n' m' bud0 a1 a2 a3 b1 b2 b3 c1 c2 c3 d1 d2 d3 Sa Fa Sb Fb Ea Eb hA hB h1 h2 h3 h4 h5 h6 em em' hm
theorem Ob (w : World) (n m n' m' bud0 : Int) (a1 a2 a3 b1 b2 b3 : Option Addr) (c1 c2 c3 d1 d2 d3 : Nat) (Sa Fa Sb Fb : List Int) (Ea Eb : List Aa) (hA : Hid (AP w a1 a2 a3 Sa Fa Ea)) (hB : Hid (AP w b1 b2 b3 Sb Fb Eb)) (h1 : Sa.length ≤ 2000000) (h2 : Fa.length ≤ 2000000) (h3 : Ea.length ≤ 2000000) (h4 : Sb.length ≤ 2000000) (h5 : Fb.length ≤ 2000000) (h6 : Eb.length ≤ 2000000) : Calls prog 25 #[.agg #[.int .i64 n, .int .i64 m, .slice a1 Sa.length c1, .slice a2 Fa.length c2, .slice a3 Ea.length c3], .agg #[.int .i64 n', .int .i64 m', .slice b1 Sb.length d1, .slice b2 Fb.length d2, .slice b3 Eb.length d3], .int .i64 bud0] w (DR w (AO Cq n m n' m' bud0 Sa Fa Ea Sb Fb Eb)) := by
 obtain ⟨W0, hW0⟩ : ∃ W0, ((w.alloc (.cells #[.int .i64 n, .int .i64 m, .slice a1 Sa.length c1, .slice a2 Fa.length c2, .slice a3 Ea.length c3] 25)).alloc (.cells #[.int .i64 n', .int .i64 m', .slice b1 Sb.length d1, .slice b2 Fb.length d2, .slice b3 Eb.length d3] 25)).alloc (.cells #[.int .i64 0, .int .i64 0, .slice none 0 0, .slice none 0 0, .slice none 0 0] 25) = W0 := ⟨_, rfl⟩
 have HD := A0 (BH w #[.int .i64 n, .int .i64 m, .slice a1 Sa.length c1, .slice a2 Fa.length c2, .slice a3 Ea.length c3] #[.int .i64 n', .int .i64 m', .slice b1 Sb.length d1, .slice b2 Fb.length d2, .slice b3 Eb.length d3] #[.int .i64 0, .int .i64 0, .slice none 0 0, .slice none 0 0, .slice none 0 0] 25)
 rw [hW0] at HD
 have TB := GU W0 n m n' m' bud0 a1 a2 a3 b1 b2 b3 c1 c2 c3 d1 d2 d3 Sa Fa Sb Fb Ea Eb (A0 (hA.out.on HD.out.1)) (A0 (hB.out.on HD.out.1)) h1 h2 h3 h4 h5 h6
 have HS := A0 HD.out.2.2.2.2
 generalize AO Cq n m n' m' bud0 Sa Fa Ea Sb Fb Eb = r at *
 obtain ⟨y0, y1, y2, y3, y4⟩ := An HD.out.2.1 rfl rfl rfl rfl rfl
 obtain ⟨x0, x1, x2, x3, x4⟩ := An HD.out.2.2.1 rfl rfl rfl rfl rfl
 go_enter func25, ntmps25
 go_wp2_with (go_at_call 21; refine TB.mono ?_; rintro e w1 ⟨x1, y1, x2, y2, x3, y3, xp, yp, rfl, H1, D1⟩; have F4 := A3 HD.out.2.2.2.1 D1; have HD1 := A0 D1; obtain ⟨o0, o1, o2, o3, o4⟩ := An F4 rfl rfl rfl rfl rfl; have fz0 : w1.frozen? ⟨w.heap.size + 1 + 1, 0, none⟩ = false := A4 F4; have fz1 : w1.frozen? ⟨w.heap.size + 1 + 1, 1, none⟩ = false := A4 F4; have fz2 : w1.frozen? ⟨w.heap.size + 1 + 1, 2, none⟩ = false := A4 F4; have fz3 : w1.frozen? ⟨w.heap.size + 1 + 1, 3, none⟩ = false := A4 F4; have fz4 : w1.frozen? ⟨w.heap.size + 1 + 1, 4, none⟩ = false := A4 F4; have HF4 := A0 F4; clear F4 D1)
 have O6 := A0 (And.intro (AT w1 (w.heap.size + 1 + 1) _ _ _ _ _ (.int .i64 r.n) (.int .i64 r.m) (.slice x1 r.S.length y1) (.slice x2 r.F.length y2) (.slice x3 r.E.length y3) 25 HF4.out) (AF w1 (w.heap.size + 1 + 1) (.int .i64 r.n) (.int .i64 r.m) (.slice x1 r.S.length y1) (.slice x2 r.F.length y2) (.slice x3 r.E.length y3)))
 refine bodyPost_ret (As (p := 6) (q := 7) (r := 8) (ty := 25) rfl _ _ (w.heap.size + 1 + 1) 25 _ (0, 0) _ _ _ rfl rfl rfl O6.out.1 underlying25 rfl (by kernel_rfl)) rfl ?_
 have s := HS.out
 exact ⟨x1, y1, x2, y2, x3, y3, xp, yp, rfl, A0 ⟨(H1.out.1.keep HF4.out O6.out.2).down (by omega), Ac (Ap H1.out.2 HF4.out (by decide) O6.out.2) (by omega)⟩, (HD.out.1.trans (HD1.out.mono HD.out.1.size)).trans (O6.out.2.toBelow (by have := HD1.out.size; omega) (fun k hk => by omega))⟩
theorem Iz (w : World) (lay : Bool) (n m n' m' bud0 : Int) (a1 a2 a3 b1 b2 b3 : Option Addr) (c1 c2 c3 d1 d2 d3 : Nat) (Sa Fa Sb Fb : List Int) (Ea Eb : List Aa) (hA : Hid (AP w a1 a2 a3 Sa Fa Ea)) (hB : Hid (AP w b1 b2 b3 Sb Fb Eb)) (h1 : Sa.length ≤ 2000000) (h2 : Fa.length ≤ 2000000) (h3 : Ea.length ≤ 2000000) (h4 : Sb.length ≤ 2000000) (h5 : Fb.length ≤ 2000000) (h6 : Eb.length ≤ 2000000) (hc : Ea.length ≤ c3) (hc' : Eb.length ≤ d3) : Calls prog 24 #[.agg #[.int .i64 n, .int .i64 m, .slice a1 Sa.length c1, .slice a2 Fa.length c2, .slice a3 Ea.length c3], .agg #[.int .i64 n', .int .i64 m', .slice b1 Sb.length d1, .slice b2 Fb.length d2, .slice b3 Eb.length d3], .int .i64 bud0, .bool lay] w (DR w (AO (AR lay) n m n' m' bud0 Sa Fa Ea Sb Fb Eb)) := by
 cases em : AC n m Sa Fa Ea with
 | false =>
  have e : AO (AR lay) n m n' m' bud0 Sa Fa Ea Sb Fb Eb = B7 2 := if_neg (fun h => by rw [em] at h; exact absurd h.1 (by decide))
  rw [e]
  exact Mp w lay n m n' m' bud0 a1 a2 a3 b1 b2 b3 c1 c2 c3 d1 d2 d3 Sa Fa Sb Fb Ea Eb hA hB h1 h2 h3 h4 h5 h6 hc hc' em
 | true =>
  cases em' : AC n' m' Sb Fb Eb with
  | false =>
   have e : AO (AR lay) n m n' m' bud0 Sa Fa Ea Sb Fb Eb = B7 2 := if_neg (fun h => by rw [em'] at h; exact absurd h.2 (by decide))
   rw [e]
   exact KY w lay n m n' m' bud0 a1 a2 a3 b1 b2 b3 c1 c2 c3 d1 d2 d3 Sa Fa Sb Fb Ea Eb hA hB h1 h2 h3 h4 h5 h6 hc hc' em em'
  | true =>
   by_cases hm : m = m'
   · subst hm
     obtain ⟨N, rfl⟩ := Int.eq_ofNat_of_zero_le (show 0 ≤ n by have := (Ag em).1; omega)
     obtain ⟨M, rfl⟩ := Int.eq_ofNat_of_zero_le (show 0 ≤ n' by have := (Ag em').1; omega)
     obtain ⟨k, rfl⟩ := Int.eq_ofNat_of_zero_le (show 0 ≤ m by have := (Ag em).2.1; omega)
     have e : AO (AR lay) (N : Int) (k : Int) (M : Int) (k : Int) bud0 Sa Fa Ea Sb Fb Eb = Bi (AR lay) (BF bud0) k (A5 Sa) (A5 Fa) (A7 Ea) (A5 Sb) (A5 Fb) (A7 Eb) := by
      unfold AO
      rw [if_pos ⟨em, em'⟩, if_pos rfl, Int.toNat_natCast]
     rw [e]
     exact MI w lay N M k bud0 a1 a2 a3 b1 b2 b3 c1 c2 c3 d1 d2 d3 Sa Fa Sb Fb Ea Eb hA hB h1 h2 h3 h4 h5 h6 hc hc' em em'
   · have e : AO (AR lay) n m n' m' bud0 Sa Fa Ea Sb Fb Eb = B7 6 := by
      unfold AO
      rw [if_pos ⟨em, em'⟩, if_neg hm]
     rw [e]
     exact L9 w lay n m n' m' bud0 a1 a2 a3 b1 b2 b3 c1 c2 c3 d1 d2 d3 Sa Fa Sb Fb Ea Eb hA hB h1 h2 h3 h4 h5 h6 hc hc' em em' hm
theorem Gt (w : World) (n m n' m' bud0 : Int) (a1 a2 a3 b1 b2 b3 : Option Addr) (c1 c2 c3 d1 d2 d3 : Nat) (Sa Fa Sb Fb : List Int) (Ea Eb : List Aa) (hA : Hid (AP w a1 a2 a3 Sa Fa Ea)) (hB : Hid (AP w b1 b2 b3 Sb Fb Eb)) (h1 : Sa.length ≤ 2000000) (h2 : Fa.length ≤ 2000000) (h3 : Ea.length ≤ 2000000) (h4 : Sb.length ≤ 2000000) (h5 : Fb.length ≤ 2000000) (h6 : Eb.length ≤ 2000000) (hc : Ea.length ≤ c3) (hc' : Eb.length ≤ d3) : Calls prog 11 #[.agg #[.int .i64 n, .int .i64 m, .slice a1 Sa.length c1, .slice a2 Fa.length c2, .slice a3 Ea.length c3], .agg #[.int .i64 n', .int .i64 m', .slice b1 Sb.length d1, .slice b2 Fb.length d2, .slice b3 Eb.length d3], .int .i64 bud0] w (DR w (AO (AR false) n m n' m' bud0 Sa Fa Ea Sb Fb Eb)) := by
 obtain ⟨W0, hW0⟩ : ∃ W0, ((w.alloc (.cells #[.int .i64 n, .int .i64 m, .slice a1 Sa.length c1, .slice a2 Fa.length c2, .slice a3 Ea.length c3] 25)).alloc (.cells #[.int .i64 n', .int .i64 m', .slice b1 Sb.length d1, .slice b2 Fb.length d2, .slice b3 Eb.length d3] 25)).alloc (.cells #[.int .i64 0, .int .i64 0, .slice none 0 0, .slice none 0 0, .slice none 0 0] 25) = W0 := ⟨_, rfl⟩
 have HD := A0 (BH w #[.int .i64 n, .int .i64 m, .slice a1 Sa.length c1, .slice a2 Fa.length c2, .slice a3 Ea.length c3] #[.int .i64 n', .int .i64 m', .slice b1 Sb.length d1, .slice b2 Fb.length d2, .slice b3 Eb.length d3] #[.int .i64 0, .int .i64 0, .slice none 0 0, .slice none 0 0, .slice none 0 0] 25)
 rw [hW0] at HD
 have TB := Iz W0 false n m n' m' bud0 a1 a2 a3 b1 b2 b3 c1 c2 c3 d1 d2 d3 Sa Fa Sb Fb Ea Eb (A0 (hA.out.on HD.out.1)) (A0 (hB.out.on HD.out.1)) h1 h2 h3 h4 h5 h6 hc hc'
 generalize AO (AR false) n m n' m' bud0 Sa Fa Ea Sb Fb Eb = r at *
 obtain ⟨yc0, yc1, yc2, yc3, yc4⟩ := An HD.out.2.1 rfl rfl rfl rfl rfl
 obtain ⟨xc0, xc1, xc2, xc3, xc4⟩ := An HD.out.2.2.1 rfl rfl rfl rfl rfl
 go_enter func11, ntmps11
 go_upto_region 2 with (go_at_call 24; refine TB.mono ?_; rintro e w1 ⟨x1, y1, x2, y2, x3, y3, xp, yp, rfl, H1, D1⟩; have HD1 := A0 D1; clear D1)
 clear TB yc0 xc0 yc1 xc1 yc2 xc2 yc3 xc3 yc4 xc4
 obtain ⟨W9, hW9⟩ : ∃ V, w1.alloc (.cells #[.int .i64 r.n, .int .i64 r.m, .slice x1 r.S.length y1, .slice x2 r.F.length y2, .slice x3 r.E.length y3] 25) = V := ⟨_, rfl⟩
 have HB9 : Hid (AE W0.heap.size W9 (.slice x1 r.S.length y1) (.slice x2 r.F.length y2) (.slice x3 r.E.length y3) r.S r.F r.E ∧ W9.ownsRow W0.heap.size 57 2 (.slice xp r.ps.length yp) r.ps.length (r.ps.flatMap Bn) ∧ Below W0.heap.size W0 W9 ∧ W9.heap[w1.heap.size]? = some (.cells #[.int .i64 r.n, .int .i64 r.m, .slice x1 r.S.length y1, .slice x2 r.F.length y2, .slice x3 r.E.length y3] 25 (0, 0))) := A0 (by
  have k : Below w1.heap.size w1 W9 := by rw [← hW9]; exact (Below.refl _ _).alloc (Nat.le_refl _) _
  have z := World.alloc_heap_new w1 (.cells #[.int .i64 r.n, .int .i64 r.m, .slice x1 r.S.length y1, .slice x2 r.F.length y2, .slice x3 r.E.length y3] 25)
  rw [hW9] at z
  exact ⟨H1.out.1.on k, A6 H1.out.2 k, HD1.out.trans (k.mono HD1.out.size), z⟩)
 rw [hW9]
 clear hW9
 have F4 := A3 HD.out.2.2.2.1 HB9.out.2.2.1
 obtain ⟨o0, o1, o2, o3, o4⟩ := An F4 rfl rfl rfl rfl rfl
 have fz0 : W9.frozen? ⟨w.heap.size + 1 + 1, 0, none⟩ = false := A4 F4
 have fz1 : W9.frozen? ⟨w.heap.size + 1 + 1, 1, none⟩ = false := A4 F4
 have fz2 : W9.frozen? ⟨w.heap.size + 1 + 1, 2, none⟩ = false := A4 F4
 have fz3 : W9.frozen? ⟨w.heap.size + 1 + 1, 3, none⟩ = false := A4 F4
 have fz4 : W9.frozen? ⟨w.heap.size + 1 + 1, 4, none⟩ = false := A4 F4
 obtain ⟨u0, u1, u2, u3, u4⟩ := An HB9.out.2.2.2 rfl rfl rfl rfl rfl
 have hne : w1.heap.size ≠ w.heap.size + 1 + 1 := by have := HD.out.2.2.2.2; have := HD1.out.size; omega
 have HF4 := A0 F4
 clear F4
 go_wp2_with fail
 have O6 := A0 (And.intro (AT W9 (w.heap.size + 1 + 1) _ _ _ _ _ (.int .i64 r.n) (.int .i64 r.m) (.slice x1 r.S.length y1) (.slice x2 r.F.length y2) (.slice x3 r.E.length y3) 25 HF4.out) (AF W9 (w.heap.size + 1 + 1) (.int .i64 r.n) (.int .i64 r.m) (.slice x1 r.S.length y1) (.slice x2 r.F.length y2) (.slice x3 r.E.length y3)))
 refine bodyPost_ret (As (p := 6) (q := 7) (r := 8) (ty := 25) rfl _ _ (w.heap.size + 1 + 1) 25 _ (0, 0) _ _ _ rfl rfl rfl O6.out.1 underlying25 rfl (by kernel_rfl)) rfl ?_
 have s2 := HD.out.2.2.2.2
 have HOO : Hid (∀ V, Ab W9 V (fun k => k = w.heap.size + 1 + 1) → (AE w.heap.size V (.slice x1 r.S.length y1) (.slice x2 r.F.length y2) (.slice x3 r.E.length y3) r.S r.F r.E ∧ V.ownsRow w.heap.size 57 2 (.slice xp r.ps.length yp) r.ps.length (r.ps.flatMap Bn)) ∧ Below w.heap.size w V) := A0 (fun V o => ⟨⟨(HB9.out.1.keep HF4.out o).down (by omega), Ac (Ap HB9.out.2.1 HF4.out (by decide) o) (by omega)⟩, (HD.out.1.trans (HB9.out.2.2.1.mono HD.out.1.size)).trans (o.toBelow (by have := HB9.out.2.2.1.size; omega) (fun k hk => by omega))⟩)
 have q := HOO.out _ O6.out.2
 exact ⟨x1, y1, x2, y2, x3, y3, xp, yp, rfl, A0 q.1, q.2⟩
theorem GD (w : World) (n m n' m' bud0 : Int) (a1 a2 a3 b1 b2 b3 : Option Addr) (c1 c2 c3 d1 d2 d3 : Nat) (Sa Fa Sb Fb : List Int) (Ea Eb : List Aa) (hA : Hid (AP w a1 a2 a3 Sa Fa Ea)) (hB : Hid (AP w b1 b2 b3 Sb Fb Eb)) (h1 : Sa.length ≤ 2000000) (h2 : Fa.length ≤ 2000000) (h3 : Ea.length ≤ 2000000) (h4 : Sb.length ≤ 2000000) (h5 : Fb.length ≤ 2000000) (h6 : Eb.length ≤ 2000000) (hc : Ea.length ≤ c3) (hc' : Eb.length ≤ d3) : Calls prog 12 #[.agg #[.int .i64 n, .int .i64 m, .slice a1 Sa.length c1, .slice a2 Fa.length c2, .slice a3 Ea.length c3], .agg #[.int .i64 n', .int .i64 m', .slice b1 Sb.length d1, .slice b2 Fb.length d2, .slice b3 Eb.length d3], .int .i64 bud0] w (DR w (AO (AR true) n m n' m' bud0 Sa Fa Ea Sb Fb Eb)) := by
 obtain ⟨W0, hW0⟩ : ∃ W0, ((w.alloc (.cells #[.int .i64 n, .int .i64 m, .slice a1 Sa.length c1, .slice a2 Fa.length c2, .slice a3 Ea.length c3] 25)).alloc (.cells #[.int .i64 n', .int .i64 m', .slice b1 Sb.length d1, .slice b2 Fb.length d2, .slice b3 Eb.length d3] 25)).alloc (.cells #[.int .i64 0, .int .i64 0, .slice none 0 0, .slice none 0 0, .slice none 0 0] 25) = W0 := ⟨_, rfl⟩
 have HD := A0 (BH w #[.int .i64 n, .int .i64 m, .slice a1 Sa.length c1, .slice a2 Fa.length c2, .slice a3 Ea.length c3] #[.int .i64 n', .int .i64 m', .slice b1 Sb.length d1, .slice b2 Fb.length d2, .slice b3 Eb.length d3] #[.int .i64 0, .int .i64 0, .slice none 0 0, .slice none 0 0, .slice none 0 0] 25)
 rw [hW0] at HD
 have TB := Iz W0 true n m n' m' bud0 a1 a2 a3 b1 b2 b3 c1 c2 c3 d1 d2 d3 Sa Fa Sb Fb Ea Eb (A0 (hA.out.on HD.out.1)) (A0 (hB.out.on HD.out.1)) h1 h2 h3 h4 h5 h6 hc hc'
 generalize AO (AR true) n m n' m' bud0 Sa Fa Ea Sb Fb Eb = r at *
 obtain ⟨yc0, yc1, yc2, yc3, yc4⟩ := An HD.out.2.1 rfl rfl rfl rfl rfl
 obtain ⟨xc0, xc1, xc2, xc3, xc4⟩ := An HD.out.2.2.1 rfl rfl rfl rfl rfl
 go_enter func12, ntmps12
 go_upto_region 2 with (go_at_call 24; refine TB.mono ?_; rintro e w1 ⟨x1, y1, x2, y2, x3, y3, xp, yp, rfl, H1, D1⟩; have HD1 := A0 D1; clear D1)
 clear TB yc0 xc0 yc1 xc1 yc2 xc2 yc3 xc3 yc4 xc4
 obtain ⟨W9, hW9⟩ : ∃ V, w1.alloc (.cells #[.int .i64 r.n, .int .i64 r.m, .slice x1 r.S.length y1, .slice x2 r.F.length y2, .slice x3 r.E.length y3] 25) = V := ⟨_, rfl⟩
 have HB9 : Hid (AE W0.heap.size W9 (.slice x1 r.S.length y1) (.slice x2 r.F.length y2) (.slice x3 r.E.length y3) r.S r.F r.E ∧ W9.ownsRow W0.heap.size 57 2 (.slice xp r.ps.length yp) r.ps.length (r.ps.flatMap Bn) ∧ Below W0.heap.size W0 W9 ∧ W9.heap[w1.heap.size]? = some (.cells #[.int .i64 r.n, .int .i64 r.m, .slice x1 r.S.length y1, .slice x2 r.F.length y2, .slice x3 r.E.length y3] 25 (0, 0))) := A0 (by
  have k : Below w1.heap.size w1 W9 := by rw [← hW9]; exact (Below.refl _ _).alloc (Nat.le_refl _) _
  have z := World.alloc_heap_new w1 (.cells #[.int .i64 r.n, .int .i64 r.m, .slice x1 r.S.length y1, .slice x2 r.F.length y2, .slice x3 r.E.length y3] 25)
  rw [hW9] at z
  exact ⟨H1.out.1.on k, A6 H1.out.2 k, HD1.out.trans (k.mono HD1.out.size), z⟩)
 rw [hW9]
 clear hW9
 have F4 := A3 HD.out.2.2.2.1 HB9.out.2.2.1
 obtain ⟨o0, o1, o2, o3, o4⟩ := An F4 rfl rfl rfl rfl rfl
 have fz0 : W9.frozen? ⟨w.heap.size + 1 + 1, 0, none⟩ = false := A4 F4
 have fz1 : W9.frozen? ⟨w.heap.size + 1 + 1, 1, none⟩ = false := A4 F4
 have fz2 : W9.frozen? ⟨w.heap.size + 1 + 1, 2, none⟩ = false := A4 F4
 have fz3 : W9.frozen? ⟨w.heap.size + 1 + 1, 3, none⟩ = false := A4 F4
 have fz4 : W9.frozen? ⟨w.heap.size + 1 + 1, 4, none⟩ = false := A4 F4
 obtain ⟨u0, u1, u2, u3, u4⟩ := An HB9.out.2.2.2 rfl rfl rfl rfl rfl
 have hne : w1.heap.size ≠ w.heap.size + 1 + 1 := by have := HD.out.2.2.2.2; have := HD1.out.size; omega
 have HF4 := A0 F4
 clear F4
 go_wp2_with fail
 have O6 := A0 (And.intro (AT W9 (w.heap.size + 1 + 1) _ _ _ _ _ (.int .i64 r.n) (.int .i64 r.m) (.slice x1 r.S.length y1) (.slice x2 r.F.length y2) (.slice x3 r.E.length y3) 25 HF4.out) (AF W9 (w.heap.size + 1 + 1) (.int .i64 r.n) (.int .i64 r.m) (.slice x1 r.S.length y1) (.slice x2 r.F.length y2) (.slice x3 r.E.length y3)))
 refine bodyPost_ret (As (p := 6) (q := 7) (r := 8) (ty := 25) rfl _ _ (w.heap.size + 1 + 1) 25 _ (0, 0) _ _ _ rfl rfl rfl O6.out.1 underlying25 rfl (by kernel_rfl)) rfl ?_
 have s2 := HD.out.2.2.2.2
 have HOO : Hid (∀ V, Ab W9 V (fun k => k = w.heap.size + 1 + 1) → (AE w.heap.size V (.slice x1 r.S.length y1) (.slice x2 r.F.length y2) (.slice x3 r.E.length y3) r.S r.F r.E ∧ V.ownsRow w.heap.size 57 2 (.slice xp r.ps.length yp) r.ps.length (r.ps.flatMap Bn)) ∧ Below w.heap.size w V) := A0 (fun V o => ⟨⟨(HB9.out.1.keep HF4.out o).down (by omega), Ac (Ap HB9.out.2.1 HF4.out (by decide) o) (by omega)⟩, (HD.out.1.trans (HB9.out.2.2.1.mono HD.out.1.size)).trans (o.toBelow (by have := HB9.out.2.2.1.size; omega) (fun k hk => by omega))⟩)
 have q := HOO.out _ O6.out.2
 exact ⟨x1, y1, x2, y2, x3, y3, xp, yp, rfl, A0 q.1, q.2⟩
theorem LS (w : World) (n m n' m' bud0 : Int) (a1 a2 a3 b1 b2 b3 : Option Addr) (c1 c2 c3 d1 d2 d3 : Nat) (Sa Fa Sb Fb : List Int) (Ea Eb : List Aa) (hA : Hid (AP w a1 a2 a3 Sa Fa Ea)) (hB : Hid (AP w b1 b2 b3 Sb Fb Eb)) (h1 : Sa.length ≤ 2000000) (h2 : Fa.length ≤ 2000000) (h3 : Ea.length ≤ 2000000) (h4 : Sb.length ≤ 2000000) (h5 : Fb.length ≤ 2000000) (h6 : Eb.length ≤ 2000000) : Calls prog 13 #[.bool false, .agg #[.int .i64 n, .int .i64 m, .slice a1 Sa.length c1, .slice a2 Fa.length c2, .slice a3 Ea.length c3], .agg #[.int .i64 n', .int .i64 m', .slice b1 Sb.length d1, .slice b2 Fb.length d2, .slice b3 Eb.length d3], .int .i64 bud0] w (DR w (AO (AR false) n m n' m' bud0 Sa Fa Ea Sb Fb Eb)) := by
 obtain ⟨W0, hW0⟩ : ∃ W0, ((w.alloc (.cells #[.int .i64 n, .int .i64 m, .slice a1 Sa.length c1, .slice a2 Fa.length c2, .slice a3 Ea.length c3] 25)).alloc (.cells #[.int .i64 n', .int .i64 m', .slice b1 Sb.length d1, .slice b2 Fb.length d2, .slice b3 Eb.length d3] 25)).alloc (.cells #[.int .i64 0, .int .i64 0, .slice none 0 0, .slice none 0 0, .slice none 0 0] 25) = W0 := ⟨_, rfl⟩
 have HD := A0 (BH w #[.int .i64 n, .int .i64 m, .slice a1 Sa.length c1, .slice a2 Fa.length c2, .slice a3 Ea.length c3] #[.int .i64 n', .int .i64 m', .slice b1 Sb.length d1, .slice b2 Fb.length d2, .slice b3 Eb.length d3] #[.int .i64 0, .int .i64 0, .slice none 0 0, .slice none 0 0, .slice none 0 0] 25)
 rw [hW0] at HD
 have TB := Ob W0 n m n' m' bud0 a1 a2 a3 b1 b2 b3 c1 c2 c3 d1 d2 d3 Sa Fa Sb Fb Ea Eb (A0 (hA.out.on HD.out.1)) (A0 (hB.out.on HD.out.1)) h1 h2 h3 h4 h5 h6
 rw [show Cq = AR false from rfl] at TB
 generalize AO (AR false) n m n' m' bud0 Sa Fa Ea Sb Fb Eb = r at *
 obtain ⟨yc0, yc1, yc2, yc3, yc4⟩ := An HD.out.2.1 rfl rfl rfl rfl rfl
 obtain ⟨xc0, xc1, xc2, xc3, xc4⟩ := An HD.out.2.2.1 rfl rfl rfl rfl rfl
 go_enter func13, ntmps13
 go_wp2_with (go_at_call 25; refine TB.mono ?_; rintro e w1 ⟨x1, y1, x2, y2, x3, y3, xp, yp, rfl, H1, D1⟩; have HD1 := A0 D1; clear D1; have F4 := A3 HD.out.2.2.2.1 HD1.out; obtain ⟨o0, o1, o2, o3, o4⟩ := An F4 rfl rfl rfl rfl rfl; have fz0 : w1.frozen? ⟨w.heap.size + 1 + 1, 0, none⟩ = false := A4 F4; have fz1 : w1.frozen? ⟨w.heap.size + 1 + 1, 1, none⟩ = false := A4 F4; have fz2 : w1.frozen? ⟨w.heap.size + 1 + 1, 2, none⟩ = false := A4 F4; have fz3 : w1.frozen? ⟨w.heap.size + 1 + 1, 3, none⟩ = false := A4 F4; have fz4 : w1.frozen? ⟨w.heap.size + 1 + 1, 4, none⟩ = false := A4 F4; have HF4 := A0 F4; clear F4)
 have HB9 : Hid (AE W0.heap.size w1 (.slice x1 r.S.length y1) (.slice x2 r.F.length y2) (.slice x3 r.E.length y3) r.S r.F r.E ∧ w1.ownsRow W0.heap.size 57 2 (.slice xp r.ps.length yp) r.ps.length (r.ps.flatMap Bn) ∧ Below W0.heap.size W0 w1) := A0 ⟨H1.out.1, H1.out.2, HD1.out⟩
 have O6 := A0 (And.intro (AT w1 (w.heap.size + 1 + 1) _ _ _ _ _ (.int .i64 r.n) (.int .i64 r.m) (.slice x1 r.S.length y1) (.slice x2 r.F.length y2) (.slice x3 r.E.length y3) 25 HF4.out) (AF w1 (w.heap.size + 1 + 1) (.int .i64 r.n) (.int .i64 r.m) (.slice x1 r.S.length y1) (.slice x2 r.F.length y2) (.slice x3 r.E.length y3)))
 refine bodyPost_ret (As (p := 8) (q := 9) (r := 10) (ty := 25) rfl _ _ (w.heap.size + 1 + 1) 25 _ (0, 0) _ _ _ rfl rfl rfl O6.out.1 underlying25 rfl (by kernel_rfl)) rfl ?_
 have s2 := HD.out.2.2.2.2
 have HOO : Hid (∀ V, Ab w1 V (fun k => k = w.heap.size + 1 + 1) → (AE w.heap.size V (.slice x1 r.S.length y1) (.slice x2 r.F.length y2) (.slice x3 r.E.length y3) r.S r.F r.E ∧ V.ownsRow w.heap.size 57 2 (.slice xp r.ps.length yp) r.ps.length (r.ps.flatMap Bn)) ∧ Below w.heap.size w V) := A0 (fun V o => ⟨⟨(HB9.out.1.keep HF4.out o).down (by omega), Ac (Ap HB9.out.2.1 HF4.out (by decide) o) (by omega)⟩, (HD.out.1.trans (HB9.out.2.2.mono HD.out.1.size)).trans (o.toBelow (by have := HB9.out.2.2.size; omega) (fun k hk => by omega))⟩)
 have q := HOO.out _ O6.out.2
 exact ⟨x1, y1, x2, y2, x3, y3, xp, yp, rfl, A0 q.1, q.2⟩
theorem M1 (w : World) (n m n' m' bud0 : Int) (a1 a2 a3 b1 b2 b3 : Option Addr) (c1 c2 c3 d1 d2 d3 : Nat) (Sa Fa Sb Fb : List Int) (Ea Eb : List Aa) (hA : Hid (AP w a1 a2 a3 Sa Fa Ea)) (hB : Hid (AP w b1 b2 b3 Sb Fb Eb)) (h1 : Sa.length ≤ 2000000) (h2 : Fa.length ≤ 2000000) (h3 : Ea.length ≤ 2000000) (h4 : Sb.length ≤ 2000000) (h5 : Fb.length ≤ 2000000) (h6 : Eb.length ≤ 2000000) : Calls prog 13 #[.bool true, .agg #[.int .i64 n, .int .i64 m, .slice a1 Sa.length c1, .slice a2 Fa.length c2, .slice a3 Ea.length c3], .agg #[.int .i64 n', .int .i64 m', .slice b1 Sb.length d1, .slice b2 Fb.length d2, .slice b3 Eb.length d3], .int .i64 bud0] w (DR w (AO (AR true) n m n' m' bud0 Sa Fa Ea Sb Fb Eb)) := by
 obtain ⟨W0, hW0⟩ : ∃ W0, ((w.alloc (.cells #[.int .i64 n, .int .i64 m, .slice a1 Sa.length c1, .slice a2 Fa.length c2, .slice a3 Ea.length c3] 25)).alloc (.cells #[.int .i64 n', .int .i64 m', .slice b1 Sb.length d1, .slice b2 Fb.length d2, .slice b3 Eb.length d3] 25)).alloc (.cells #[.int .i64 0, .int .i64 0, .slice none 0 0, .slice none 0 0, .slice none 0 0] 25) = W0 := ⟨_, rfl⟩
 have HD := A0 (BH w #[.int .i64 n, .int .i64 m, .slice a1 Sa.length c1, .slice a2 Fa.length c2, .slice a3 Ea.length c3] #[.int .i64 n', .int .i64 m', .slice b1 Sb.length d1, .slice b2 Fb.length d2, .slice b3 Eb.length d3] #[.int .i64 0, .int .i64 0, .slice none 0 0, .slice none 0 0, .slice none 0 0] 25)
 rw [hW0] at HD
 have TB := OO W0 n m n' m' bud0 a1 a2 a3 b1 b2 b3 c1 c2 c3 d1 d2 d3 Sa Fa Sb Fb Ea Eb (A0 (hA.out.on HD.out.1)) (A0 (hB.out.on HD.out.1)) h1 h2 h3 h4 h5 h6
 rw [show Cr = AR true from rfl] at TB
 generalize AO (AR true) n m n' m' bud0 Sa Fa Ea Sb Fb Eb = r at *
 obtain ⟨yc0, yc1, yc2, yc3, yc4⟩ := An HD.out.2.1 rfl rfl rfl rfl rfl
 obtain ⟨xc0, xc1, xc2, xc3, xc4⟩ := An HD.out.2.2.1 rfl rfl rfl rfl rfl
 go_enter func13, ntmps13
 go_wp2_with (go_at_call 6; refine TB.mono ?_; rintro e w1 ⟨x1, y1, x2, y2, x3, y3, xp, yp, rfl, H1, D1⟩; have HD1 := A0 D1; clear D1; have F4 := A3 HD.out.2.2.2.1 HD1.out; obtain ⟨o0, o1, o2, o3, o4⟩ := An F4 rfl rfl rfl rfl rfl; have fz0 : w1.frozen? ⟨w.heap.size + 1 + 1, 0, none⟩ = false := A4 F4; have fz1 : w1.frozen? ⟨w.heap.size + 1 + 1, 1, none⟩ = false := A4 F4; have fz2 : w1.frozen? ⟨w.heap.size + 1 + 1, 2, none⟩ = false := A4 F4; have fz3 : w1.frozen? ⟨w.heap.size + 1 + 1, 3, none⟩ = false := A4 F4; have fz4 : w1.frozen? ⟨w.heap.size + 1 + 1, 4, none⟩ = false := A4 F4; have HF4 := A0 F4; clear F4)
 have HB9 : Hid (AE W0.heap.size w1 (.slice x1 r.S.length y1) (.slice x2 r.F.length y2) (.slice x3 r.E.length y3) r.S r.F r.E ∧ w1.ownsRow W0.heap.size 57 2 (.slice xp r.ps.length yp) r.ps.length (r.ps.flatMap Bn) ∧ Below W0.heap.size W0 w1) := A0 ⟨H1.out.1, H1.out.2, HD1.out⟩
 have O6 := A0 (And.intro (AT w1 (w.heap.size + 1 + 1) _ _ _ _ _ (.int .i64 r.n) (.int .i64 r.m) (.slice x1 r.S.length y1) (.slice x2 r.F.length y2) (.slice x3 r.E.length y3) 25 HF4.out) (AF w1 (w.heap.size + 1 + 1) (.int .i64 r.n) (.int .i64 r.m) (.slice x1 r.S.length y1) (.slice x2 r.F.length y2) (.slice x3 r.E.length y3)))
 refine bodyPost_ret (As (p := 8) (q := 9) (r := 10) (ty := 25) rfl _ _ (w.heap.size + 1 + 1) 25 _ (0, 0) _ _ _ rfl rfl rfl O6.out.1 underlying25 rfl (by kernel_rfl)) rfl ?_
 have s2 := HD.out.2.2.2.2
 have HOO : Hid (∀ V, Ab w1 V (fun k => k = w.heap.size + 1 + 1) → (AE w.heap.size V (.slice x1 r.S.length y1) (.slice x2 r.F.length y2) (.slice x3 r.E.length y3) r.S r.F r.E ∧ V.ownsRow w.heap.size 57 2 (.slice xp r.ps.length yp) r.ps.length (r.ps.flatMap Bn)) ∧ Below w.heap.size w V) := A0 (fun V o => ⟨⟨(HB9.out.1.keep HF4.out o).down (by omega), Ac (Ap HB9.out.2.1 HF4.out (by decide) o) (by omega)⟩, (HD.out.1.trans (HB9.out.2.2.mono HD.out.1.size)).trans (o.toBelow (by have := HB9.out.2.2.size; omega) (fun k hk => by omega))⟩)
 have q := HOO.out _ O6.out.2
 exact ⟨x1, y1, x2, y2, x3, y3, xp, yp, rfl, A0 q.1, q.2⟩
end Go.Proofs.YtchoopnjckcohaaGreat
namespace Go.Proofs.YtchoopnjckcohaaGreat
open Go.Proofs.Tryz
open Go.RowKit Go.Maps Go.Shelf
attribute [local go_sem] Oper.semAt_some GZ
theorem Cv (w : World) (a1 a2 : Option Addr) (c1 c2 n : Nat) (L : List Aq) (hn : Hid (L.length = n)) (h1 : Hid (Hq w a1 L)) (h2 : Hid (Hq w a2 L)) (hl : n ≤ 4194304) :
 Calls prog 15 #[.slice a1 n c1, .slice a2 n c2] w fun e w' => e = .returned (.bool true) ∧ Below w.heap.size w w' := by
 have hnn : ((n : Int) != (n : Int)) = false := by simp
 go_enter func15, ntmps15
 go_wp2_with fail
 go_loopw [13] (fun iv wr => ∃ i : Nat, i ≤ n ∧ iv = .int .i64 (i : Int) ∧ Hid (Below w.heap.size w wr)) (fun iv _ => n - (intOf iv).toNat)
 case atStart => exact ⟨0, Nat.zero_le _, rfl, A0 (Below.refl _ _)⟩
 case round =>
  obtain ⟨i, hi, rfl, HY⟩ := hrel
  by_cases hil : i < n
  · have i1 : (i : Int) < (n : Int) := by omega
    have i0 : (0 : Int) ≤ (i : Int) := by omega
    have hiL : i < L.length := by rw [hn.out]; exact hil
    obtain ⟨g1, o1, ea1, q0, q1⟩ := (h1.out.on HY.out) i hiL
    obtain ⟨g2, o2, ea2, q2, q3⟩ := (h2.out.on HY.out) i hiL
    subst ea1
    subst ea2
    generalize L[i] = x at q0 q1 q2 q3
    obtain ⟨x1, x2⟩ := x
    simp only at q0 q1 q2 q3
    have KC : Hid (∀ W, Below wr.heap.size wr W → W.cell? ⟨g1, o1 + i * 2, none⟩ = some (.int .i64 x1) ∧ W.cell? ⟨g1, o1 + i * 2 + 1, none⟩ = some (.int .i64 x2) ∧ W.cell? ⟨g2, o2 + i * 2, none⟩ = some (.int .i64 x1) ∧ W.cell? ⟨g2, o2 + i * 2 + 1, none⟩ = some (.int .i64 x2)) := A0 (fun W d => ⟨(d.cell (p := ⟨g1, o1 + i * 2, none⟩) (World.block_lt_of_cell? wr _ q0)).trans q0, (d.cell (p := ⟨g1, o1 + i * 2 + 1, none⟩) (World.block_lt_of_cell? wr _ q1)).trans q1, (d.cell (p := ⟨g2, o2 + i * 2, none⟩) (World.block_lt_of_cell? wr _ q2)).trans q2, (d.cell (p := ⟨g2, o2 + i * 2 + 1, none⟩) (World.block_lt_of_cell? wr _ q3)).trans q3⟩)
    clear q0 q1 q2 q3
    have k : (x1 == x1 && x2 == x2) = true := by simp
    go_upto_region 6 with fail
    have hmo : AJ 0 [vI 0 (.slice (some ⟨g1, o1, none⟩) n c1), vI 1 (.int .i64 (i : Int)), vI 2 (.pointer (some ⟨g1, o1 + i * 2, none⟩)), vI 3 (.agg #[.int .i64 x1, .int .i64 x2]), vI 4 (.slice (some ⟨g2, o2, none⟩) n c2), vI 5 (.int .i64 (i : Int)), vI 6 (.pointer (some ⟨g2, o2 + i * 2, none⟩)), vI 7 (.agg #[.int .i64 x1, .int .i64 x2])] := ⟨A2 _ _, A2 _ _, A2 _ _, A2 _ _, A2 _ _, A2 _ _, A2 _ _, A2 _ _, trivial⟩
    refine Aj _ (by kernel_rfl) (by kernel_rfl) (by kernel_rfl) (by kernel_rfl) hmo ⟨?o0, ?o1, ?o2, ?o3, ?o4, ?o5, ?o6, ?o7, trivial⟩ ?fin
    case o0 =>
     intro At yy W hy hb d hd K hK
     obtain ⟨s0, s0'⟩ := AG (hb 0 rfl : _ = .slice (some ⟨g1, o1, none⟩) n c1)
     clear hd hy hb
     go_simp
     exact Ak hK hmo d (if_pos rfl)
    case o1 =>
     intro At yy W hy hb d hd K hK
     obtain ⟨s5, s5'⟩ := AG (hb 5 rfl : _ = .int .i64 (i : Int))
     clear hd hy hb
     go_simp
     exact Ak hK hmo d (if_pos rfl)
    case o2 =>
     intro At yy W hy hb d hd K hK
     obtain ⟨s16, s16'⟩ := Ao 0 16 .data hy hd rfl
     obtain ⟨s17, s17'⟩ := Ao 1 17 .data hy hd rfl
     clear hd hy hb
     go_simp
     exact Ak hK hmo d (if_pos rfl)
    case o3 =>
     intro At yy W hy hb d hd K hK
     obtain ⟨s18, s18'⟩ := Ao 2 18 .data hy hd rfl
     clear hd hy hb
     obtain ⟨z1, z2, z3, z4⟩ := KC.out W d
     go_simp
     exact Ak hK hmo d (if_pos rfl)
    case o4 =>
     intro At yy W hy hb d hd K hK
     obtain ⟨s1, s1'⟩ := AG (hb 1 rfl : _ = .slice (some ⟨g2, o2, none⟩) n c2)
     clear hd hy hb
     go_simp
     exact Ak hK hmo d (if_pos rfl)
    case o5 =>
     intro At yy W hy hb d hd K hK
     obtain ⟨s5, s5'⟩ := AG (hb 5 rfl : _ = .int .i64 (i : Int))
     clear hd hy hb
     go_simp
     exact Ak hK hmo d (if_pos rfl)
    case o6 =>
     intro At yy W hy hb d hd K hK
     obtain ⟨s20, s20'⟩ := Ao 4 20 .data hy hd rfl
     obtain ⟨s21, s21'⟩ := Ao 5 21 .data hy hd rfl
     clear hd hy hb
     go_simp
     exact Ak hK hmo d (if_pos rfl)
    case o7 =>
     intro At yy W hy hb d hd K hK
     obtain ⟨s22, s22'⟩ := Ao 6 22 .data hy hd rfl
     clear hd hy hb
     obtain ⟨z1, z2, z3, z4⟩ := KC.out W d
     go_simp
     exact Ak hK hmo d (if_pos rfl)
    case fin =>
     intro yy lo hi W hM
     show wpList _ _ _ [_] _ _
     have e0 := hM.v 0 (by simp) rfl rfl rfl
     have e1 := hM.v 1 (by simp) rfl rfl rfl
     have e2 := hM.v 2 (by simp) rfl rfl rfl
     have e3 := hM.v 3 (by simp) rfl rfl rfl
     have e4 := hM.v 4 (by simp) rfl rfl rfl
     have e5 := hM.v 5 (by simp) rfl rfl rfl
     have e6 := hM.v 6 (by simp) rfl rfl rfl
     have e7 := hM.v 7 (by simp) rfl rfl rfl
     have HDD := A0 hM.d
     simp only [Aw, Act.put, List.take, List.length, List.setIfInBounds_toArray, List.set_cons_zero, List.set_cons_succ, e0, e1, e2, e3, e4, e5, e6, e7]
     clear hM hmo e0 e1 e2 e3 e4 e5 e6 e7
     go_wp2_with fail
     go_roundw
     case rel => exact ⟨i + 1, by omega, by go_num, A0 (HY.out.trans (HDD.out.mono HY.out.size))⟩
     case measure => simp [intOf]; omega
  · have i1 : ¬ (i : Int) < (n : Int) := by omega
    go_wp2_with fail
    go_ret
    exact ⟨rfl, HY.out⟩
theorem CA {bud b2 : Int} : ∀ (T ps : List Aq) (ns : List Int) (ps' : List Aq) (ns' : List Int), Af bud false ps T ns = (0, ps', ns') → ps.Nodup → (ps'.length : Int) ≤ b2 → Af b2 false ps T ns = (0, ps', ns')
 | [], ps, ns, ps', ns', h, _, _ => by rw [Af] at h ⊢; exact h
 | t :: ts, ps, ns, ps', ns', h, hn, hb => by
  by_cases hm : t ∈ ps
  · rw [Hc hm] at h ⊢
    exact CA ts ps _ ps' ns' h hn hb
  · rw [Fu hm] at h ⊢
    by_cases h1 : bud ≤ (ps.length : Int)
    · rw [if_pos h1] at h; cases h
    · rw [if_neg h1] at h
      by_cases h2 : 4096 ≤ ps.length
      · rw [if_pos h2] at h; cases h
      · rw [if_neg h2] at h
        have hn2 : (ps ++ [t]).Nodup := by
         rw [List.nodup_append]
         refine ⟨hn, by simp, fun a ha b hb => ?_⟩
         rw [List.mem_singleton] at hb
         rintro rfl
         exact hm (hb ▸ ha)
        obtain ⟨⟨x, hx⟩, _⟩ := AQ _ _ _ _ _ _ _ _ h hn2
        have hl : ps.length + 1 ≤ ps'.length := by rw [hx, List.length_append, List.length_append]; simp only [List.length_cons, List.length_nil]; omega
        rw [if_neg (by omega), if_neg h2]
        exact CA ts _ _ ps' ns' h hn2 hb
theorem Ee {bud b2 : Int} : ∀ (T ps : List Aq) (ns : List Int) (ps' : List Aq) (ns' : List Int), Af bud false ps T ns = (0, ps', ns') → ps.Nodup → (ps.length : Int) ≤ b2 → b2 < (ps'.length : Int) → (Af b2 false ps T ns).1 = 9
 | [], ps, ns, ps', ns', h, _, h1, h2 => by rw [Af] at h; cases h; omega
 | t :: ts, ps, ns, ps', ns', h, hn, hb1, hb2 => by
  by_cases hm : t ∈ ps
  · rw [Hc hm] at h ⊢
    exact Ee ts ps _ ps' ns' h hn hb1 hb2
  · rw [Fu hm] at h ⊢
    by_cases h1 : bud ≤ (ps.length : Int)
    · rw [if_pos h1] at h; cases h
    · rw [if_neg h1] at h
      by_cases h2 : 4096 ≤ ps.length
      · rw [if_pos h2] at h; cases h
      · rw [if_neg h2] at h
        have hn2 : (ps ++ [t]).Nodup := by
         rw [List.nodup_append]
         refine ⟨hn, by simp, fun a ha b hb => ?_⟩
         rw [List.mem_singleton] at hb
         rintro rfl
         exact hm (hb ▸ ha)
        by_cases h3 : b2 ≤ (ps.length : Int)
        · rw [if_pos h3]
        · rw [if_neg h3, if_neg h2]
          exact Ee ts _ _ ps' ns' h hn2 (by rw [List.length_append]; simp only [List.length_cons, List.length_nil]; omega) hb2
theorem CR {bud : Int} {T : Aq → Nat → List Aq} {m : Nat} : ∀ (k : Nat) (ps : List Aq) (raw : List Aa) (i s : Nat) (ps' : List Aq) (raw' : List Aa), ps.Nodup → Bb bud T m k ps raw i s = (0, ps', raw') → ps.length ≤ ps'.length ∧ ps'.Nodup
 | 0, ps, raw, i, s, ps', raw', hn, h => by rw [Bb] at h; cases h; exact ⟨Nat.le_refl _, hn⟩
 | k + 1, ps, raw, i, s, ps', raw', hn, h => by
  rw [Bb] at h
  cases hx : ps[i]? with
  | none => rw [hx] at h; cases h; exact ⟨Nat.le_refl _, hn⟩
  | some x =>
   rw [hx] at h
   simp only at h
   by_cases hs : s < m
   · rw [if_pos hs] at h
     by_cases he : (Af bud false ps (T x s) []).1 = 0
     · rw [if_pos he] at h
       obtain ⟨⟨y, hy⟩, k2, _⟩ := AQ _ _ _ _ _ _ _ _ (show Af bud false ps (T x s) [] = (0, (Af bud false ps (T x s) []).2.1, (Af bud false ps (T x s) []).2.2) from Prod.ext he rfl) hn
       have q := CR k _ _ _ _ _ _ k2 h
       refine ⟨Nat.le_trans ?_ q.1, q.2⟩
       rw [hy, List.length_append]
       omega
     · rw [if_neg he] at h
       exact absurd (congrArg Prod.fst h) he
   · rw [if_neg hs] at h
     exact CR k _ _ _ _ _ _ hn h
theorem EC {bud b2 : Int} {T : Aq → Nat → List Aq} {m : Nat} : ∀ (k : Nat) (ps : List Aq) (raw : List Aa) (i s : Nat) (ps' : List Aq) (raw' : List Aa), ps.Nodup → Bb bud T m k ps raw i s = (0, ps', raw') → (ps'.length : Int) ≤ b2 → Bb b2 T m k ps raw i s = (0, ps', raw')
 | 0, ps, raw, i, s, ps', raw', _, h, _ => by rw [Bb] at h ⊢; exact h
 | k + 1, ps, raw, i, s, ps', raw', hn, h, hb => by
  rw [Bb] at h ⊢
  cases hx : ps[i]? with
  | none => rw [hx] at h; exact h
  | some x =>
   rw [hx] at h
   simp only at h ⊢
   by_cases hs : s < m
   · rw [if_pos hs] at h ⊢
     by_cases he : (Af bud false ps (T x s) []).1 = 0
     · rw [if_pos he] at h
       have e : Af bud false ps (T x s) [] = (0, (Af bud false ps (T x s) []).2.1, (Af bud false ps (T x s) []).2.2) := Prod.ext he rfl
       obtain ⟨_, k2, _⟩ := AQ _ _ _ _ _ _ _ _ e hn
       have g := CR k _ _ _ _ _ _ k2 h
       have e2 := CA _ _ _ _ _ e hn (show (((Af bud false ps (T x s) []).2.1).length : Int) ≤ b2 by omega)
       rw [e2, if_pos rfl]
       exact EC k _ _ _ _ _ _ k2 h hb
     · rw [if_neg he] at h
       exact absurd (congrArg Prod.fst h) he
   · rw [if_neg hs] at h ⊢
     exact EC k _ _ _ _ _ _ hn h hb
theorem EM {bud b2 : Int} {T : Aq → Nat → List Aq} {m : Nat} : ∀ (k : Nat) (ps : List Aq) (raw : List Aa) (i s : Nat) (ps' : List Aq) (raw' : List Aa), ps.Nodup → Bb bud T m k ps raw i s = (0, ps', raw') → (ps.length : Int) ≤ b2 → b2 < (ps'.length : Int) → Bb b2 T m k ps raw i s = (9, [], [])
 | 0, ps, raw, i, s, ps', raw', _, h, h1, h2 => by rw [Bb] at h; cases h; omega
 | k + 1, ps, raw, i, s, ps', raw', hn, h, h1, h2 => by
  rw [Bb] at h ⊢
  cases hx : ps[i]? with
  | none => rw [hx] at h; cases h; omega
  | some x =>
   rw [hx] at h
   simp only at h ⊢
   by_cases hs : s < m
   · rw [if_pos hs] at h ⊢
     by_cases he : (Af bud false ps (T x s) []).1 = 0
     · rw [if_pos he] at h
       have e : Af bud false ps (T x s) [] = (0, (Af bud false ps (T x s) []).2.1, (Af bud false ps (T x s) []).2.2) := Prod.ext he rfl
       obtain ⟨_, k2, _⟩ := AQ _ _ _ _ _ _ _ _ e hn
       by_cases hl : (((Af bud false ps (T x s) []).2.1).length : Int) ≤ b2
       · rw [CA _ _ _ _ _ e hn hl, if_pos rfl]
         exact EM k _ _ _ _ _ _ k2 h hl h2
       · have e2 := Ee _ _ _ _ _ e hn h1 (by omega)
         rw [if_neg (by rw [e2]; decide), e2]
     · rw [if_neg he] at h
       exact absurd (congrArg Prod.fst h) he
   · rw [if_neg hs] at h ⊢
     exact EM k _ _ _ _ _ _ hn h h1 h2
theorem Jq {r : Int × List Aq × List Aa} {ps : List Aq} {es : List Aa} (h : Ip r = (0, ps, es)) : r.1 = 0 ∧ r.2.1 = ps := by
 unfold Ip at h
 by_cases h1 : r.1 = 0
 · rw [if_pos h1] at h
   by_cases h2 : 65536 < (A7 r.2.2).length
   · rw [if_pos h2] at h; cases h
   · rw [if_neg h2] at h; cases h; exact ⟨h1, rfl⟩
 · rw [if_neg h1] at h
   exact absurd (congrArg Prod.fst h) h1
theorem Ii {TT : List Aa → List Aa → Aq → Nat → List Aq} {bud : Int} {m : Nat} {S1 F1 : List Int} {E1 : List Aa} {S2 F2 : List Int} {E2 : List Aa} (h : (Bi TT bud m S1 F1 E1 S2 F2 E2).er = 0) : ∃ ps0 S0 raw, Af bud false [] (Az S1 S2) [] = (0, ps0, S0) ∧ Bb bud (TT E1 E2) m (4098 * (m + 1)) ps0 [] 0 0 = (0, (Bi TT bud m S1 F1 E1 S2 F2 E2).ps, raw) := by
 unfold Bi at h ⊢
 by_cases h1 : (Af bud false [] (Az S1 S2) []).1 = 0
 · rw [if_pos h1] at h ⊢
   by_cases h2 : (BA bud (TT E1 E2) m (Af bud false [] (Az S1 S2) []).2.1).1 = 0
   · rw [if_pos h2] at h ⊢
     refine ⟨(Af bud false [] (Az S1 S2) []).2.1, (Af bud false [] (Az S1 S2) []).2.2, (Bb bud (TT E1 E2) m (4098 * (m + 1)) (Af bud false [] (Az S1 S2) []).2.1 [] 0 0).2.2, Prod.ext h1 rfl, ?_⟩
     have q := Jq (r := Bb bud (TT E1 E2) m (4098 * (m + 1)) (Af bud false [] (Az S1 S2) []).2.1 [] 0 0) (ps := (BA bud (TT E1 E2) m (Af bud false [] (Az S1 S2) []).2.1).2.1) (es := (BA bud (TT E1 E2) m (Af bud false [] (Az S1 S2) []).2.1).2.2) (Prod.ext h2 rfl)
     exact Prod.ext q.1 (Prod.ext q.2 rfl)
   · rw [if_neg h2] at h
     exact absurd h h2
 · rw [if_neg h1] at h
   exact absurd h h1
theorem Kg {TT : List Aa → List Aa → Aq → Nat → List Aq} {bud b2 : Int} {m : Nat} {S1 F1 : List Int} {E1 : List Aa} {S2 F2 : List Int} {E2 : List Aa} (h : (Bi TT bud m S1 F1 E1 S2 F2 E2).er = 0) (hb : ((Bi TT bud m S1 F1 E1 S2 F2 E2).ps.length : Int) ≤ b2) : Bi TT b2 m S1 F1 E1 S2 F2 E2 = Bi TT bud m S1 F1 E1 S2 F2 E2 := by
 obtain ⟨ps0, S0, raw, h1, h2⟩ := Ii h
 obtain ⟨_, k2, _⟩ := AQ _ _ _ _ _ _ _ _ h1 List.nodup_nil
 have g := CR _ _ _ _ _ _ _ k2 h2
 have e1 := CA _ _ _ _ _ h1 List.nodup_nil (show (ps0.length : Int) ≤ b2 by omega)
 have e2 := EC _ _ _ _ _ _ _ k2 h2 hb
 have hs : BA b2 (TT E1 E2) m ps0 = BA bud (TT E1 E2) m ps0 := by unfold BA; rw [e2, h2]
 clear e2 h2 hb h g
 unfold Bi
 simp only [h1, e1, hs]
theorem Kx {TT : List Aa → List Aa → Aq → Nat → List Aq} {bud b2 : Int} {m : Nat} {S1 F1 : List Int} {E1 : List Aa} {S2 F2 : List Int} {E2 : List Aa} (h : (Bi TT bud m S1 F1 E1 S2 F2 E2).er = 0) (h0 : 0 ≤ b2) (hb : b2 < ((Bi TT bud m S1 F1 E1 S2 F2 E2).ps.length : Int)) : Bi TT b2 m S1 F1 E1 S2 F2 E2 = B7 9 := by
 obtain ⟨ps0, S0, raw, h1, h2⟩ := Ii h
 obtain ⟨_, k2, _⟩ := AQ _ _ _ _ _ _ _ _ h1 List.nodup_nil
 by_cases hl : (ps0.length : Int) ≤ b2
 · refine CB (by decide) (CA _ _ _ _ _ h1 List.nodup_nil hl) ?_
   unfold BA
   rw [EM _ _ _ _ _ _ _ k2 h2 hl hb]
   rfl
 · exact E3 (by decide) (Ee _ _ _ _ _ h1 List.nodup_nil (by simpa using h0) (by omega))
section
variable {TT : List Aa → List Aa → Aq → Nat → List Aq} {n m n' m' bud0 : Int} {Sa Fa : List Int} {Ea : List Aa} {Sb Fb : List Int} {Eb : List Aa}
theorem Fm (h : (AO TT n m n' m' bud0 Sa Fa Ea Sb Fb Eb).er = 0) (b : Int) : AO TT n m n' m' b Sa Fa Ea Sb Fb Eb = Bi TT (BF b) m.toNat (A5 Sa) (A5 Fa) (A7 Ea) (A5 Sb) (A5 Fb) (A7 Eb) := by
 unfold AO at h ⊢
 by_cases h1 : AC n m Sa Fa Ea = true ∧ AC n' m' Sb Fb Eb = true
 · rw [if_pos h1] at h ⊢
   by_cases h2 : m = m'
   · rw [if_pos h2]
   · rw [if_neg h2] at h; exact absurd h (by decide)
 · rw [if_neg h1] at h; exact absurd h (by decide)
theorem JR (h : (AO TT n m n' m' bud0 Sa Fa Ea Sb Fb Eb).er = 0) {k : Nat} (hk : (AO TT n m n' m' bud0 Sa Fa Ea Sb Fb Eb).ps.length = k) (h2 : 2 ≤ k) : AO TT n m n' m' (k : Int) Sa Fa Ea Sb Fb Eb = AO TT n m n' m' bud0 Sa Fa Ea Sb Fb Eb := by
 have e1 := Fm h (k : Int)
 have e2 := Fm h bud0
 rw [e2] at h hk
 rw [e1, e2, show BF (k : Int) = (k : Int) from if_neg (by omega)]
 exact Kg h (by omega)
theorem JU (h : (AO TT n m n' m' bud0 Sa Fa Ea Sb Fb Eb).er = 0) {k : Nat} (hk : (AO TT n m n' m' bud0 Sa Fa Ea Sb Fb Eb).ps.length = k) (h2 : 2 ≤ k) : AO TT n m n' m' ((k : Int) - 1) Sa Fa Ea Sb Fb Eb = B7 9 := by
 have e1 := Fm h ((k : Int) - 1)
 have e2 := Fm h bud0
 rw [e2] at h hk
 rw [e1, show BF ((k : Int) - 1) = (k : Int) - 1 from if_neg (by omega)]
 exact Kx h (by omega) (by omega)
end
end Go.Proofs.YtchoopnjckcohaaGreat
namespace Go.Proofs.YtchoopnjckcohaaGreat
open Go.Proofs.Tryz
open Go.RowKit Go.Maps Go.Shelf
attribute [local go_sem] Oper.semAt_some
theorem Hs {g k n c : Nat} (h : (Value.slice (some ⟨g, 0, none⟩) n c).ownBlock = some k) : k = g := by
 have : g = k := by simpa [Value.ownBlock] using h
 exact this.symm
theorem Dd.onlyR {B : Nat} {w w' : World} {g1 k1 g2 k2 g3 k3 : Nat} {St Fi : List Int} {Ed : List Aa} {R : Nat → Prop} (h : Dd B w g1 k1 g2 k2 g3 k3 St Fi Ed) (o : Ab w w' R) (h1 : ¬ R g1) (h2 : ¬ R g2) (h3 : ¬ R g3) : Dd B w' g1 k1 g2 k2 g3 k3 St Fi Ed := ⟨⟨h.s.le, A9 h.s.rw o (fun _k hk e => h1 (Hs hk ▸ e))⟩, ⟨h.f.le, A9 h.f.rw o (fun _k hk e => h2 (Hs hk ▸ e))⟩, ⟨h.e.le, A9 h.e.rw o (fun _k hk e => h3 (Hs hk ▸ e))⟩, h.n12, h.n13, h.n23⟩
theorem Dd.box {B : Nat} {w : World} {g1 k1 g2 k2 g3 k3 p : Nat} {St Fi : List Int} {Ed : List Aa} {cs : Array Value} {fr : Nat × Nat} (h : Dd B w g1 k1 g2 k2 g3 k3 St Fi Ed) (z : w.heap[p]? = some (.cells cs 25 fr)) : ¬ (p = g1 ∨ p = g2 ∨ p = g3) := by
 rintro (e | e | e)
 · subst e; exact C8 h.s.rw z (by decide) (by simp [Value.ownBlock])
 · subst e; exact C8 h.f.rw z (by decide) (by simp [Value.ownBlock])
 · subst e; exact C8 h.e.rw z (by decide) (by simp [Value.ownBlock])
structure JA (w W : World) (B b1 b2 : Nat) (GA GB : Array Value) (g1 k1 g2 k2 g3 k3 p1 j1 p2 j2 p3 j3 : Nat) (Sa Fa : List Int) (Ea : List Aa) (Sb Fb : List Int) (Eb : List Aa) : Prop where
 x : W.heap[b1]? = some (.cells GA 25 (0, 0))
 y : W.heap[b2]? = some (.cells GB 25 (0, 0))
 a : Dd B W g1 k1 g2 k2 g3 k3 Sa Fa Ea
 b : Dd B W p1 j1 p2 j2 p3 j3 Sb Fb Eb
 be : Below B w W
section
variable {w W W' : World} {B b1 b2 : Nat} {GA GB : Array Value} {g1 k1 g2 k2 g3 k3 p1 j1 p2 j2 p3 j3 : Nat} {Sa Fa Sx Fx : List Int} {Ea Ex : List Aa} {Sb Fb : List Int} {Eb : List Aa}
theorem JA.on (h : JA w W B b1 b2 GA GB g1 k1 g2 k2 g3 k3 p1 j1 p2 j2 p3 j3 Sa Fa Ea Sb Fb Eb) (hB : B ≤ W.heap.size) (d : Below W.heap.size W W') : JA w W' B b1 b2 GA GB g1 k1 g2 k2 g3 k3 p1 j1 p2 j2 p3 j3 Sa Fa Ea Sb Fb Eb := ⟨A3 h.x d, A3 h.y d, h.a.on d, h.b.on d, h.be.trans (d.mono hB)⟩
theorem JA.wa (h : JA w W B b1 b2 GA GB g1 k1 g2 k2 g3 k3 p1 j1 p2 j2 p3 j3 Sa Fa Ea Sb Fb Eb) (cr : ∀ x y, (x = g1 ∨ x = g2 ∨ x = g3) → (y = p1 ∨ y = p2 ∨ y = p3) → x ≠ y) (l : Dd B W' g1 k1 g2 k2 g3 k3 Sx Fx Ex) (o : Ab W W' (fun j => j = g1 ∨ j = g2 ∨ j = g3)) (hB : B ≤ W.heap.size) : JA w W' B b1 b2 GA GB g1 k1 g2 k2 g3 k3 p1 j1 p2 j2 p3 j3 Sx Fx Ex Sb Fb Eb :=
 ⟨o.cellK h.x (h.a.box h.x), o.cellK h.y (h.a.box h.y), l, h.b.onlyR o (fun e => cr _ p1 e (.inl rfl) rfl) (fun e => cr _ p2 e (.inr (.inl rfl)) rfl) (fun e => cr _ p3 e (.inr (.inr rfl)) rfl), h.be.trans (o.toBelow hB (fun k hk => by
  rcases hk with e | e | e
  · rw [e]; exact h.a.s.lt.1
  · rw [e]; exact h.a.f.lt.1
  · rw [e]; exact h.a.e.lt.1))⟩
theorem JA.wb (h : JA w W B b1 b2 GA GB g1 k1 g2 k2 g3 k3 p1 j1 p2 j2 p3 j3 Sa Fa Ea Sb Fb Eb) (cr : ∀ x y, (x = g1 ∨ x = g2 ∨ x = g3) → (y = p1 ∨ y = p2 ∨ y = p3) → x ≠ y) (l : Dd B W' p1 j1 p2 j2 p3 j3 Sx Fx Ex) (o : Ab W W' (fun j => j = p1 ∨ j = p2 ∨ j = p3)) (hB : B ≤ W.heap.size) : JA w W' B b1 b2 GA GB g1 k1 g2 k2 g3 k3 p1 j1 p2 j2 p3 j3 Sa Fa Ea Sx Fx Ex :=
 ⟨o.cellK h.x (h.b.box h.x), o.cellK h.y (h.b.box h.y), h.a.onlyR o (fun e => cr g1 _ (.inl rfl) e rfl) (fun e => cr g2 _ (.inr (.inl rfl)) e rfl) (fun e => cr g3 _ (.inr (.inr rfl)) e rfl), l, h.be.trans (o.toBelow hB (fun k hk => by
  rcases hk with e | e | e
  · rw [e]; exact h.b.s.lt.1
  · rw [e]; exact h.b.f.lt.1
  · rw [e]; exact h.b.e.lt.1))⟩
end
theorem CZ (n m : Int) (S F : List Int) (E : List Aa) : KT n m n m S F E S F E = true := decide_eq_true ⟨rfl, rfl, rfl, rfl, rfl⟩
def OY (r : OS) : Prop := r.S.length ≤ 4000000 ∧ r.F.length ≤ 4000000 ∧ r.E.length ≤ 1000000 ∧ r.ps.length ≤ 4096
theorem Fz (er : Int) : OY (B7 er) := ⟨Nat.zero_le _, Nat.zero_le _, Nat.zero_le _, Nat.zero_le _⟩
theorem Ov {bud : Int} {T : List Aq} {ps : List Aq} {ns : List Int} (h : Af bud false [] T [] = (0, ps, ns)) : ns.length = T.length := by
 rw [Ev _ _ _ _ _ List.nodup_nil h, List.nil_append, List.length_map]
theorem FU {bud : Int} {T : Aq → Nat → List Aq} {m : Nat} : ∀ (k : Nat) (ps : List Aq) (raw : List Aa) (i s : Nat), ps.length ≤ 4096 → (Bb bud T m k ps raw i s).2.1.length ≤ 4096
 | 0, ps, raw, i, s, h => by rw [Bb]; exact h
 | k + 1, ps, raw, i, s, h => by
  rw [Bb]
  cases hx : ps[i]? with
  | none => exact h
  | some x =>
   simp only
   split
   · split
     · exact FU k _ _ _ _ (Ch _ _ _ _ _ h)
     · exact Nat.zero_le _
   · exact FU k _ _ _ _ h
theorem Lj {TT : List Aa → List Aa → Aq → Nat → List Aq} {bud : Int} {m : Nat} {S1 F1 : List Int} {E1 : List Aa} {S2 F2 : List Int} {E2 : List Aa} (hn : (Az S1 S2).Nodup) : OY (Bi TT bud m S1 F1 E1 S2 F2 E2) := by
 unfold Bi
 split
 · rename_i h1
   have e1 : Af bud false [] (Az S1 S2) [] = (0, (Af bud false [] (Az S1 S2) []).2.1, (Af bud false [] (Az S1 S2) []).2.2) := Prod.ext h1 rfl
   have c0 := Ch bud false (Az S1 S2) [] [] (Nat.zero_le _)
   split
   · rename_i h2
     have q := Jq (r := Bb bud (TT E1 E2) m (4098 * (m + 1)) (Af bud false [] (Az S1 S2) []).2.1 [] 0 0) (ps := (BA bud (TT E1 E2) m (Af bud false [] (Az S1 S2) []).2.1).2.1) (es := (BA bud (TT E1 E2) m (Af bud false [] (Az S1 S2) []).2.1).2.2) (Prod.ext h2 rfl)
     have c1 := FU (bud := bud) (T := TT E1 E2) (m := m) (4098 * (m + 1)) (Af bud false [] (Az S1 S2) []).2.1 [] 0 0 c0
     rw [q.2] at c1
     obtain ⟨_, _, _, k4, _⟩ := AQ _ _ _ _ _ _ _ _ e1 List.nodup_nil
     have c2 := CI hn (k4 rfl).1
     refine ⟨?_, ?_, ?_, c1⟩
     · show ((Af bud false [] (Az S1 S2) []).2.2).length ≤ _
       rw [Ov e1]; omega
     · exact Nat.le_trans (Fg _ _ _ _) (by omega)
     · show (BA bud (TT E1 E2) m (Af bud false [] (Az S1 S2) []).2.1).2.2.length ≤ _
       unfold BA Ip
       split
       · split
         · exact Nat.zero_le _
         · simp only; omega
       · exact Nat.zero_le _
   · exact Fz _
 · exact Fz _
theorem FJ {TT : List Aa → List Aa → Aq → Nat → List Aq} {n m n' m' bud0 : Int} {Sa Fa : List Int} {Ea : List Aa} {Sb Fb : List Int} {Eb : List Aa} : OY (AO TT n m n' m' bud0 Sa Fa Ea Sb Fb Eb) := by
 unfold AO
 split
 · split
   · exact Lj (Fq (ET (Ba Sa)) (ET (Ba Sb)))
   · exact Fz _
 · exact Fz _
theorem Jh (w : World) (B : Nat) (n m n' m' bud0 : Int) (g1 k1 g2 k2 g3 k3 p1 j1 p2 j2 p3 j3 n1 n2 n3 l1 l2 l3 : Nat) (Sa Fa : List Int) (Ea : List Aa) (Sb Fb : List Int) (Eb : List Aa) (HN : Hid ((Sa.length = n1 ∧ Fa.length = n2 ∧ Ea.length = n3) ∧ (Sb.length = l1 ∧ Fb.length = l2 ∧ Eb.length = l3))) (hL : Hid (Dd B w g1 k1 g2 k2 g3 k3 Sa Fa Ea ∧ Dd B w p1 j1 p2 j2 p3 j3 Sb Fb Eb)) (HCR : Hid (∀ x y, (x = g1 ∨ x = g2 ∨ x = g3) → (y = p1 ∨ y = p2 ∨ y = p3) → x ≠ y)) (hB : B ≤ w.heap.size) (h1 : n1 ≤ 2000000) (h2 : n2 ≤ 2000000) (h3 : n3 ≤ 2000000) (h4 : l1 ≤ 2000000) (h5 : l2 ≤ 2000000) (h6 : l3 ≤ 2000000) :
 Calls prog 18 #[.agg #[.int .i64 n, .int .i64 m, .slice (some ⟨g1, 0, none⟩) n1 k1, .slice (some ⟨g2, 0, none⟩) n2 k2, .slice (some ⟨g3, 0, none⟩) n3 k3], .agg #[.int .i64 n', .int .i64 m', .slice (some ⟨p1, 0, none⟩) l1 j1, .slice (some ⟨p2, 0, none⟩) l2 j2, .slice (some ⟨p3, 0, none⟩) l3 j3], .int .i64 bud0] w fun e w' => e = .returned (.bool true) ∧ Hid (Below B w w') := by
 obtain ⟨W0, hW0⟩ : ∃ W0, (w.alloc (.cells #[.int .i64 n, .int .i64 m, .slice (some ⟨g1, 0, none⟩) n1 k1, .slice (some ⟨g2, 0, none⟩) n2 k2, .slice (some ⟨g3, 0, none⟩) n3 k3] 25)).alloc (.cells #[.int .i64 n', .int .i64 m', .slice (some ⟨p1, 0, none⟩) l1 j1, .slice (some ⟨p2, 0, none⟩) l2 j2, .slice (some ⟨p3, 0, none⟩) l3 j3] 25) = W0 := ⟨_, rfl⟩
 have HS0 : Hid (JA w W0 B w.heap.size (w.heap.size + 1) #[.int .i64 n, .int .i64 m, .slice (some ⟨g1, 0, none⟩) n1 k1, .slice (some ⟨g2, 0, none⟩) n2 k2, .slice (some ⟨g3, 0, none⟩) n3 k3] #[.int .i64 n', .int .i64 m', .slice (some ⟨p1, 0, none⟩) l1 j1, .slice (some ⟨p2, 0, none⟩) l2 j2, .slice (some ⟨p3, 0, none⟩) l3 j3] g1 k1 g2 k2 g3 k3 p1 j1 p2 j2 p3 j3 Sa Fa Ea Sb Fb Eb ∧ (Sa.length = n1 ∧ Fa.length = n2 ∧ Ea.length = n3) ∧ (Sb.length = l1 ∧ Fb.length = l2 ∧ Eb.length = l3)) := A0 (by
  have q := Br w #[.int .i64 n, .int .i64 m, .slice (some ⟨g1, 0, none⟩) n1 k1, .slice (some ⟨g2, 0, none⟩) n2 k2, .slice (some ⟨g3, 0, none⟩) n3 k3] #[.int .i64 n', .int .i64 m', .slice (some ⟨p1, 0, none⟩) l1 j1, .slice (some ⟨p2, 0, none⟩) l2 j2, .slice (some ⟨p3, 0, none⟩) l3 j3] 25
  rw [hW0] at q
  exact ⟨⟨q.2.1, q.2.2.1, hL.out.1.on q.1, hL.out.2.on q.1, q.1.mono hB⟩, HN.out.1, HN.out.2⟩)
 go_enter func18, ntmps18
 go_wp2_with fail
 clear hW0 hL HN
 go_loopw [22] (fun jv wr => ∃ (j : Nat) (Sa Fa : List Int) (Ea : List Aa) (Sb Fb : List Int) (Eb : List Aa), j ≤ 6 ∧ jv = .int .i64 (j : Int) ∧ Hid (JA w wr B w.heap.size (w.heap.size + 1) #[.int .i64 n, .int .i64 m, .slice (some ⟨g1, 0, none⟩) n1 k1, .slice (some ⟨g2, 0, none⟩) n2 k2, .slice (some ⟨g3, 0, none⟩) n3 k3] #[.int .i64 n', .int .i64 m', .slice (some ⟨p1, 0, none⟩) l1 j1, .slice (some ⟨p2, 0, none⟩) l2 j2, .slice (some ⟨p3, 0, none⟩) l3 j3] g1 k1 g2 k2 g3 k3 p1 j1 p2 j2 p3 j3 Sa Fa Ea Sb Fb Eb ∧ (Sa.length = n1 ∧ Fa.length = n2 ∧ Ea.length = n3) ∧ (Sb.length = l1 ∧ Fb.length = l2 ∧ Eb.length = l3))) (fun jv _ => 6 - (intOf jv).toNat)
 case atStart => exact ⟨0, Sa, Fa, Ea, Sb, Fb, Eb, Nat.zero_le _, rfl, HS0⟩
 case round =>
  clear HS0
  obtain ⟨j, Sa, Fa, Ea, Sb, Fb, Eb, hj, rfl, HS⟩ := hrel
  by_cases hj6 : j < 6
  · have jj : (j : Int) < 6 := by omega
    obtain ⟨ca0, ca1, ca2, ca3, ca4⟩ := An (HS.out.1.x) rfl rfl rfl rfl rfl
    have T4 := EW wr B (j : Int) n m g1 k1 g2 k2 g3 k3 n1 n2 n3 Sa Fa Ea (A0 HS.out.2.1) (A0 HS.out.1.a) (by omega) (by omega) (by omega)
    go_upto_region 5 with (go_at_call 27; refine T4.mono ?_; rintro e w1 ⟨rfl, HL1, HO1⟩)
    clear ca0 ca1 ca2 ca3 ca4 T4
    have HS1 : Hid (JA w w1 B w.heap.size (w.heap.size + 1) #[.int .i64 n, .int .i64 m, .slice (some ⟨g1, 0, none⟩) n1 k1, .slice (some ⟨g2, 0, none⟩) n2 k2, .slice (some ⟨g3, 0, none⟩) n3 k3] #[.int .i64 n', .int .i64 m', .slice (some ⟨p1, 0, none⟩) l1 j1, .slice (some ⟨p2, 0, none⟩) l2 j2, .slice (some ⟨p3, 0, none⟩) l3 j3] g1 k1 g2 k2 g3 k3 p1 j1 p2 j2 p3 j3 (Sa.map (Dg (j : Int) 0 n)) (Fa.map (Dg (j : Int) 1 n)) (Ea.map (Ig (j : Int))) Sb Fb Eb ∧ ((Sa.map (Dg (j : Int) 0 n)).length = n1 ∧ (Fa.map (Dg (j : Int) 1 n)).length = n2 ∧ (Ea.map (Ig (j : Int))).length = n3) ∧ (Sb.length = l1 ∧ Fb.length = l2 ∧ Eb.length = l3)) := A0 ⟨HS.out.1.wa HCR.out HL1.out HO1.out (by have := HS.out.1.be.size; omega), by simp only [List.length_map]; exact HS.out.2.1, HS.out.2.2⟩
    have HZ1 : Hid (B ≤ w1.heap.size) := A0 (by have := HS1.out.1.be.size; omega)
    clear HL1 HO1 HS
    generalize (Sa.map (Dg (j : Int) 0 n)) = Sx at HS1
    generalize (Fa.map (Dg (j : Int) 1 n)) = Fx at HS1
    generalize (Ea.map (Ig (j : Int))) = Ex at HS1
    obtain ⟨cb0, cb1, cb2, cb3, cb4⟩ := An (HS1.out.1.y) rfl rfl rfl rfl rfl
    have ej : IntKind.i64.wrap ((j : Int) - 3) = (j : Int) - 3 := by rw [IntKind.wrap_i64]; omega
    have T5 := EW w1 B ((j : Int) - 3) n' m' p1 j1 p2 j2 p3 j3 l1 l2 l3 Sb Fb Eb (A0 HS1.out.2.2) (A0 HS1.out.1.b) (by omega) (by omega) (by omega)
    go_upto_region 6 with (go_at_call 27; refine T5.mono ?_; rintro e w2 ⟨rfl, HL2, HO2⟩)
    clear cb0 cb1 cb2 cb3 cb4 T5 ej
    have HS2 : Hid (JA w w2 B w.heap.size (w.heap.size + 1) #[.int .i64 n, .int .i64 m, .slice (some ⟨g1, 0, none⟩) n1 k1, .slice (some ⟨g2, 0, none⟩) n2 k2, .slice (some ⟨g3, 0, none⟩) n3 k3] #[.int .i64 n', .int .i64 m', .slice (some ⟨p1, 0, none⟩) l1 j1, .slice (some ⟨p2, 0, none⟩) l2 j2, .slice (some ⟨p3, 0, none⟩) l3 j3] g1 k1 g2 k2 g3 k3 p1 j1 p2 j2 p3 j3 Sx Fx Ex (Sb.map (Dg ((j : Int) - 3) 0 n')) (Fb.map (Dg ((j : Int) - 3) 1 n')) (Eb.map (Ig ((j : Int) - 3))) ∧ (Sx.length = n1 ∧ Fx.length = n2 ∧ Ex.length = n3) ∧ ((Sb.map (Dg ((j : Int) - 3) 0 n')).length = l1 ∧ (Fb.map (Dg ((j : Int) - 3) 1 n')).length = l2 ∧ (Eb.map (Ig ((j : Int) - 3))).length = l3)) := A0 ⟨HS1.out.1.wb HCR.out HL2.out HO2.out HZ1.out, HS1.out.2.1, by simp only [List.length_map]; exact HS1.out.2.2⟩
    clear HL2 HO2 HS1
    generalize (Sb.map (Dg ((j : Int) - 3) 0 n')) = Sy at HS2
    generalize (Fb.map (Dg ((j : Int) - 3) 1 n')) = Fy at HS2
    generalize (Eb.map (Ig ((j : Int) - 3))) = Ey at HS2
    have HZ2 : Hid (B ≤ w2.heap.size) := A0 (by have := HS2.out.1.be.size; omega)
    obtain ⟨ca0, ca1, ca2, ca3, ca4⟩ := An (HS2.out.1.x) rfl rfl rfl rfl rfl
    have T6 := Eh w2 n m (some ⟨g1, 0, none⟩) (some ⟨g2, 0, none⟩) (some ⟨g3, 0, none⟩) k1 k2 k3 Sx Fx Ex (A0 HS2.out.1.a.rd) (by have := HS2.out.2.1; omega) (by have := HS2.out.2.1; omega) (by have := HS2.out.2.1; omega) (fun h => by cases h) (fun h => by cases h) (fun h => by cases h)
    rw [HS2.out.2.1.1, HS2.out.2.1.2.1, HS2.out.2.1.2.2] at T6
    go_upto_region 7 with (go_at_call 10; refine T6.mono ?_; rintro e w3 ⟨x1, c1, x2, c2, x3, c3, rfl, HX3, D3⟩)
    clear ca0 ca1 ca2 ca3 ca4 T6
    obtain ⟨W3, hW3⟩ : ∃ V, w3.alloc (.cells #[.int .i64 n, .int .i64 m, .slice (some ⟨x1, 0, none⟩) n1 c1, .slice (some ⟨x2, 0, none⟩) n2 c2, .slice (some ⟨x3, 0, none⟩) n3 c3] 25) = V := ⟨_, rfl⟩
    have HD3 : Hid (Below w2.heap.size w2 W3 ∧ W3.heap[w3.heap.size]? = some (.cells #[.int .i64 n, .int .i64 m, .slice (some ⟨x1, 0, none⟩) n1 c1, .slice (some ⟨x2, 0, none⟩) n2 c2, .slice (some ⟨x3, 0, none⟩) n3 c3] 25 (0, 0)) ∧ Dd w2.heap.size W3 x1 c1 x2 c2 x3 c3 Sx Fx Ex) := A0 (by
     have k : Below w3.heap.size w3 W3 := by rw [← hW3]; exact (Below.refl _ _).alloc (Nat.le_refl _) _
     have z := World.alloc_heap_new w3 (.cells #[.int .i64 n, .int .i64 m, .slice (some ⟨x1, 0, none⟩) n1 c1, .slice (some ⟨x2, 0, none⟩) n2 c2, .slice (some ⟨x3, 0, none⟩) n3 c3] 25)
     rw [hW3] at z
     exact ⟨D3.trans (k.mono D3.size), z, HX3.out.on k⟩)
    rw [hW3]
    clear hW3 HX3 D3
    obtain ⟨cb0, cb1, cb2, cb3, cb4⟩ := An (A3 HS2.out.1.y HD3.out.1) rfl rfl rfl rfl rfl
    have T7 := Eh W3 n' m' (some ⟨p1, 0, none⟩) (some ⟨p2, 0, none⟩) (some ⟨p3, 0, none⟩) j1 j2 j3 Sy Fy Ey (A0 (HS2.out.1.b.rd.on HD3.out.1)) (by have := HS2.out.2.2; omega) (by have := HS2.out.2.2; omega) (by have := HS2.out.2.2; omega) (fun h => by cases h) (fun h => by cases h) (fun h => by cases h)
    rw [HS2.out.2.2.1, HS2.out.2.2.2.1, HS2.out.2.2.2.2] at T7
    go_upto_region 8 with (go_at_call 10; refine T7.mono ?_; rintro e w4 ⟨y1, d1, y2, d2, y3, d3, rfl, HY4, D4⟩)
    clear cb0 cb1 cb2 cb3 cb4 T7
    obtain ⟨W4, hW4⟩ : ∃ V, w4.alloc (.cells #[.int .i64 n', .int .i64 m', .slice (some ⟨y1, 0, none⟩) l1 d1, .slice (some ⟨y2, 0, none⟩) l2 d2, .slice (some ⟨y3, 0, none⟩) l3 d3] 25) = V := ⟨_, rfl⟩
    have HD4 : Hid (Below w2.heap.size w2 W4 ∧ W4.heap[w3.heap.size]? = some (.cells #[.int .i64 n, .int .i64 m, .slice (some ⟨x1, 0, none⟩) n1 c1, .slice (some ⟨x2, 0, none⟩) n2 c2, .slice (some ⟨x3, 0, none⟩) n3 c3] 25 (0, 0)) ∧ W4.heap[w4.heap.size]? = some (.cells #[.int .i64 n', .int .i64 m', .slice (some ⟨y1, 0, none⟩) l1 d1, .slice (some ⟨y2, 0, none⟩) l2 d2, .slice (some ⟨y3, 0, none⟩) l3 d3] 25 (0, 0)) ∧ Dd w2.heap.size W4 x1 c1 x2 c2 x3 c3 Sx Fx Ex ∧ Dd w2.heap.size W4 y1 d1 y2 d2 y3 d3 Sy Fy Ey) := A0 (by
     have k : Below w4.heap.size w4 W4 := by rw [← hW4]; exact (Below.refl _ _).alloc (Nat.le_refl _) _
     have z := World.alloc_heap_new w4 (.cells #[.int .i64 n', .int .i64 m', .slice (some ⟨y1, 0, none⟩) l1 d1, .slice (some ⟨y2, 0, none⟩) l2 d2, .slice (some ⟨y3, 0, none⟩) l3 d3] 25)
     rw [hW4] at z
     have d := D4.trans (k.mono D4.size)
     exact ⟨HD3.out.1.trans (d.mono HD3.out.1.size), A3 HD3.out.2.1 d, z, HD3.out.2.2.on d, (HY4.out.on k).down HD3.out.1.size⟩)
    rw [hW4]
    clear hW4 HY4 D4 HD3
    have HLL : Hid ((Sx.length ≤ 2000000 ∧ Fx.length ≤ 2000000 ∧ Ex.length ≤ 2000000) ∧ (Sy.length ≤ 2000000 ∧ Fy.length ≤ 2000000 ∧ Ey.length ≤ 2000000) ∧ Ex.length ≤ c3 ∧ Ey.length ≤ d3) := A0 (by
     have q1 := HS2.out.2.1
     have q2 := HS2.out.2.2
     have q3 := HD4.out.2.2.2.1.e.le
     have q4 := HD4.out.2.2.2.2.e.le
     omega)
    have HRM : Hid (OY (AO (AR false) n m n' m' bud0 Sx Fx Ex Sy Fy Ey)) := A0 FJ
    have HRS : Hid (OY (AO (AR true) n m n' m' bud0 Sx Fx Ex Sy Fy Ey)) := A0 FJ
    have TM : Hid (∀ V, Below W4.heap.size W4 V → Calls prog 11 #[.agg #[.int .i64 n, .int .i64 m, .slice (some ⟨x1, 0, none⟩) n1 c1, .slice (some ⟨x2, 0, none⟩) n2 c2, .slice (some ⟨x3, 0, none⟩) n3 c3], .agg #[.int .i64 n', .int .i64 m', .slice (some ⟨y1, 0, none⟩) l1 d1, .slice (some ⟨y2, 0, none⟩) l2 d2, .slice (some ⟨y3, 0, none⟩) l3 d3], .int .i64 bud0] V (DR V (AO (AR false) n m n' m' bud0 Sx Fx Ex Sy Fy Ey))) := A0 (fun V d => by
     have q := Gt V n m n' m' bud0 (some ⟨x1, 0, none⟩) (some ⟨x2, 0, none⟩) (some ⟨x3, 0, none⟩) (some ⟨y1, 0, none⟩) (some ⟨y2, 0, none⟩) (some ⟨y3, 0, none⟩) c1 c2 c3 d1 d2 d3 Sx Fx Sy Fy Ex Ey (A0 ((HD4.out.2.2.2.1.on d).rd)) (A0 ((HD4.out.2.2.2.2.on d).rd)) HLL.out.1.1 HLL.out.1.2.1 HLL.out.1.2.2 HLL.out.2.1.1 HLL.out.2.1.2.1 HLL.out.2.1.2.2 HLL.out.2.2.1 HLL.out.2.2.2
     rw [HS2.out.2.1.1, HS2.out.2.1.2.1, HS2.out.2.1.2.2, HS2.out.2.2.1, HS2.out.2.2.2.1, HS2.out.2.2.2.2] at q
     exact q)
    have TS : Hid (∀ V, Below W4.heap.size W4 V → Calls prog 12 #[.agg #[.int .i64 n, .int .i64 m, .slice (some ⟨x1, 0, none⟩) n1 c1, .slice (some ⟨x2, 0, none⟩) n2 c2, .slice (some ⟨x3, 0, none⟩) n3 c3], .agg #[.int .i64 n', .int .i64 m', .slice (some ⟨y1, 0, none⟩) l1 d1, .slice (some ⟨y2, 0, none⟩) l2 d2, .slice (some ⟨y3, 0, none⟩) l3 d3], .int .i64 bud0] V (DR V (AO (AR true) n m n' m' bud0 Sx Fx Ex Sy Fy Ey))) := A0 (fun V d => by
     have q := GD V n m n' m' bud0 (some ⟨x1, 0, none⟩) (some ⟨x2, 0, none⟩) (some ⟨x3, 0, none⟩) (some ⟨y1, 0, none⟩) (some ⟨y2, 0, none⟩) (some ⟨y3, 0, none⟩) c1 c2 c3 d1 d2 d3 Sx Fx Sy Fy Ex Ey (A0 ((HD4.out.2.2.2.1.on d).rd)) (A0 ((HD4.out.2.2.2.2.on d).rd)) HLL.out.1.1 HLL.out.1.2.1 HLL.out.1.2.2 HLL.out.2.1.1 HLL.out.2.1.2.1 HLL.out.2.1.2.2 HLL.out.2.2.1 HLL.out.2.2.2
     rw [HS2.out.2.1.1, HS2.out.2.1.2.1, HS2.out.2.1.2.2, HS2.out.2.2.1, HS2.out.2.2.2.1, HS2.out.2.2.2.2] at q
     exact q)
    have TN : Hid (∀ V, Below W4.heap.size W4 V → Calls prog 13 #[.bool false, .agg #[.int .i64 n, .int .i64 m, .slice (some ⟨g1, 0, none⟩) n1 k1, .slice (some ⟨g2, 0, none⟩) n2 k2, .slice (some ⟨g3, 0, none⟩) n3 k3], .agg #[.int .i64 n', .int .i64 m', .slice (some ⟨p1, 0, none⟩) l1 j1, .slice (some ⟨p2, 0, none⟩) l2 j2, .slice (some ⟨p3, 0, none⟩) l3 j3], .int .i64 bud0] V (DR V (AO (AR false) n m n' m' bud0 Sx Fx Ex Sy Fy Ey))) := A0 (fun V d => by
     have q := LS V n m n' m' bud0 (some ⟨g1, 0, none⟩) (some ⟨g2, 0, none⟩) (some ⟨g3, 0, none⟩) (some ⟨p1, 0, none⟩) (some ⟨p2, 0, none⟩) (some ⟨p3, 0, none⟩) k1 k2 k3 j1 j2 j3 Sx Fx Sy Fy Ex Ey (A0 ((HS2.out.1.a.rd.on HD4.out.1).on d)) (A0 ((HS2.out.1.b.rd.on HD4.out.1).on d)) HLL.out.1.1 HLL.out.1.2.1 HLL.out.1.2.2 HLL.out.2.1.1 HLL.out.2.1.2.1 HLL.out.2.1.2.2
     rw [HS2.out.2.1.1, HS2.out.2.1.2.1, HS2.out.2.1.2.2, HS2.out.2.2.1, HS2.out.2.2.2.1, HS2.out.2.2.2.2] at q
     exact q)
    have TT : Hid (∀ V, Below W4.heap.size W4 V → Calls prog 13 #[.bool true, .agg #[.int .i64 n, .int .i64 m, .slice (some ⟨g1, 0, none⟩) n1 k1, .slice (some ⟨g2, 0, none⟩) n2 k2, .slice (some ⟨g3, 0, none⟩) n3 k3], .agg #[.int .i64 n', .int .i64 m', .slice (some ⟨p1, 0, none⟩) l1 j1, .slice (some ⟨p2, 0, none⟩) l2 j2, .slice (some ⟨p3, 0, none⟩) l3 j3], .int .i64 bud0] V (DR V (AO (AR true) n m n' m' bud0 Sx Fx Ex Sy Fy Ey))) := A0 (fun V d => by
     have q := M1 V n m n' m' bud0 (some ⟨g1, 0, none⟩) (some ⟨g2, 0, none⟩) (some ⟨g3, 0, none⟩) (some ⟨p1, 0, none⟩) (some ⟨p2, 0, none⟩) (some ⟨p3, 0, none⟩) k1 k2 k3 j1 j2 j3 Sx Fx Sy Fy Ex Ey (A0 ((HS2.out.1.a.rd.on HD4.out.1).on d)) (A0 ((HS2.out.1.b.rd.on HD4.out.1).on d)) HLL.out.1.1 HLL.out.1.2.1 HLL.out.1.2.2 HLL.out.2.1.1 HLL.out.2.1.2.1 HLL.out.2.1.2.2
     rw [HS2.out.2.1.1, HS2.out.2.1.2.1, HS2.out.2.1.2.2, HS2.out.2.2.1, HS2.out.2.2.2.1, HS2.out.2.2.2.2] at q
     exact q)
    generalize AO (AR false) n m n' m' bud0 Sx Fx Ex Sy Fy Ey = rM at TM TN HRM
    generalize AO (AR true) n m n' m' bud0 Sx Fx Ex Sy Fy Ey = rS at TS TT HRS
    obtain ⟨ca0, ca1, ca2, ca3, ca4⟩ := An (A3 (HD4.out.2.1) (Below.refl _ _)) rfl rfl rfl rfl rfl
    obtain ⟨cb0, cb1, cb2, cb3, cb4⟩ := An (A3 (HD4.out.2.2.1) (Below.refl _ _)) rfl rfl rfl rfl rfl
    go_upto_region 9 with (go_at_call 11; refine (TM.out _ (Below.refl _ _)).mono ?_; rintro e w_m ⟨u1m, v1m, u2m, v2m, u3m, v3m, upm, vpm, rfl, HO_m, D_m⟩)
    clear ca0 ca1 ca2 ca3 ca4 cb0 cb1 cb2 cb3 cb4 TM
    obtain ⟨W_m, hW_m⟩ : ∃ V, w_m.alloc (.cells #[.int .i64 rM.n, .int .i64 rM.m, .slice u1m rM.S.length v1m, .slice u2m rM.F.length v2m, .slice u3m rM.E.length v3m] 25) = V := ⟨_, rfl⟩
    have HD_m : Hid (Below W4.heap.size W4 W_m ∧ Below W4.heap.size W4 W_m ∧ W_m.heap[w_m.heap.size]? = some (.cells #[.int .i64 rM.n, .int .i64 rM.m, .slice u1m rM.S.length v1m, .slice u2m rM.F.length v2m, .slice u3m rM.E.length v3m] 25 (0, 0)) ∧ AE W4.heap.size W_m (.slice u1m rM.S.length v1m) (.slice u2m rM.F.length v2m) (.slice u3m rM.E.length v3m) rM.S rM.F rM.E ∧ W_m.ownsRow W4.heap.size 57 2 (.slice upm rM.ps.length vpm) rM.ps.length (rM.ps.flatMap Bn)) := A0 (by
     have k : Below w_m.heap.size w_m W_m := by rw [← hW_m]; exact (Below.refl _ _).alloc (Nat.le_refl _) _
     have z := World.alloc_heap_new w_m (.cells #[.int .i64 rM.n, .int .i64 rM.m, .slice u1m rM.S.length v1m, .slice u2m rM.F.length v2m, .slice u3m rM.E.length v3m] 25)
     rw [hW_m] at z
     have d := D_m.trans (k.mono D_m.size)
     have d0 : Below W4.heap.size W4 W4 := (Below.refl _ _)
     exact ⟨d0.trans (d.mono d0.size), d, z, (HO_m.out.1.on k).down d0.size, Ac (A6 HO_m.out.2 k) d0.size⟩)
    rw [hW_m]
    clear hW_m HO_m D_m
    obtain ⟨ca0, ca1, ca2, ca3, ca4⟩ := An (A3 (HD4.out.2.1) HD_m.out.1) rfl rfl rfl rfl rfl
    obtain ⟨cb0, cb1, cb2, cb3, cb4⟩ := An (A3 (HD4.out.2.2.1) HD_m.out.1) rfl rfl rfl rfl rfl
    go_upto_region 10 with (go_at_call 12; refine (TS.out _ HD_m.out.1).mono ?_; rintro e w_s ⟨u1s, v1s, u2s, v2s, u3s, v3s, ups, vps, rfl, HO_s, D_s⟩)
    clear ca0 ca1 ca2 ca3 ca4 cb0 cb1 cb2 cb3 cb4 TS
    obtain ⟨W_s, hW_s⟩ : ∃ V, w_s.alloc (.cells #[.int .i64 rS.n, .int .i64 rS.m, .slice u1s rS.S.length v1s, .slice u2s rS.F.length v2s, .slice u3s rS.E.length v3s] 25) = V := ⟨_, rfl⟩
    have HD_s : Hid (Below W4.heap.size W4 W_s ∧ Below W_m.heap.size W_m W_s ∧ W_s.heap[w_s.heap.size]? = some (.cells #[.int .i64 rS.n, .int .i64 rS.m, .slice u1s rS.S.length v1s, .slice u2s rS.F.length v2s, .slice u3s rS.E.length v3s] 25 (0, 0)) ∧ AE W4.heap.size W_s (.slice u1s rS.S.length v1s) (.slice u2s rS.F.length v2s) (.slice u3s rS.E.length v3s) rS.S rS.F rS.E ∧ W_s.ownsRow W4.heap.size 57 2 (.slice ups rS.ps.length vps) rS.ps.length (rS.ps.flatMap Bn)) := A0 (by
     have k : Below w_s.heap.size w_s W_s := by rw [← hW_s]; exact (Below.refl _ _).alloc (Nat.le_refl _) _
     have z := World.alloc_heap_new w_s (.cells #[.int .i64 rS.n, .int .i64 rS.m, .slice u1s rS.S.length v1s, .slice u2s rS.F.length v2s, .slice u3s rS.E.length v3s] 25)
     rw [hW_s] at z
     have d := D_s.trans (k.mono D_s.size)
     have d0 : Below W4.heap.size W4 W_m := HD_m.out.1
     exact ⟨d0.trans (d.mono d0.size), d, z, (HO_s.out.1.on k).down d0.size, Ac (A6 HO_s.out.2 k) d0.size⟩)
    rw [hW_s]
    clear hW_s HO_s D_s
    obtain ⟨ca0, ca1, ca2, ca3, ca4⟩ := An (A3 (A3 HS2.out.1.x HD4.out.1) HD_s.out.1) rfl rfl rfl rfl rfl
    obtain ⟨cb0, cb1, cb2, cb3, cb4⟩ := An (A3 (A3 HS2.out.1.y HD4.out.1) HD_s.out.1) rfl rfl rfl rfl rfl
    go_upto_region 11 with (go_at_call 13; refine (TN.out _ HD_s.out.1).mono ?_; rintro e w_n ⟨u1n, v1n, u2n, v2n, u3n, v3n, upn, vpn, rfl, HO_n, D_n⟩)
    clear ca0 ca1 ca2 ca3 ca4 cb0 cb1 cb2 cb3 cb4 TN
    obtain ⟨W_n, hW_n⟩ : ∃ V, w_n.alloc (.cells #[.int .i64 rM.n, .int .i64 rM.m, .slice u1n rM.S.length v1n, .slice u2n rM.F.length v2n, .slice u3n rM.E.length v3n] 25) = V := ⟨_, rfl⟩
    have HD_n : Hid (Below W4.heap.size W4 W_n ∧ Below W_s.heap.size W_s W_n ∧ W_n.heap[w_n.heap.size]? = some (.cells #[.int .i64 rM.n, .int .i64 rM.m, .slice u1n rM.S.length v1n, .slice u2n rM.F.length v2n, .slice u3n rM.E.length v3n] 25 (0, 0)) ∧ AE W4.heap.size W_n (.slice u1n rM.S.length v1n) (.slice u2n rM.F.length v2n) (.slice u3n rM.E.length v3n) rM.S rM.F rM.E ∧ W_n.ownsRow W4.heap.size 57 2 (.slice upn rM.ps.length vpn) rM.ps.length (rM.ps.flatMap Bn)) := A0 (by
     have k : Below w_n.heap.size w_n W_n := by rw [← hW_n]; exact (Below.refl _ _).alloc (Nat.le_refl _) _
     have z := World.alloc_heap_new w_n (.cells #[.int .i64 rM.n, .int .i64 rM.m, .slice u1n rM.S.length v1n, .slice u2n rM.F.length v2n, .slice u3n rM.E.length v3n] 25)
     rw [hW_n] at z
     have d := D_n.trans (k.mono D_n.size)
     have d0 : Below W4.heap.size W4 W_s := HD_s.out.1
     exact ⟨d0.trans (d.mono d0.size), d, z, (HO_n.out.1.on k).down d0.size, Ac (A6 HO_n.out.2 k) d0.size⟩)
    rw [hW_n]
    clear hW_n HO_n D_n
    obtain ⟨ca0, ca1, ca2, ca3, ca4⟩ := An (A3 (A3 HS2.out.1.x HD4.out.1) HD_n.out.1) rfl rfl rfl rfl rfl
    obtain ⟨cb0, cb1, cb2, cb3, cb4⟩ := An (A3 (A3 HS2.out.1.y HD4.out.1) HD_n.out.1) rfl rfl rfl rfl rfl
    go_upto_region 12 with (go_at_call 13; refine (TT.out _ HD_n.out.1).mono ?_; rintro e w_t ⟨u1t, v1t, u2t, v2t, u3t, v3t, upt, vpt, rfl, HO_t, D_t⟩)
    clear ca0 ca1 ca2 ca3 ca4 cb0 cb1 cb2 cb3 cb4 TT
    obtain ⟨W_t, hW_t⟩ : ∃ V, w_t.alloc (.cells #[.int .i64 rS.n, .int .i64 rS.m, .slice u1t rS.S.length v1t, .slice u2t rS.F.length v2t, .slice u3t rS.E.length v3t] 25) = V := ⟨_, rfl⟩
    have HD_t : Hid (Below W4.heap.size W4 W_t ∧ Below W_n.heap.size W_n W_t ∧ W_t.heap[w_t.heap.size]? = some (.cells #[.int .i64 rS.n, .int .i64 rS.m, .slice u1t rS.S.length v1t, .slice u2t rS.F.length v2t, .slice u3t rS.E.length v3t] 25 (0, 0)) ∧ AE W4.heap.size W_t (.slice u1t rS.S.length v1t) (.slice u2t rS.F.length v2t) (.slice u3t rS.E.length v3t) rS.S rS.F rS.E ∧ W_t.ownsRow W4.heap.size 57 2 (.slice upt rS.ps.length vpt) rS.ps.length (rS.ps.flatMap Bn)) := A0 (by
     have k : Below w_t.heap.size w_t W_t := by rw [← hW_t]; exact (Below.refl _ _).alloc (Nat.le_refl _) _
     have z := World.alloc_heap_new w_t (.cells #[.int .i64 rS.n, .int .i64 rS.m, .slice u1t rS.S.length v1t, .slice u2t rS.F.length v2t, .slice u3t rS.E.length v3t] 25)
     rw [hW_t] at z
     have d := D_t.trans (k.mono D_t.size)
     have d0 : Below W4.heap.size W4 W_n := HD_n.out.1
     exact ⟨d0.trans (d.mono d0.size), d, z, (HO_t.out.1.on k).down d0.size, Ac (A6 HO_t.out.2 k) d0.size⟩)
    rw [hW_t]
    clear hW_t HO_t D_t
    have HE_m : Hid (W_t.heap[w_m.heap.size]? = some (.cells #[.int .i64 rM.n, .int .i64 rM.m, .slice u1m rM.S.length v1m, .slice u2m rM.F.length v2m, .slice u3m rM.E.length v3m] 25 (0, 0)) ∧ AP W_t u1m u2m u3m rM.S rM.F rM.E ∧ Hq W_t upm rM.ps) := A0 ⟨A3 HD_m.out.2.2.1 (((((HD_s.out.2.1).trans ((HD_n.out.2.1).mono (HD_s.out.2.1).size))).trans ((HD_t.out.2.1).mono (((HD_s.out.2.1).trans ((HD_n.out.2.1).mono (HD_s.out.2.1).size))).size))), (AE.rd HD_m.out.2.2.2.1).on (((((HD_s.out.2.1).trans ((HD_n.out.2.1).mono (HD_s.out.2.1).size))).trans ((HD_t.out.2.1).mono (((HD_s.out.2.1).trans ((HD_n.out.2.1).mono (HD_s.out.2.1).size))).size))), (Bc rfl HD_m.out.2.2.2.2).on (((((HD_s.out.2.1).trans ((HD_n.out.2.1).mono (HD_s.out.2.1).size))).trans ((HD_t.out.2.1).mono (((HD_s.out.2.1).trans ((HD_n.out.2.1).mono (HD_s.out.2.1).size))).size)))⟩
    have HE_s : Hid (W_t.heap[w_s.heap.size]? = some (.cells #[.int .i64 rS.n, .int .i64 rS.m, .slice u1s rS.S.length v1s, .slice u2s rS.F.length v2s, .slice u3s rS.E.length v3s] 25 (0, 0)) ∧ AP W_t u1s u2s u3s rS.S rS.F rS.E ∧ Hq W_t ups rS.ps) := A0 ⟨A3 HD_s.out.2.2.1 (((HD_n.out.2.1).trans ((HD_t.out.2.1).mono (HD_n.out.2.1).size))), (AE.rd HD_s.out.2.2.2.1).on (((HD_n.out.2.1).trans ((HD_t.out.2.1).mono (HD_n.out.2.1).size))), (Bc rfl HD_s.out.2.2.2.2).on (((HD_n.out.2.1).trans ((HD_t.out.2.1).mono (HD_n.out.2.1).size)))⟩
    have HE_n : Hid (W_t.heap[w_n.heap.size]? = some (.cells #[.int .i64 rM.n, .int .i64 rM.m, .slice u1n rM.S.length v1n, .slice u2n rM.F.length v2n, .slice u3n rM.E.length v3n] 25 (0, 0)) ∧ AP W_t u1n u2n u3n rM.S rM.F rM.E ∧ Hq W_t upn rM.ps) := A0 ⟨A3 HD_n.out.2.2.1 (HD_t.out.2.1), (AE.rd HD_n.out.2.2.2.1).on (HD_t.out.2.1), (Bc rfl HD_n.out.2.2.2.2).on (HD_t.out.2.1)⟩
    have HE_t : Hid (W_t.heap[w_t.heap.size]? = some (.cells #[.int .i64 rS.n, .int .i64 rS.m, .slice u1t rS.S.length v1t, .slice u2t rS.F.length v2t, .slice u3t rS.E.length v3t] 25 (0, 0)) ∧ AP W_t u1t u2t u3t rS.S rS.F rS.E ∧ Hq W_t upt rS.ps) := A0 ⟨A3 HD_t.out.2.2.1 ((Below.refl _ _)), (AE.rd HD_t.out.2.2.2.1).on ((Below.refl _ _)), (Bc rfl HD_t.out.2.2.2.2).on ((Below.refl _ _))⟩
    have HB_t : Hid (Below W4.heap.size W4 W_t) := A0 HD_t.out.1
    clear HD_m HD_s HD_n HD_t
    have he1 : (rM.er != rM.er) = false := by simp
    have he2 : (rS.er != rS.er) = false := by simp
    obtain ⟨em0, em1, em2, em3, em4⟩ := An (HE_m.out.1) rfl rfl rfl rfl rfl
    obtain ⟨es0, es1, es2, es3, es4⟩ := An (HE_s.out.1) rfl rfl rfl rfl rfl
    obtain ⟨en0, en1, en2, en3, en4⟩ := An (HE_n.out.1) rfl rfl rfl rfl rfl
    obtain ⟨et0, et1, et2, et3, et4⟩ := An (HE_t.out.1) rfl rfl rfl rfl rfl
    have TEa := BE W_t rM.n rM.m rM.n rM.m u1m u2m u3m u1n u2n u3n v1m v2m v3m v1n v2n v3n rM.S rM.F rM.E rM.S rM.F rM.E (A0 (HE_m.out.2.1.on (Below.refl _ _))) (A0 (HE_n.out.2.1.on (Below.refl _ _))) (by have := HRM.out.1; omega) (by have := HRM.out.2.1; omega) (by have := HRM.out.2.2.1; omega) (by have := HRM.out.1; omega) (by have := HRM.out.2.1; omega) (by have := HRM.out.2.2.1; omega)
    rw [CZ] at TEa
    go_wp2_with fail
    go_at_call 14
    refine TEa.mono ?_
    rintro e wa ⟨rfl, da⟩
    have HDa := A0 da
    clear em0 em1 em2 em3 em4 en0 en1 en2 en3 en4 TEa
    replace es0 : wa.cell? ⟨w_s.heap.size, 0, none⟩ = some (.int .i64 rS.n) := ((da).cell (p := ⟨w_s.heap.size, 0, none⟩) (World.block_lt_of_cell? _ _ es0)).trans es0
    replace es1 : wa.cell? ⟨w_s.heap.size, 1, none⟩ = some (.int .i64 rS.m) := ((da).cell (p := ⟨w_s.heap.size, 1, none⟩) (World.block_lt_of_cell? _ _ es1)).trans es1
    replace es2 : wa.cell? ⟨w_s.heap.size, 2, none⟩ = some (.slice u1s rS.S.length v1s) := ((da).cell (p := ⟨w_s.heap.size, 2, none⟩) (World.block_lt_of_cell? _ _ es2)).trans es2
    replace es3 : wa.cell? ⟨w_s.heap.size, 3, none⟩ = some (.slice u2s rS.F.length v2s) := ((da).cell (p := ⟨w_s.heap.size, 3, none⟩) (World.block_lt_of_cell? _ _ es3)).trans es3
    replace es4 : wa.cell? ⟨w_s.heap.size, 4, none⟩ = some (.slice u3s rS.E.length v3s) := ((da).cell (p := ⟨w_s.heap.size, 4, none⟩) (World.block_lt_of_cell? _ _ es4)).trans es4
    replace et0 : wa.cell? ⟨w_t.heap.size, 0, none⟩ = some (.int .i64 rS.n) := ((da).cell (p := ⟨w_t.heap.size, 0, none⟩) (World.block_lt_of_cell? _ _ et0)).trans et0
    replace et1 : wa.cell? ⟨w_t.heap.size, 1, none⟩ = some (.int .i64 rS.m) := ((da).cell (p := ⟨w_t.heap.size, 1, none⟩) (World.block_lt_of_cell? _ _ et1)).trans et1
    replace et2 : wa.cell? ⟨w_t.heap.size, 2, none⟩ = some (.slice u1t rS.S.length v1t) := ((da).cell (p := ⟨w_t.heap.size, 2, none⟩) (World.block_lt_of_cell? _ _ et2)).trans et2
    replace et3 : wa.cell? ⟨w_t.heap.size, 3, none⟩ = some (.slice u2t rS.F.length v2t) := ((da).cell (p := ⟨w_t.heap.size, 3, none⟩) (World.block_lt_of_cell? _ _ et3)).trans et3
    replace et4 : wa.cell? ⟨w_t.heap.size, 4, none⟩ = some (.slice u3t rS.E.length v3t) := ((da).cell (p := ⟨w_t.heap.size, 4, none⟩) (World.block_lt_of_cell? _ _ et4)).trans et4
    clear da
    have TEb := BE wa rS.n rS.m rS.n rS.m u1s u2s u3s u1t u2t u3t v1s v2s v3s v1t v2t v3t rS.S rS.F rS.E rS.S rS.F rS.E (A0 (HE_s.out.2.1.on HDa.out)) (A0 (HE_t.out.2.1.on HDa.out)) (by have := HRS.out.1; omega) (by have := HRS.out.2.1; omega) (by have := HRS.out.2.2.1; omega) (by have := HRS.out.1; omega) (by have := HRS.out.2.1; omega) (by have := HRS.out.2.2.1; omega)
    rw [CZ] at TEb
    go_wp2_with fail
    go_at_call 14
    refine TEb.mono ?_
    rintro e wb ⟨rfl, db⟩
    have HDb := A0 (HDa.out.trans (db.mono HDa.out.size))
    clear db TEb es0 et0 es1 et1 es2 et2 es3 et3 es4 et4
    have TEc := Cv wb upm upn vpm vpn rM.ps.length rM.ps (A0 rfl) (A0 (HE_m.out.2.2.on HDb.out)) (A0 (HE_n.out.2.2.on HDb.out)) (by have := HRM.out.2.2.2; omega)
    go_wp2_with fail
    go_at_call 15
    refine TEc.mono ?_
    rintro e wc ⟨rfl, dc⟩
    have HDc := A0 (HDb.out.trans (dc.mono HDb.out.size))
    clear dc TEc
    have TEd := Cv wc ups upt vps vpt rS.ps.length rS.ps (A0 rfl) (A0 (HE_s.out.2.2.on HDc.out)) (A0 (HE_t.out.2.2.on HDc.out)) (by have := HRS.out.2.2.2; omega)
    go_wp2_with fail
    go_at_call 15
    refine TEd.mono ?_
    rintro e wd ⟨rfl, dd⟩
    have HDd := A0 (HB_t.out.trans ((HDc.out.trans (dd.mono HDc.out.size)).mono HB_t.out.size))
    clear dd TEd
    obtain ⟨ca0, ca1, ca2, ca3, ca4⟩ := An (A3 (A3 HS2.out.1.x HD4.out.1) HDd.out) rfl rfl rfl rfl rfl
    obtain ⟨cb0, cb1, cb2, cb3, cb4⟩ := An (A3 HD4.out.2.1 HDd.out) rfl rfl rfl rfl rfl
    have TLa := E0 wd B n m g1 k1 g2 k2 g3 k3 (some ⟨x1, 0, none⟩) (some ⟨x2, 0, none⟩) (some ⟨x3, 0, none⟩) c1 c2 c3 Sx Fx Ex (A0 ((HS2.out.1.a.on HD4.out.1).on HDd.out)) (A0 ((HD4.out.2.2.2.1.on HDd.out).rd)) (by have := HLL.out; omega) (by have := HLL.out; omega) (by have := HLL.out; omega)
    rw [HS2.out.2.1.1, HS2.out.2.1.2.1, HS2.out.2.1.2.2] at TLa
    go_wp2_with fail
    go_at_call 17
    refine TLa.mono ?_
    rintro e we ⟨rfl, de⟩
    have HDe := A0 (HDd.out.trans (de.mono HDd.out.size))
    clear ca0 ca1 ca2 ca3 ca4 cb0 cb1 cb2 cb3 cb4 TLa de
    obtain ⟨ca0, ca1, ca2, ca3, ca4⟩ := An (A3 (A3 HS2.out.1.y HD4.out.1) HDe.out) rfl rfl rfl rfl rfl
    obtain ⟨cb0, cb1, cb2, cb3, cb4⟩ := An (A3 HD4.out.2.2.1 HDe.out) rfl rfl rfl rfl rfl
    have TLb := E0 we B n' m' p1 j1 p2 j2 p3 j3 (some ⟨y1, 0, none⟩) (some ⟨y2, 0, none⟩) (some ⟨y3, 0, none⟩) d1 d2 d3 Sy Fy Ey (A0 ((HS2.out.1.b.on HD4.out.1).on HDe.out)) (A0 ((HD4.out.2.2.2.2.on HDe.out).rd)) (by have := HLL.out; omega) (by have := HLL.out; omega) (by have := HLL.out; omega)
    rw [HS2.out.2.2.1, HS2.out.2.2.2.1, HS2.out.2.2.2.2] at TLb
    go_wp2_with fail
    go_at_call 17
    refine TLb.mono ?_
    rintro e wf ⟨rfl, df⟩
    have HDf := A0 (HDe.out.trans (df.mono HDe.out.size))
    clear ca0 ca1 ca2 ca3 ca4 cb0 cb1 cb2 cb3 cb4 TLb df
    have HNX : Hid (JA w wf B w.heap.size (w.heap.size + 1) #[.int .i64 n, .int .i64 m, .slice (some ⟨g1, 0, none⟩) n1 k1, .slice (some ⟨g2, 0, none⟩) n2 k2, .slice (some ⟨g3, 0, none⟩) n3 k3] #[.int .i64 n', .int .i64 m', .slice (some ⟨p1, 0, none⟩) l1 j1, .slice (some ⟨p2, 0, none⟩) l2 j2, .slice (some ⟨p3, 0, none⟩) l3 j3] g1 k1 g2 k2 g3 k3 p1 j1 p2 j2 p3 j3 Sx Fx Ex Sy Fy Ey ∧ (Sx.length = n1 ∧ Fx.length = n2 ∧ Ex.length = n3) ∧ (Sy.length = l1 ∧ Fy.length = l2 ∧ Ey.length = l3)) := A0 ⟨HS2.out.1.on HZ2.out (HD4.out.1.trans (HDf.out.mono HD4.out.1.size)), HS2.out.2.1, HS2.out.2.2⟩
    go_wp2_with fail
    go_roundw
    case rel => exact ⟨j + 1, Sx, Fx, Ex, Sy, Fy, Ey, by omega, by go_num, HNX⟩
    case measure => simp [intOf]; omega
  · have jj : ¬ (j : Int) < 6 := by omega
    go_wp2_with fail
    go_ret
    exact ⟨rfl, A0 HS.out.1.be⟩
theorem Mq (w : World) (lay : Bool) (n m n' m' bud0 : Int) (a1 a2 a3 b1 b2 b3 : Option Addr) (c1 c2 c3 d1 d2 d3 : Nat) (Sa Fa Sb Fb : List Int) (Ea Eb : List Aa) (hA : Hid (AP w a1 a2 a3 Sa Fa Ea)) (hB : Hid (AP w b1 b2 b3 Sb Fb Eb)) (h1 : Sa.length ≤ 2000000) (h2 : Fa.length ≤ 2000000) (h3 : Ea.length ≤ 2000000) (h4 : Sb.length ≤ 2000000) (h5 : Fb.length ≤ 2000000) (h6 : Eb.length ≤ 2000000) : Calls prog 13 #[.bool lay, .agg #[.int .i64 n, .int .i64 m, .slice a1 Sa.length c1, .slice a2 Fa.length c2, .slice a3 Ea.length c3], .agg #[.int .i64 n', .int .i64 m', .slice b1 Sb.length d1, .slice b2 Fb.length d2, .slice b3 Eb.length d3], .int .i64 bud0] w (DR w (AO (AR lay) n m n' m' bud0 Sa Fa Ea Sb Fb Eb)) := by
 cases lay with
 | false => exact LS w n m n' m' bud0 a1 a2 a3 b1 b2 b3 c1 c2 c3 d1 d2 d3 Sa Fa Sb Fb Ea Eb hA hB h1 h2 h3 h4 h5 h6
 | true => exact M1 w n m n' m' bud0 a1 a2 a3 b1 b2 b3 c1 c2 c3 d1 d2 d3 Sa Fa Sb Fb Ea Eb hA hB h1 h2 h3 h4 h5 h6
theorem J8 (w : World) (n m n' m' sy bud0 : Int) (a1 a2 a3 b1 b2 b3 aw : Option Addr) (n1 n2 n3 l1 l2 l3 nw c1 c2 c3 d1 d2 d3 cw : Nat) (Sa Fa Sb Fb : List Int) (Ea Eb : List Aa) (en : Hid (Sa.length = n1 ∧ Fa.length = n2 ∧ Ea.length = n3 ∧ Sb.length = l1 ∧ Fb.length = l2 ∧ Eb.length = l3)) (hA : Hid (AP w a1 a2 a3 Sa Fa Ea)) (hB : Hid (AP w b1 b2 b3 Sb Fb Eb)) (h1 : n1 ≤ 1048576) (h2 : n2 ≤ 1048576) (h3 : n3 ≤ 1048576) (h4 : l1 ≤ 1048576) (h5 : l2 ≤ 1048576) (h6 : l3 ≤ 1048576) (hc3 : n3 ≤ c3) (hd3 : l3 ≤ d3) (hz1 : Hid ((a1 = none → c1 = 0) ∧ (a2 = none → c2 = 0) ∧ (a3 = none → c3 = 0))) (hz2 : Hid ((b1 = none → d1 = 0) ∧ (b2 = none → d2 = 0) ∧ (b3 = none → d3 = 0))) :
 Calls prog 4 #[.agg #[.int .i64 n, .int .i64 m, .slice a1 n1 c1, .slice a2 n2 c2, .slice a3 n3 c3, .int .i64 n', .int .i64 m', .slice b1 l1 d1, .slice b2 l2 d2, .slice b3 l3 d3, .slice aw nw cw, .int .i64 sy, .int .i64 bud0]] w fun e w' => e = .returned (.bool true) ∧ Below w.heap.size w w' := by
 obtain ⟨W0, hW0⟩ : ∃ W0, w.alloc (.cells #[.int .i64 n, .int .i64 m, .slice a1 n1 c1, .slice a2 n2 c2, .slice a3 n3 c3, .int .i64 n', .int .i64 m', .slice b1 l1 d1, .slice b2 l2 d2, .slice b3 l3 d3, .slice aw nw cw, .int .i64 sy, .int .i64 bud0] 38) = W0 := ⟨_, rfl⟩
 have HD : Hid (W0.heap[w.heap.size]? = some (.cells #[.int .i64 n, .int .i64 m, .slice a1 n1 c1, .slice a2 n2 c2, .slice a3 n3 c3, .int .i64 n', .int .i64 m', .slice b1 l1 d1, .slice b2 l2 d2, .slice b3 l3 d3, .slice aw nw cw, .int .i64 sy, .int .i64 bud0] 38 (0, 0)) ∧ Below w.heap.size w W0 ∧ W0.heap.size = w.heap.size + 1) := A0 (by rw [← hW0]; exact ⟨World.alloc_heap_new _ _, (Below.refl _ _).alloc (Nat.le_refl _) _, by simp⟩)
 obtain ⟨ca0, ca1, ca2, ca3, ca4⟩ := An (HD.out.1) rfl rfl rfl rfl rfl
 have T1 := Eh W0 n m a1 a2 a3 c1 c2 c3 Sa Fa Ea (A0 (hA.out.on HD.out.2.1)) (by have := en.out; omega) (by have := en.out; omega) (by have := en.out; omega) hz1.out.1 hz1.out.2.1 hz1.out.2.2
 rw [en.out.1, en.out.2.1, en.out.2.2.1] at T1
 go_enter func4, ntmps4
 go_upto_region 2 with (go_at_call 10; refine T1.mono ?_; rintro e w1 ⟨g1, k1, g2, k2, g3, k3, rfl, HL1, D1⟩)
 clear T1 ca0 ca1 ca2 ca3 ca4 hW0
 obtain ⟨W1, hW1⟩ : ∃ V, w1.alloc (.cells #[.int .i64 n, .int .i64 m, .slice (some ⟨g1, 0, none⟩) n1 k1, .slice (some ⟨g2, 0, none⟩) n2 k2, .slice (some ⟨g3, 0, none⟩) n3 k3] 25) = V := ⟨_, rfl⟩
 have H1 : Hid (Below W0.heap.size W0 W1 ∧ W1.heap[w1.heap.size]? = some (.cells #[.int .i64 n, .int .i64 m, .slice (some ⟨g1, 0, none⟩) n1 k1, .slice (some ⟨g2, 0, none⟩) n2 k2, .slice (some ⟨g3, 0, none⟩) n3 k3] 25 (0, 0)) ∧ Dd W0.heap.size W1 g1 k1 g2 k2 g3 k3 Sa Fa Ea ∧ (g1 < W1.heap.size ∧ g2 < W1.heap.size ∧ g3 < W1.heap.size)) := A0 (by
  have k : Below w1.heap.size w1 W1 := by rw [← hW1]; exact (Below.refl _ _).alloc (Nat.le_refl _) _
  have z := World.alloc_heap_new w1 (.cells #[.int .i64 n, .int .i64 m, .slice (some ⟨g1, 0, none⟩) n1 k1, .slice (some ⟨g2, 0, none⟩) n2 k2, .slice (some ⟨g3, 0, none⟩) n3 k3] 25)
  rw [hW1] at z
  have l := HL1.out.on k
  exact ⟨D1.trans (k.mono D1.size), z, l, l.s.lt.2, l.f.lt.2, l.e.lt.2⟩)
 rw [hW1]
 clear hW1 HL1 D1
 have cb5 : W1.cell? ⟨w.heap.size, 5, none⟩ = some (.int .i64 n') := A1 (A3 HD.out.1 H1.out.1) rfl
 have cb6 : W1.cell? ⟨w.heap.size, 6, none⟩ = some (.int .i64 m') := A1 (A3 HD.out.1 H1.out.1) rfl
 have cb7 : W1.cell? ⟨w.heap.size, 7, none⟩ = some (.slice b1 l1 d1) := A1 (A3 HD.out.1 H1.out.1) rfl
 have cb8 : W1.cell? ⟨w.heap.size, 8, none⟩ = some (.slice b2 l2 d2) := A1 (A3 HD.out.1 H1.out.1) rfl
 have cb9 : W1.cell? ⟨w.heap.size, 9, none⟩ = some (.slice b3 l3 d3) := A1 (A3 HD.out.1 H1.out.1) rfl
 have T2 := Eh W1 n' m' b1 b2 b3 d1 d2 d3 Sb Fb Eb (A0 ((hB.out.on HD.out.2.1).on H1.out.1)) (by have := en.out; omega) (by have := en.out; omega) (by have := en.out; omega) hz2.out.1 hz2.out.2.1 hz2.out.2.2
 rw [en.out.2.2.2.1, en.out.2.2.2.2.1, en.out.2.2.2.2.2] at T2
 go_upto_region 3 with (go_at_call 10; refine T2.mono ?_; rintro e w2 ⟨p1, j1, p2, j2, p3, j3, rfl, HL2, D2⟩)
 clear T2 cb5 cb6 cb7 cb8 cb9
 obtain ⟨W2, hW2⟩ : ∃ V, w2.alloc (.cells #[.int .i64 n', .int .i64 m', .slice (some ⟨p1, 0, none⟩) l1 j1, .slice (some ⟨p2, 0, none⟩) l2 j2, .slice (some ⟨p3, 0, none⟩) l3 j3] 25) = V := ⟨_, rfl⟩
 have H2 : Hid (Below W0.heap.size W0 W2 ∧ W2.heap[w1.heap.size]? = some (.cells #[.int .i64 n, .int .i64 m, .slice (some ⟨g1, 0, none⟩) n1 k1, .slice (some ⟨g2, 0, none⟩) n2 k2, .slice (some ⟨g3, 0, none⟩) n3 k3] 25 (0, 0)) ∧ W2.heap[w2.heap.size]? = some (.cells #[.int .i64 n', .int .i64 m', .slice (some ⟨p1, 0, none⟩) l1 j1, .slice (some ⟨p2, 0, none⟩) l2 j2, .slice (some ⟨p3, 0, none⟩) l3 j3] 25 (0, 0)) ∧ Dd W0.heap.size W2 g1 k1 g2 k2 g3 k3 Sa Fa Ea ∧ Dd W0.heap.size W2 p1 j1 p2 j2 p3 j3 Sb Fb Eb ∧ (∀ x y, (x = g1 ∨ x = g2 ∨ x = g3) → (y = p1 ∨ y = p2 ∨ y = p3) → x ≠ y)) := A0 (by
  have k : Below w2.heap.size w2 W2 := by rw [← hW2]; exact (Below.refl _ _).alloc (Nat.le_refl _) _
  have z := World.alloc_heap_new w2 (.cells #[.int .i64 n', .int .i64 m', .slice (some ⟨p1, 0, none⟩) l1 j1, .slice (some ⟨p2, 0, none⟩) l2 j2, .slice (some ⟨p3, 0, none⟩) l3 j3] 25)
  rw [hW2] at z
  have d := D2.trans (k.mono D2.size)
  have l := HL2.out.on k
  refine ⟨H1.out.1.trans (d.mono H1.out.1.size), A3 H1.out.2.1 d, z, H1.out.2.2.1.on d, l.down H1.out.1.size, fun x y hx hy => ?_⟩
  have := H1.out.2.2.2
  have q1 := l.s.lt.1
  have q2 := l.f.lt.1
  have q3 := l.e.lt.1
  omega)
 rw [hW2]
 clear hW2 HL2 D2 H1
 have HX2 : Hid (W2.heap[w.heap.size]? = some (.cells #[.int .i64 n, .int .i64 m, .slice a1 n1 c1, .slice a2 n2 c2, .slice a3 n3 c3, .int .i64 n', .int .i64 m', .slice b1 l1 d1, .slice b2 l2 d2, .slice b3 l3 d3, .slice aw nw cw, .int .i64 sy, .int .i64 bud0] 38 (0, 0)) ∧ AP W2 a1 a2 a3 Sa Fa Ea ∧ AP W2 b1 b2 b3 Sb Fb Eb ∧ Below w.heap.size w W2) := A0 ⟨A3 HD.out.1 H2.out.1, (hA.out.on HD.out.2.1).on H2.out.1, (hB.out.on HD.out.2.1).on H2.out.1, HD.out.2.1.trans (H2.out.1.mono HD.out.2.1.size)⟩
 have TM : Hid (∀ V, Below W2.heap.size W2 V → ∀ bd : Int, Calls prog 11 #[.agg #[.int .i64 n, .int .i64 m, .slice a1 n1 c1, .slice a2 n2 c2, .slice a3 n3 c3], .agg #[.int .i64 n', .int .i64 m', .slice b1 l1 d1, .slice b2 l2 d2, .slice b3 l3 d3], .int .i64 bd] V (DR V (AO (AR false) n m n' m' bd Sa Fa Ea Sb Fb Eb))) := A0 (fun V d bd => by
  have q := Gt V n m n' m' bd a1 a2 a3 b1 b2 b3 c1 c2 c3 d1 d2 d3 Sa Fa Sb Fb Ea Eb (A0 (HX2.out.2.1.on d)) (A0 (HX2.out.2.2.1.on d)) (by have := en.out; omega) (by have := en.out; omega) (by have := en.out; omega) (by have := en.out; omega) (by have := en.out; omega) (by have := en.out; omega) (by have := en.out; omega) (by have := en.out; omega)
  rw [en.out.1, en.out.2.1, en.out.2.2.1, en.out.2.2.2.1, en.out.2.2.2.2.1, en.out.2.2.2.2.2] at q
  exact q)
 have TS : Hid (∀ V, Below W2.heap.size W2 V → ∀ bd : Int, Calls prog 12 #[.agg #[.int .i64 n, .int .i64 m, .slice a1 n1 c1, .slice a2 n2 c2, .slice a3 n3 c3], .agg #[.int .i64 n', .int .i64 m', .slice b1 l1 d1, .slice b2 l2 d2, .slice b3 l3 d3], .int .i64 bd] V (DR V (AO (AR true) n m n' m' bd Sa Fa Ea Sb Fb Eb))) := A0 (fun V d bd => by
  have q := GD V n m n' m' bd a1 a2 a3 b1 b2 b3 c1 c2 c3 d1 d2 d3 Sa Fa Sb Fb Ea Eb (A0 (HX2.out.2.1.on d)) (A0 (HX2.out.2.2.1.on d)) (by have := en.out; omega) (by have := en.out; omega) (by have := en.out; omega) (by have := en.out; omega) (by have := en.out; omega) (by have := en.out; omega) (by have := en.out; omega) (by have := en.out; omega)
  rw [en.out.1, en.out.2.1, en.out.2.2.1, en.out.2.2.2.1, en.out.2.2.2.2.1, en.out.2.2.2.2.2] at q
  exact q)
 have TB : Hid (∀ V, Below W2.heap.size W2 V → ∀ (lay : Bool) (bd : Int), Calls prog 13 #[.bool lay, .agg #[.int .i64 n, .int .i64 m, .slice (some ⟨g1, 0, none⟩) n1 k1, .slice (some ⟨g2, 0, none⟩) n2 k2, .slice (some ⟨g3, 0, none⟩) n3 k3], .agg #[.int .i64 n', .int .i64 m', .slice (some ⟨p1, 0, none⟩) l1 j1, .slice (some ⟨p2, 0, none⟩) l2 j2, .slice (some ⟨p3, 0, none⟩) l3 j3], .int .i64 bd] V (DR V (AO (AR lay) n m n' m' bd Sa Fa Ea Sb Fb Eb))) := A0 (fun V d lay bd => by
  have q := Mq V lay n m n' m' bd (some ⟨g1, 0, none⟩) (some ⟨g2, 0, none⟩) (some ⟨g3, 0, none⟩) (some ⟨p1, 0, none⟩) (some ⟨p2, 0, none⟩) (some ⟨p3, 0, none⟩) k1 k2 k3 j1 j2 j3 Sa Fa Sb Fb Ea Eb (A0 (H2.out.2.2.2.1.rd.on d)) (A0 (H2.out.2.2.2.2.1.rd.on d)) (by have := en.out; omega) (by have := en.out; omega) (by have := en.out; omega) (by have := en.out; omega) (by have := en.out; omega) (by have := en.out; omega)
  rw [en.out.1, en.out.2.1, en.out.2.2.1, en.out.2.2.2.1, en.out.2.2.2.2.1, en.out.2.2.2.2.2] at q
  exact q)
 go_wp2_with fail
 go_loopw [27] (fun kv wr => ∃ k : Nat, k ≤ 2 ∧ kv = .int .i64 (k : Int) ∧ Hid (Below W2.heap.size W2 wr)) (fun kv _ => 2 - (intOf kv).toNat)
 case atStart => exact ⟨0, by omega, rfl, A0 (Below.refl _ _)⟩
 case round =>
  obtain ⟨k, hk, rfl, HV⟩ := hrel
  by_cases hk2 : k < 2
  · have kk : (k : Int) < 2 := by omega
    obtain ⟨ca0, ca1, ca2, ca3, ca4, ca5, ca6, ca7, ca8, ca9, ca10, ca11, ca12⟩ := Pn (A3 HX2.out.1 HV.out) rfl rfl rfl rfl rfl rfl rfl rfl rfl rfl rfl rfl rfl
    go_upto_region 7 with (go_at_call 11; refine (TM.out _ HV.out bud0).mono ?_; rintro e w3 ⟨u1w, v1w, u2w, v2w, u3w, v3w, upw, vpw, rfl, HO3, D3⟩)
    clear ca0 ca1 ca2 ca3 ca4 ca5 ca6 ca7 ca8 ca9 ca10 ca11 ca12
    obtain ⟨rM, hrM⟩ : ∃ r, AO (AR false) n m n' m' bud0 Sa Fa Ea Sb Fb Eb = r := ⟨_, rfl⟩
    rw [hrM] at HO3 ⊢
    obtain ⟨W3, hW3⟩ : ∃ V, w3.alloc (.cells #[.int .i64 rM.n, .int .i64 rM.m, .slice u1w rM.S.length v1w, .slice u2w rM.F.length v2w, .slice u3w rM.E.length v3w] 25) = V := ⟨_, rfl⟩
    have H3 : Hid (Below W2.heap.size W2 W3 ∧ W3.heap[w3.heap.size]? = some (.cells #[.int .i64 rM.n, .int .i64 rM.m, .slice u1w rM.S.length v1w, .slice u2w rM.F.length v2w, .slice u3w rM.E.length v3w] 25 (0, 0)) ∧ AP W3 u1w u2w u3w rM.S rM.F rM.E ∧ Hq W3 upw rM.ps ∧ W2.heap.size ≤ w3.heap.size) := A0 (by
     have k : Below w3.heap.size w3 W3 := by rw [← hW3]; exact (Below.refl _ _).alloc (Nat.le_refl _) _
     have z := World.alloc_heap_new w3 (.cells #[.int .i64 rM.n, .int .i64 rM.m, .slice u1w rM.S.length v1w, .slice u2w rM.F.length v2w, .slice u3w rM.E.length v3w] 25)
     rw [hW3] at z
     have d := D3.trans (k.mono D3.size)
     exact ⟨HV.out.trans (d.mono HV.out.size), z, (AE.rd HO3.out.1).on k, (Bc rfl HO3.out.2).on k, by have := D3.size; have := HV.out.size; omega⟩)
    rw [hW3]
    clear hW3 HO3 D3
    obtain ⟨lay, hlay⟩ : ∃ b : Bool, ((k : Int) == 1) = b := ⟨_, rfl⟩
    obtain ⟨r, hr⟩ : ∃ r, AO (AR lay) n m n' m' bud0 Sa Fa Ea Sb Fb Eb = r := ⟨_, rfl⟩
    have HR : Hid (OY r) := A0 (by rw [← hr]; exact FJ)
    have HMR : Hid (lay = false → rM = r) := A0 (fun e => by rw [← hrM, ← hr, e])
    have HTR : Hid (lay = true → AO (AR true) n m n' m' bud0 Sa Fa Ea Sb Fb Eb = r) := A0 (fun e => by rw [← hr, e])
    have HPR := A0 hr
    clear hr hrM
    go_upto_if 42 with fail
    go_cut [7, 8] from 42 to 53 (fun v7 v8 W => ∃ u1 v1 u2 v2 u3 v3 up vp, v7 = .slice up r.ps.length vp ∧ v8 = .int .i64 r.er ∧ Hid (Below W2.heap.size W2 W ∧ W.heap[w3.heap.size]? = some (.cells #[.int .i64 r.n, .int .i64 r.m, .slice u1 r.S.length v1, .slice u2 r.F.length v2, .slice u3 r.E.length v3] 25 (0, 0)) ∧ AP W u1 u2 u3 r.S r.F r.E ∧ Hq W up r.ps))
    case first =>
     cases lay with
     | false =>
      have e := HMR.out rfl
      subst e
      go_wp2_with fail
      go_meet
      exact ⟨u1w, v1w, u2w, v2w, u3w, v3w, upw, vpw, rfl, rfl, A0 ⟨H3.out.1, H3.out.2.1, H3.out.2.2.1, H3.out.2.2.2.1⟩⟩
     | true =>
      obtain ⟨ca0, ca1, ca2, ca3, ca4, ca5, ca6, ca7, ca8, ca9, ca10, ca11, ca12⟩ := Pn (A3 HX2.out.1 H3.out.1) rfl rfl rfl rfl rfl rfl rfl rfl rfl rfl rfl rfl rfl
      have TS2 := TS.out _ H3.out.1 bud0
      rw [HTR.out rfl] at TS2
      go_wp2_with (go_at_call 12; refine TS2.mono ?_; rintro e w4 ⟨u1, v1, u2, v2, u3, v3, up, vp, rfl, HO4, D4⟩; have HD4 := A0 D4; have F4 := A3 H3.out.2.1 D4; obtain ⟨o0, o1, o2, o3, o4⟩ := An F4 rfl rfl rfl rfl rfl; have f0 : w4.frozen? ⟨w3.heap.size, 0, none⟩ = false := A4 F4; have f1 : w4.frozen? ⟨w3.heap.size, 1, none⟩ = false := A4 F4; have f2 : w4.frozen? ⟨w3.heap.size, 2, none⟩ = false := A4 F4; have f3 : w4.frozen? ⟨w3.heap.size, 3, none⟩ = false := A4 F4; have f4 : w4.frozen? ⟨w3.heap.size, 4, none⟩ = false := A4 F4; have HF4 := A0 F4; clear F4 D4)
      have O6 := A0 (And.intro (AT w4 w3.heap.size _ _ _ _ _ (.int .i64 r.n) (.int .i64 r.m) (.slice u1 r.S.length v1) (.slice u2 r.F.length v2) (.slice u3 r.E.length v3) 25 HF4.out) (AF w4 w3.heap.size (.int .i64 r.n) (.int .i64 r.m) (.slice u1 r.S.length v1) (.slice u2 r.F.length v2) (.slice u3 r.E.length v3)))
      have HFN : Hid (∀ V, Ab w4 V (fun k => k = w3.heap.size) → Below W2.heap.size W2 V ∧ AP V u1 u2 u3 r.S r.F r.E ∧ Hq V up r.ps) := A0 (fun V o => by
       have d := H3.out.1.trans (HD4.out.mono H3.out.1.size)
       exact ⟨d.trans (o.toBelow d.size (fun k hk => by rw [hk]; exact H3.out.2.2.2.2)), AE.rd (HO4.out.1.keep HF4.out o), Bc rfl (Ap HO4.out.2 HF4.out (by decide) o)⟩)
      go_meet
      have q := HFN.out _ O6.out.2
      exact ⟨u1, v1, u2, v2, u3, v3, up, vp, rfl, rfl, A0 ⟨q.1, O6.out.1, q.2.1, q.2.2⟩⟩
    case rest =>
    rename World => Vc
    obtain ⟨u1w, v1w, u2w, v2w, u3w, v3w, upw, vpw, rfl, rfl, HW⟩ := hcut
    clear H3 HMR HTR
    obtain ⟨ca0, ca1, ca2, ca3, ca4⟩ := An (A3 H2.out.2.1 HW.out.1) rfl rfl rfl rfl rfl
    obtain ⟨cb0, cb1, cb2, cb3, cb4⟩ := An (A3 H2.out.2.2.1 HW.out.1) rfl rfl rfl rfl rfl
    have cc12 : Vc.cell? ⟨w.heap.size, 12, none⟩ = some (.int .i64 bud0) := A1 (A3 HX2.out.1 HW.out.1) rfl
    have TQ := TB.out _ HW.out.1 lay bud0
    rw [HPR.out] at TQ
    go_upto_region 10 with (go_at_call 13; refine TQ.mono ?_; rintro e w_o ⟨u1o, v1o, u2o, v2o, u3o, v3o, upo, vpo, rfl, HO_o, D_o⟩)
    clear TQ cc12 ca0 ca1 ca2 ca3 ca4 cb0 cb1 cb2 cb3 cb4
    obtain ⟨W_o, hW_o⟩ : ∃ V, w_o.alloc (.cells #[.int .i64 r.n, .int .i64 r.m, .slice u1o r.S.length v1o, .slice u2o r.F.length v2o, .slice u3o r.E.length v3o] 25) = V := ⟨_, rfl⟩
    have HD_o : Hid (Below W2.heap.size W2 W_o ∧ Below Vc.heap.size Vc W_o ∧ W_o.heap[w_o.heap.size]? = some (.cells #[.int .i64 r.n, .int .i64 r.m, .slice u1o r.S.length v1o, .slice u2o r.F.length v2o, .slice u3o r.E.length v3o] 25 (0, 0)) ∧ AE Vc.heap.size W_o (.slice u1o r.S.length v1o) (.slice u2o r.F.length v2o) (.slice u3o r.E.length v3o) r.S r.F r.E ∧ W_o.ownsRow Vc.heap.size 57 2 (.slice upo r.ps.length vpo) r.ps.length (r.ps.flatMap Bn)) := A0 (by
     have k : Below w_o.heap.size w_o W_o := by rw [← hW_o]; exact (Below.refl _ _).alloc (Nat.le_refl _) _
     have z := World.alloc_heap_new w_o (.cells #[.int .i64 r.n, .int .i64 r.m, .slice u1o r.S.length v1o, .slice u2o r.F.length v2o, .slice u3o r.E.length v3o] 25)
     rw [hW_o] at z
     have d := D_o.trans (k.mono D_o.size)
     have d0 : Below W2.heap.size W2 Vc := HW.out.1
     exact ⟨d0.trans (d.mono d0.size), d, z, HO_o.out.1.on k, A6 HO_o.out.2 k⟩)
    rw [hW_o]
    clear hW_o HO_o D_o
    obtain ⟨ca0, ca1, ca2, ca3, ca4⟩ := An (A3 H2.out.2.1 HD_o.out.1) rfl rfl rfl rfl rfl
    obtain ⟨cb0, cb1, cb2, cb3, cb4⟩ := An (A3 H2.out.2.2.1 HD_o.out.1) rfl rfl rfl rfl rfl
    have cc12 : W_o.cell? ⟨w.heap.size, 12, none⟩ = some (.int .i64 bud0) := A1 (A3 HX2.out.1 HD_o.out.1) rfl
    have TQ := TB.out _ HD_o.out.1 lay bud0
    rw [HPR.out] at TQ
    go_upto_region 11 with (go_at_call 13; refine TQ.mono ?_; rintro e w_z ⟨u1z, v1z, u2z, v2z, u3z, v3z, upz, vpz, rfl, HO_z, D_z⟩)
    clear TQ cc12 ca0 ca1 ca2 ca3 ca4 cb0 cb1 cb2 cb3 cb4
    obtain ⟨W_z, hW_z⟩ : ∃ V, w_z.alloc (.cells #[.int .i64 r.n, .int .i64 r.m, .slice u1z r.S.length v1z, .slice u2z r.F.length v2z, .slice u3z r.E.length v3z] 25) = V := ⟨_, rfl⟩
    have HD_z : Hid (Below W2.heap.size W2 W_z ∧ Below W_o.heap.size W_o W_z ∧ W_z.heap[w_z.heap.size]? = some (.cells #[.int .i64 r.n, .int .i64 r.m, .slice u1z r.S.length v1z, .slice u2z r.F.length v2z, .slice u3z r.E.length v3z] 25 (0, 0)) ∧ AE W_o.heap.size W_z (.slice u1z r.S.length v1z) (.slice u2z r.F.length v2z) (.slice u3z r.E.length v3z) r.S r.F r.E ∧ W_z.ownsRow W_o.heap.size 57 2 (.slice upz r.ps.length vpz) r.ps.length (r.ps.flatMap Bn)) := A0 (by
     have k : Below w_z.heap.size w_z W_z := by rw [← hW_z]; exact (Below.refl _ _).alloc (Nat.le_refl _) _
     have z := World.alloc_heap_new w_z (.cells #[.int .i64 r.n, .int .i64 r.m, .slice u1z r.S.length v1z, .slice u2z r.F.length v2z, .slice u3z r.E.length v3z] 25)
     rw [hW_z] at z
     have d := D_z.trans (k.mono D_z.size)
     have d0 : Below W2.heap.size W2 W_o := HD_o.out.1
     exact ⟨d0.trans (d.mono d0.size), d, z, HO_z.out.1.on k, A6 HO_z.out.2 k⟩)
    rw [hW_z]
    clear hW_z HO_z D_z
    have HA1 : Hid (W_o.heap[w3.heap.size]? = some (.cells #[.int .i64 r.n, .int .i64 r.m, .slice u1w r.S.length v1w, .slice u2w r.F.length v2w, .slice u3w r.E.length v3w] 25 (0, 0)) ∧ AP W_o u1w u2w u3w r.S r.F r.E ∧ Hq W_o upw r.ps ∧ W_o.heap[w_o.heap.size]? = some (.cells #[.int .i64 r.n, .int .i64 r.m, .slice u1o r.S.length v1o, .slice u2o r.F.length v2o, .slice u3o r.E.length v3o] 25 (0, 0)) ∧ AP W_o u1o u2o u3o r.S r.F r.E ∧ Hq W_o upo r.ps) := A0 ⟨A3 HW.out.2.1 HD_o.out.2.1, HW.out.2.2.1.on HD_o.out.2.1, HW.out.2.2.2.on HD_o.out.2.1, HD_o.out.2.2.1, AE.rd HD_o.out.2.2.2.1, Bc rfl HD_o.out.2.2.2.2⟩
    have he1 : (r.er != r.er) = false := by simp
    obtain ⟨ea0, ea1, ea2, ea3, ea4⟩ := An (A3 HA1.out.2.2.2.1 HD_z.out.2.1) rfl rfl rfl rfl rfl
    obtain ⟨eb0, eb1, eb2, eb3, eb4⟩ := An (A3 HA1.out.1 HD_z.out.2.1) rfl rfl rfl rfl rfl
    have TE := BE W_z r.n r.m r.n r.m u1o u2o u3o u1w u2w u3w v1o v2o v3o v1w v2w v3w r.S r.F r.E r.S r.F r.E (A0 (HA1.out.2.2.2.2.1.on HD_z.out.2.1)) (A0 (HA1.out.2.1.on HD_z.out.2.1)) (by have := HR.out.1; omega) (by have := HR.out.2.1; omega) (by have := HR.out.2.2.1; omega) (by have := HR.out.1; omega) (by have := HR.out.2.1; omega) (by have := HR.out.2.2.1; omega)
    rw [CZ] at TE
    go_wp2_with fail
    go_at_call 14
    refine TE.mono ?_
    rintro e q1 ⟨rfl, d_⟩
    have Hq1 := A0 d_
    clear TE d_ ea0 ea1 ea2 ea3 ea4 eb0 eb1 eb2 eb3 eb4
    have HQ1 : Hid (Below W_o.heap.size W_o q1) := A0 (HD_z.out.2.1.trans (Hq1.out.mono HD_z.out.2.1.size))
    have TE := Cv q1 upo upw vpo vpw r.ps.length r.ps (A0 rfl) (A0 (HA1.out.2.2.2.2.2.on HQ1.out)) (A0 (HA1.out.2.2.1.on HQ1.out)) (by have := HR.out.2.2.2; omega)
    go_wp2_with fail
    go_at_call 15
    refine TE.mono ?_
    rintro e q2 ⟨rfl, d_⟩
    have Hq2 := A0 d_
    clear TE d_
    have HQ2 : Hid (Below W_z.heap.size W_z q2 ∧ Below W_o.heap.size W_o q2) := A0 ⟨Hq1.out.trans (Hq2.out.mono Hq1.out.size), HQ1.out.trans (Hq2.out.mono HQ1.out.size)⟩
    obtain ⟨ea0, ea1, ea2, ea3, ea4⟩ := An (A3 HD_z.out.2.2.1 HQ2.out.1) rfl rfl rfl rfl rfl
    obtain ⟨eb0, eb1, eb2, eb3, eb4⟩ := An (A3 HA1.out.1 HQ2.out.2) rfl rfl rfl rfl rfl
    have TE := BE q2 r.n r.m r.n r.m u1z u2z u3z u1w u2w u3w v1z v2z v3z v1w v2w v3w r.S r.F r.E r.S r.F r.E (A0 ((AE.rd HD_z.out.2.2.2.1).on HQ2.out.1)) (A0 (HA1.out.2.1.on HQ2.out.2)) (by have := HR.out.1; omega) (by have := HR.out.2.1; omega) (by have := HR.out.2.2.1; omega) (by have := HR.out.1; omega) (by have := HR.out.2.1; omega) (by have := HR.out.2.2.1; omega)
    rw [CZ] at TE
    go_wp2_with fail
    go_at_call 14
    refine TE.mono ?_
    rintro e q3 ⟨rfl, d_⟩
    have Hq3 := A0 d_
    clear TE d_ ea0 ea1 ea2 ea3 ea4 eb0 eb1 eb2 eb3 eb4
    have HQ3 : Hid (Below W_z.heap.size W_z q3 ∧ Below W_o.heap.size W_o q3) := A0 ⟨HQ2.out.1.trans (Hq3.out.mono HQ2.out.1.size), HQ2.out.2.trans (Hq3.out.mono HQ2.out.2.size)⟩
    obtain ⟨ea0, ea1, ea2, ea3, ea4⟩ := An (A3 HD_z.out.2.2.1 HQ3.out.1) rfl rfl rfl rfl rfl
    have TD := Hd q3 W_o.heap.size r.n r.m u1z u2z u3z upz v1z v2z v3z vpz r.S.length r.F.length r.E.length r.ps.length r.S r.F r.E r.ps (A0 ⟨rfl, rfl, rfl, rfl⟩) (A0 ⟨HD_z.out.2.2.2.1.on HQ3.out.1, A6 HD_z.out.2.2.2.2 HQ3.out.1⟩) HQ3.out.2.size HR.out.1 HR.out.2.1 HR.out.2.2.1 (by have := HR.out.2.2.2; omega)
    go_wp2_with fail
    go_at_call 16
    refine TD.mono ?_
    rintro e q4 ⟨rfl, Hq4⟩
    have HQ4 : Hid (Below W_o.heap.size W_o q4) := A0 (HQ3.out.2.trans Hq4.out)
    clear TD ea0 ea1 ea2 ea3 ea4
    obtain ⟨ea0, ea1, ea2, ea3, ea4⟩ := An (A3 HA1.out.2.2.2.1 HQ4.out) rfl rfl rfl rfl rfl
    obtain ⟨eb0, eb1, eb2, eb3, eb4⟩ := An (A3 HA1.out.1 HQ4.out) rfl rfl rfl rfl rfl
    have TE := BE q4 r.n r.m r.n r.m u1o u2o u3o u1w u2w u3w v1o v2o v3o v1w v2w v3w r.S r.F r.E r.S r.F r.E (A0 (HA1.out.2.2.2.2.1.on HQ4.out)) (A0 (HA1.out.2.1.on HQ4.out)) (by have := HR.out.1; omega) (by have := HR.out.2.1; omega) (by have := HR.out.2.2.1; omega) (by have := HR.out.1; omega) (by have := HR.out.2.1; omega) (by have := HR.out.2.2.1; omega)
    rw [CZ] at TE
    go_wp2_with fail
    go_at_call 14
    refine TE.mono ?_
    rintro e q5 ⟨rfl, d_⟩
    have Hq5 := A0 d_
    clear TE d_ ea0 ea1 ea2 ea3 ea4 eb0 eb1 eb2 eb3 eb4
    have HQ5 : Hid (Below W_o.heap.size W_o q5) := A0 (HQ4.out.trans (Hq5.out.mono HQ4.out.size))
    have TE := Cv q5 upo upw vpo vpw r.ps.length r.ps (A0 rfl) (A0 (HA1.out.2.2.2.2.2.on HQ5.out)) (A0 (HA1.out.2.2.1.on HQ5.out)) (by have := HR.out.2.2.2; omega)
    go_wp2_with fail
    go_at_call 15
    refine TE.mono ?_
    rintro e q6 ⟨rfl, d_⟩
    have Hq6 := A0 d_
    clear TE d_
    have HQ6 : Hid (Below W_o.heap.size W_o q6 ∧ Below W2.heap.size W2 q6) := A0 (by
     have d := HQ5.out.trans (Hq6.out.mono HQ5.out.size)
     exact ⟨d, HD_o.out.1.trans (d.mono HD_o.out.1.size)⟩)
    by_cases her : r.er = 0
    · have e0 : (r.er != 0) = false := by simpa using her
      by_cases hp2 : r.ps.length < 2
      · have e2 : (r.ps.length : Int) < 2 := by omega
        clear her
        go_wp2_with fail
        go_roundw
        case rel => exact ⟨k + 1, by omega, by go_num, A0 HQ6.out.2⟩
        case measure => simp [intOf]; omega
      · have e2 : ¬ (r.ps.length : Int) < 2 := by omega
        have HSame : Hid (AO (AR lay) n m n' m' (r.ps.length : Int) Sa Fa Ea Sb Fb Eb = r) := A0 (by
         have q := JR (TT := AR lay) (n := n) (m := m) (n' := n') (m' := m') (bud0 := bud0) (Sa := Sa) (Fa := Fa) (Ea := Ea) (Sb := Sb) (Fb := Fb) (Eb := Eb) (by rw [HPR.out]; exact her) (k := r.ps.length) (by rw [HPR.out]) (by omega)
         rw [q, HPR.out])
        have HNone : Hid (AO (AR lay) n m n' m' ((r.ps.length : Int) - 1) Sa Fa Ea Sb Fb Eb = B7 9) := A0 (JU (TT := AR lay) (bud0 := bud0) (by rw [HPR.out]; exact her) (k := r.ps.length) (by rw [HPR.out]) (by omega))
        obtain ⟨ca0, ca1, ca2, ca3, ca4⟩ := An (A3 H2.out.2.1 HQ6.out.2) rfl rfl rfl rfl rfl
        obtain ⟨cb0, cb1, cb2, cb3, cb4⟩ := An (A3 H2.out.2.2.1 HQ6.out.2) rfl rfl rfl rfl rfl
        have TQ := TB.out _ HQ6.out.2 lay (r.ps.length : Int)
        rw [HSame.out] at TQ
        go_upto_region 15 with (go_at_call 13; refine TQ.mono ?_; rintro e w_y ⟨u1y, v1y, u2y, v2y, u3y, v3y, upy, vpy, rfl, HO_y, D_y⟩)
        clear TQ ca0 ca1 ca2 ca3 ca4 cb0 cb1 cb2 cb3 cb4
        obtain ⟨W_y, hW_y⟩ : ∃ V, w_y.alloc (.cells #[.int .i64 r.n, .int .i64 r.m, .slice u1y r.S.length v1y, .slice u2y r.F.length v2y, .slice u3y r.E.length v3y] 25) = V := ⟨_, rfl⟩
        have HD_y : Hid (Below W2.heap.size W2 W_y ∧ Below W_o.heap.size W_o W_y ∧ Hq W_y upy r.ps) := A0 (by
         have k : Below w_y.heap.size w_y W_y := by rw [← hW_y]; exact (Below.refl _ _).alloc (Nat.le_refl _) _
         have d := D_y.trans (k.mono D_y.size)
         exact ⟨HQ6.out.2.trans (d.mono HQ6.out.2.size), HQ6.out.1.trans (d.mono HQ6.out.1.size), (Bc rfl HO_y.out.2).on k⟩)
        rw [hW_y]
        clear hW_y HO_y D_y
        obtain ⟨ca0, ca1, ca2, ca3, ca4⟩ := An (A3 H2.out.2.1 HD_y.out.1) rfl rfl rfl rfl rfl
        obtain ⟨cb0, cb1, cb2, cb3, cb4⟩ := An (A3 H2.out.2.2.1 HD_y.out.1) rfl rfl rfl rfl rfl
        have TQ := TB.out _ HD_y.out.1 lay ((r.ps.length : Int) - 1)
        rw [HNone.out] at TQ
        have ew : IntKind.i64.wrap ((r.ps.length : Int) - 1) = (r.ps.length : Int) - 1 := by rw [IntKind.wrap_i64]; have := HR.out.2.2.2; omega
        go_upto_region 16 with (go_at_call 13; refine TQ.mono ?_; rintro e w_v ⟨u1v, v1v, u2v, v2v, u3v, v3v, upv, vpv, rfl, HO_v, D_v⟩)
        clear TQ ew ca0 ca1 ca2 ca3 ca4 cb0 cb1 cb2 cb3 cb4 HO_v
        obtain ⟨W_v, hW_v⟩ : ∃ V, w_v.alloc (.cells #[.int .i64 (B7 9).n, .int .i64 (B7 9).m, .slice u1v (B7 9).S.length v1v, .slice u2v (B7 9).F.length v2v, .slice u3v (B7 9).E.length v3v] 25) = V := ⟨_, rfl⟩
        have HD_v : Hid (Below W2.heap.size W2 W_v ∧ Hq W_v upy r.ps ∧ Hq W_v upo r.ps) := A0 (by
         have k : Below w_v.heap.size w_v W_v := by rw [← hW_v]; exact (Below.refl _ _).alloc (Nat.le_refl _) _
         have d := D_v.trans (k.mono D_v.size)
         exact ⟨HD_y.out.1.trans (d.mono HD_y.out.1.size), HD_y.out.2.2.on d, (HA1.out.2.2.2.2.2.on HD_y.out.2.1).on d⟩)
        have TE := Cv W_v upy upo vpy vpo r.ps.length r.ps (A0 rfl) (A0 HD_v.out.2.1) (A0 HD_v.out.2.2) (by have := HR.out.2.2.2; omega)
        clear her
        go_wp2_with fail
        go_at_call 15
        refine TE.mono ?_
        rintro e q7 ⟨rfl, d7⟩
        have H7 : Hid (Below W2.heap.size W2 q7) := A0 (HD_v.out.1.trans (d7.mono HD_v.out.1.size))
        clear d7 TE
        go_wp2_with fail
        go_roundw
        case rel => exact ⟨k + 1, by omega, by go_num, H7⟩
        case measure => simp [intOf]; omega
    · have e0 : (r.er != 0) = true := by simpa using her
      clear her
      go_wp2_with fail
      go_roundw
      case rel => exact ⟨k + 1, by omega, by go_num, A0 HQ6.out.2⟩
      case measure => simp [intOf]; omega
  · have kk : ¬ (k : Int) < 2 := by omega
    obtain ⟨ea0, ea1, ea2, ea3, ea4⟩ := An (A3 H2.out.2.1 HV.out) rfl rfl rfl rfl rfl
    obtain ⟨eb0, eb1, eb2, eb3, eb4⟩ := An (A3 HX2.out.1 HV.out) rfl rfl rfl rfl rfl
    have TL := E0 wr W0.heap.size n m g1 k1 g2 k2 g3 k3 a1 a2 a3 c1 c2 c3 Sa Fa Ea (A0 (H2.out.2.2.2.1.on HV.out)) (A0 (HX2.out.2.1.on HV.out)) (by have := en.out; omega) (by have := en.out; omega) (by have := en.out; omega)
    rw [en.out.1, en.out.2.1, en.out.2.2.1] at TL
    go_wp2_with fail
    go_at_call 17
    refine TL.mono ?_
    rintro e q1 ⟨rfl, d_⟩
    have Hq1 := A0 d_
    clear TL d_ ea0 ea1 ea2 ea3 ea4 eb0 eb1 eb2 eb3 eb4
    have HQ1 : Hid (Below W2.heap.size W2 q1) := A0 (HV.out.trans (Hq1.out.mono HV.out.size))
    obtain ⟨ea0, ea1, ea2, ea3, ea4⟩ := An (A3 H2.out.2.2.1 HQ1.out) rfl rfl rfl rfl rfl
    have eb5 : q1.cell? ⟨w.heap.size, 5, none⟩ = some (.int .i64 n') := A1 (A3 HX2.out.1 HQ1.out) rfl
    have eb6 : q1.cell? ⟨w.heap.size, 6, none⟩ = some (.int .i64 m') := A1 (A3 HX2.out.1 HQ1.out) rfl
    have eb7 : q1.cell? ⟨w.heap.size, 7, none⟩ = some (.slice b1 l1 d1) := A1 (A3 HX2.out.1 HQ1.out) rfl
    have eb8 : q1.cell? ⟨w.heap.size, 8, none⟩ = some (.slice b2 l2 d2) := A1 (A3 HX2.out.1 HQ1.out) rfl
    have eb9 : q1.cell? ⟨w.heap.size, 9, none⟩ = some (.slice b3 l3 d3) := A1 (A3 HX2.out.1 HQ1.out) rfl
    have TL := E0 q1 W0.heap.size n' m' p1 j1 p2 j2 p3 j3 b1 b2 b3 d1 d2 d3 Sb Fb Eb (A0 (H2.out.2.2.2.2.1.on HQ1.out)) (A0 (HX2.out.2.2.1.on HQ1.out)) (by have := en.out; omega) (by have := en.out; omega) (by have := en.out; omega)
    rw [en.out.2.2.2.1, en.out.2.2.2.2.1, en.out.2.2.2.2.2] at TL
    go_wp2_with fail
    go_at_call 17
    refine TL.mono ?_
    rintro e q2 ⟨rfl, d_⟩
    have Hq2 := A0 d_
    clear TL d_ ea0 ea1 ea2 ea3 ea4 eb5 eb6 eb7 eb8 eb9
    have HQ2 : Hid (Below W2.heap.size W2 q2 ∧ W0.heap.size ≤ q2.heap.size) := A0 ⟨HQ1.out.trans (Hq2.out.mono HQ1.out.size), by have := HQ1.out.size; have := Hq2.out.size; have := H2.out.1.size; omega⟩
    obtain ⟨ea0, ea1, ea2, ea3, ea4⟩ := An (A3 H2.out.2.1 HQ2.out.1) rfl rfl rfl rfl rfl
    obtain ⟨eb0, eb1, eb2, eb3, eb4⟩ := An (A3 H2.out.2.2.1 HQ2.out.1) rfl rfl rfl rfl rfl
    have cc12 : q2.cell? ⟨w.heap.size, 12, none⟩ = some (.int .i64 bud0) := A1 (A3 HX2.out.1 HQ2.out.1) rfl
    have TP := Jh q2 W0.heap.size n m n' m' bud0 g1 k1 g2 k2 g3 k3 p1 j1 p2 j2 p3 j3 n1 n2 n3 l1 l2 l3 Sa Fa Ea Sb Fb Eb (A0 ⟨⟨en.out.1, en.out.2.1, en.out.2.2.1⟩, en.out.2.2.2.1, en.out.2.2.2.2.1, en.out.2.2.2.2.2⟩) (A0 ⟨H2.out.2.2.2.1.on HQ2.out.1, H2.out.2.2.2.2.1.on HQ2.out.1⟩) (A0 H2.out.2.2.2.2.2) HQ2.out.2 (by omega) (by omega) (by omega) (by omega) (by omega) (by omega)
    go_wp2_with fail
    go_at_call 18
    refine TP.mono ?_
    rintro e q3 ⟨rfl, Hq3⟩
    clear TP cc12 ea0 ea1 ea2 ea3 ea4 eb0 eb1 eb2 eb3 eb4
    have HQ3 : Hid (Below w.heap.size w q3) := A0 (by
     have d := HX2.out.2.2.2.trans (HQ2.out.1.mono HX2.out.2.2.2.size)
     have s := HD.out.2.2
     exact d.trans (Hq3.out.mono (by omega)))
    go_wp2_with (go_at_call 5; refine (Ke q3).mono ?_; rintro e q4 ⟨rfl, d4⟩)
    go_ret
    exact ⟨rfl, HQ3.out.trans (d4.mono HQ3.out.size)⟩
end Go.Proofs.YtchoopnjckcohaaGreat
namespace Go.Proofs.YtchoopnjckcohaaGreat.frame
open Go.Proofs.Tryz
open Go.ChangeShapes Go.WideShapes Go.ChangeAt Go.RowKit Go.Joins Go.Deep
theorem Q8 : ownKnob prog.godebug = none := by kernel_rfl
theorem Nl : laidOutB prog = true := by kernel_rfl
theorem Hx : prog.cellsOf 3 = 1 := by kernel_rfl
theorem N6 : prog.cellsOf 25 = 5 := by kernel_rfl
theorem N4 : prog.cellsOf 50 = 3 := by kernel_rfl
theorem IZ : prog.cellsOf 22 = 1 := by kernel_rfl
theorem JD : prog.cellsOf 23 = 1 := by kernel_rfl
theorem LQ {H : Type} (d : DataW H) : 0 < Rows.uptoBulk d := by
 cases d
 case lit l => cases l <;> simp [Rows.uptoBulk]
 all_goals simp [Rows.uptoBulk]
theorem Ki {H : Type} (l : List (DataW H)) : l.length ≤ Rows.uptoBulkAll l ∧ ∀ d ∈ l, Rows.uptoBulk d ≤ Rows.uptoBulkAll l := by
 induction l with
 | nil => exact ⟨Nat.zero_le _, fun s hs => by cases hs⟩
 | cons x r ih =>
  have e : Rows.uptoBulkAll (x :: r) = Rows.uptoBulk x + Rows.uptoBulkAll r := by simp [Rows.uptoBulkAll]
  have := LQ x
  rw [e]
  refine ⟨by simp; omega, fun s hs => ?_⟩
  rcases List.mem_cons.1 hs with rfl | h
  · omega
  · have := ih.2 s h; omega
theorem Pi {α : Type} {l : List α} (h : l.length = 1) : ∃ c0, l = [c0] := by
 match l, h with
 | [c0], _ => exact ⟨c0, rfl⟩
theorem NF {α : Type} {l : List α} (h : l.length = 3) : ∃ c0 c1 c2, l = [c0, c1, c2] := by
 match l, h with
 | [c0, c1, c2], _ => exact ⟨c0, c1, c2, rfl⟩
theorem Gq {H : Type} {enc : TypeId × Value → H} {W : World} {n : Nat} {v : Value} {y : DataW H × List MemPlace} {T e sz : Nat} {α : Type} [Inhabited α] (At : Nat → Nat → α → Prop) (Z : α → Nat → Prop) (hZ : ∀ x a b, a ≤ b → Z x a → Z x b)
 (hT : prog.underlying T = some (.slice e)) (hc : prog.cellsOf e = sz)
 (item : ∀ {n' : Nat} {a : Addr} {cs : List Value} {z : DataW H × List MemPlace}, W.cells? 0 a sz = some cs → DataW.trod enc prog W 0 (fun _ => true) true n' e cs = some z → ∃ x : α, At a.block a.off x ∧ a.spot = none ∧ Z x (Rows.uptoBulk z.1))
 (h : DataW.trod enc prog W 0 (fun _ => true) true n T [v] = some y) :
 ∃ aL cL, ∃ L : List α, v = .slice aL L.length cL ∧ (∀ (k : Nat) (hk : k < L.length), ∃ g o, aL = some ⟨g, o, none⟩ ∧ At g (o + k * sz) L[k]) ∧ L.length ≤ Rows.uptoBulk y.1 ∧ ∀ x ∈ L, Z x (Rows.uptoBulk y.1) := by
 rcases open_slice hT h with ⟨hcs, _⟩ | ⟨a, len, cap, m, n', D, Pl, hcs, _, hl, _, hmm, hy, hx⟩
 · simp only [List.cons.injEq, and_true] at hcs
   exact ⟨none, 0, [], hcs, fun k hk => by simp at hk, by simp, fun s hs => by cases hs⟩
 · simp only [List.cons.injEq, and_true] at hcs
   simp only [if_true] at hmm
   have hsp : 0 < len → a.spot = none := by
    intro h0
    obtain ⟨cs', h1, h2⟩ := hx 0 (by omega)
    rw [hc] at h1
    obtain ⟨x, _, sp, _⟩ := item h1 h2
    simpa [Addr.add] using sp
   have each : ∀ i, i < len → ∃ x : α, At a.block (a.off + i * sz) x ∧ a.spot = none ∧ Z x (Rows.uptoBulk (D i)) := by
    intro i hi
    obtain ⟨cs', h1, h2⟩ := hx i (by omega)
    rw [hc] at h1
    obtain ⟨x, o, _, z⟩ := item h1 h2
    obtain ⟨ab, ao, spot⟩ := a
    have hs : spot = none := hsp (by omega)
    subst hs
    rw [Addr.add_lit] at o
    exact ⟨x, o, rfl, z⟩
   have hb := Ki (H := H) ((List.range len).map D)
   have hyb : Rows.uptoBulkAll ((List.range len).map D) ≤ Rows.uptoBulk y.1 := by rw [hy]; simp only [Rows.uptoBulk]; omega
   obtain ⟨q, hq⟩ := choose_lt each
   refine ⟨some a, cap, (List.range len).map q, by simpa using hcs, fun k hk => ?_, ?_, fun x hx2 => ?_⟩
   · have hk' : k < len := by simpa using hk
     obtain ⟨ab, ao, spot⟩ := a
     have hsp : spot = none := (hq k hk').2.1
     subst hsp
     refine ⟨ab, ao, rfl, ?_⟩
     have := (hq k hk').1
     simpa using this
   · have := hb.1
     simp at this
     simp
     omega
   · obtain ⟨i, hi, rfl⟩ := List.mem_map.1 hx2
     have hi' := List.mem_range.1 hi
     have h1 := (hq i hi').2.2
     have h2 := hb.2 (D i) (List.mem_map_of_mem hi)
     exact hZ _ _ _ (by omega) h1
theorem Md {α : Type} {l : List α} (h : l.length = 5) : ∃ c0 c1 c2 c3 c4, l = [c0, c1, c2, c3, c4] := by
 match l, h with
 | [c0, c1, c2, c3, c4], _ => exact ⟨c0, c1, c2, c3, c4, rfl⟩
theorem Lv {H : Type} {enc : TypeId × Value → H} {W : World} {n : Nat} {a : Addr} {cs : List Value} {y : DataW H × List MemPlace} (h1 : W.cells? 0 a 1 = some cs) (h : DataW.trod enc prog W 0 (fun _ => true) true n 3 cs = some y) :
 ∃ x : Int, W.cell? ⟨a.block, a.off, none⟩ = some (.int .i64 x) ∧ a.spot = none := by
 obtain ⟨_, hlen, hcell⟩ := World.cells?_some h1
 obtain ⟨v0, rfl⟩ := Pi hlen
 obtain ⟨k, e1, _, _⟩ := DataW.trod_int underlying3 h
 simp only [List.cons.injEq, and_true] at e1
 subst e1
 have c0 := hcell 0 (by omega)
 obtain ⟨ab, ao, spot⟩ := a
 have hspot : spot = none := by simpa [Addr.add] using World.cell?_spot c0
 subst hspot
 rw [Addr.add_lit] at c0
 exact ⟨k, c0, rfl⟩
theorem Nq {H : Type} {enc : TypeId × Value → H} {W : World} {n : Nat} {a : Addr} {cs : List Value} {y : DataW H × List MemPlace} (h1 : W.cells? 0 a 3 = some cs) (h : DataW.trod enc prog W 0 (fun _ => true) true n 50 cs = some y) :
 ∃ x : Aa, (W.cell? ⟨a.block, a.off, none⟩ = some (.int .i64 x.1) ∧ W.cell? ⟨a.block, a.off + 1, none⟩ = some (.int .i64 x.2.1) ∧ W.cell? ⟨a.block, a.off + 2, none⟩ = some (.int .i64 x.2.2)) ∧ a.spot = none := by
 obtain ⟨_, hlen, hcell⟩ := World.cells?_some h1
 obtain ⟨v0, v1, v2, rfl⟩ := NF hlen
 obtain ⟨xs, n', _, hx, hl, hlen2, hfl⟩ := DataW.trod_struct underlying50 h
 obtain ⟨y0, y1, y2, rfl⟩ := NF hlen2
 have g0 := hfl 0 _ rfl
 have g1 := hfl 1 _ rfl
 have g2 := hfl 2 _ rfl
 simp [Hx] at g0 g1 g2
 obtain ⟨s, e0, _, _⟩ := DataW.trod_int underlying3 g0
 obtain ⟨t, e1, _, _⟩ := DataW.trod_int underlying3 g1
 obtain ⟨u, e2, _, _⟩ := DataW.trod_int underlying3 g2
 simp only [List.cons.injEq, and_true] at e0 e1 e2
 subst e0 e1 e2
 have c0 := hcell 0 (by omega)
 have c1 := hcell 1 (by omega)
 have c2 := hcell 2 (by omega)
 obtain ⟨ab, ao, spot⟩ := a
 have hspot : spot = none := by simpa [Addr.add] using World.cell?_spot c0
 subst hspot
 rw [Addr.add_lit] at c0 c1 c2
 exact ⟨(s, t, u), ⟨c0, c1, c2⟩, rfl⟩
theorem EJ {H : Type} {enc : TypeId × Value → H} {W : World} {n : Nat} {v : Value} {y : DataW H × List MemPlace} (h : DataW.trod enc prog W 0 (fun _ => true) true n 22 [v] = some y) :
 ∃ (a : Option Addr) (c : Nat) (L : List Int), v = .slice a L.length c ∧ BB W a L ∧ L.length ≤ Rows.uptoBulk y.1 := by
 obtain ⟨a, k, L, rfl, hL, l1, _⟩ := Gq (α := Int) (fun g o x => W.cell? ⟨g, o, none⟩ = some (.int .i64 x)) (fun _ _ => True) (fun _ _ _ _ q => q) underlying22 Hx (fun h1 h2 => by obtain ⟨x, q, s⟩ := Lv h1 h2; exact ⟨x, q, s, trivial⟩) h
 refine ⟨a, k, L, rfl, fun k hk => ?_, l1⟩
 obtain ⟨g, o, e, q⟩ := hL k hk
 exact ⟨g, o, e, by rw [Nat.mul_one] at q; exact q⟩
theorem Km {H : Type} {enc : TypeId × Value → H} {W : World} {n : Nat} {v0 v1 v2 v3 v4 : Value} {y : DataW H × List MemPlace} (h : DataW.trod enc prog W 0 (fun _ => true) true n 25 [v0, v1, v2, v3, v4] = some y) :
 ∃ (nn mm : Int) (a1 a2 a3 : Option Addr) (c1 c2 c3 : Nat) (St Fi : List Int) (Ed : List Aa), v0 = .int .i64 nn ∧ v1 = .int .i64 mm ∧ v2 = .slice a1 St.length c1 ∧ v3 = .slice a2 Fi.length c2 ∧ v4 = .slice a3 Ed.length c3 ∧ AP W a1 a2 a3 St Fi Ed ∧
  St.length ≤ Rows.uptoBulk y.1 ∧ Fi.length ≤ Rows.uptoBulk y.1 ∧ Ed.length ≤ Rows.uptoBulk y.1 := by
 obtain ⟨ys, n2, _, hx2, hl2, hlen2, hfl2⟩ := DataW.trod_struct underlying25 h
 obtain ⟨z0, z1, z2, z3, z4, rfl⟩ := Md hlen2
 have g0 := hfl2 0 _ rfl
 have g1 := hfl2 1 _ rfl
 have g2 := hfl2 2 _ rfl
 have g3 := hfl2 3 _ rfl
 have g4 := hfl2 4 _ rfl
 simp [Hx, IZ, JD] at g0 g1 g2 g3 g4
 obtain ⟨nn, e0, _, _⟩ := DataW.trod_int underlying3 g0
 obtain ⟨mm, e1, _, _⟩ := DataW.trod_int underlying3 g1
 simp only [List.cons.injEq, and_true] at e0 e1
 have hb0 : Rows.uptoBulk z2.1 ≤ Rows.uptoBulk y.1 ∧ Rows.uptoBulk z3.1 ≤ Rows.uptoBulk y.1 ∧ Rows.uptoBulk z4.1 ≤ Rows.uptoBulk y.1 := by
  rw [hx2]
  simp only [List.map_cons, List.map_nil, Rows.uptoBulk, Rows.uptoBulkAll]
  exact ⟨by omega, by omega, by omega⟩
 obtain ⟨a1, k1, St, e2, hSt, l1⟩ := EJ g2
 obtain ⟨a2, k2, Fi, e3, hFi, l2⟩ := EJ g3
 obtain ⟨a3, k3, Ed, e4, hEd, l3, _⟩ := Gq (α := Aa) (fun g o x => W.cell? ⟨g, o, none⟩ = some (.int .i64 x.1) ∧ W.cell? ⟨g, o + 1, none⟩ = some (.int .i64 x.2.1) ∧ W.cell? ⟨g, o + 2, none⟩ = some (.int .i64 x.2.2)) (fun _ _ => True) (fun _ _ _ _ q => q) underlying23 N4 (fun h1 h2 => by obtain ⟨x, q, s⟩ := Nq h1 h2; exact ⟨x, q, s, trivial⟩) g4
 exact ⟨nn, mm, a1, a2, a3, k1, k2, k3, St, Fi, Ed, e0, e1, e2, e3, e4, ⟨hSt, hFi, hEd⟩, by omega, by omega, by omega⟩
theorem CN {H : Type} {enc : TypeId × Value → H} {W : World} {n : Nat} {a : Option Addr} {l c T e : Nat} {y : DataW H × List MemPlace} (hT : prog.underlying T = some (.slice e)) (h : DataW.trod enc prog W 0 (fun _ => true) true n T [.slice a l c] = some y) : l ≤ c ∧ (a = none → c = 0) := by
 rcases open_slice hT h with ⟨hcs, _⟩ | ⟨_, len, cap, _, _, _, _, hcs, _, hlc, _⟩
 · simp only [List.cons.injEq, and_true] at hcs
   injection hcs with e1 e2 e3
   exact ⟨by omega, fun _ => e3⟩
 · simp only [List.cons.injEq, and_true] at hcs
   injection hcs with e1 e2 e3
   exact ⟨by omega, fun h => by rw [e1] at h; cases h⟩
theorem Gv {H : Type} {enc : TypeId × Value → H} {W : World} {n : Nat} {v0 v1 v2 v3 v4 : Value} {y : DataW H × List MemPlace} (h : DataW.trod enc prog W 0 (fun _ => true) true n 25 [v0, v1, v2, v3, v4] = some y) :
 ∃ (nn mm : Int) (a1 a2 a3 : Option Addr) (c1 c2 c3 : Nat) (St Fi : List Int) (Ed : List Aa), v0 = .int .i64 nn ∧ v1 = .int .i64 mm ∧ v2 = .slice a1 St.length c1 ∧ v3 = .slice a2 Fi.length c2 ∧ v4 = .slice a3 Ed.length c3 ∧ AP W a1 a2 a3 St Fi Ed ∧
  (St.length ≤ Rows.uptoBulk y.1 ∧ Fi.length ≤ Rows.uptoBulk y.1 ∧ Ed.length ≤ Rows.uptoBulk y.1) ∧ (a1 = none → c1 = 0) ∧ (a2 = none → c2 = 0) ∧ (a3 = none → c3 = 0) ∧ Ed.length ≤ c3 := by
 obtain ⟨nn, mm, a1, a2, a3, c1, c2, c3, St, Fi, Ed, e0, e1, e2, e3, e4, hr, l1, l2, l3⟩ := Km h
 subst e2 e3 e4
 obtain ⟨ys, n2, _, hx2, hl2, hlen2, hfl2⟩ := DataW.trod_struct underlying25 h
 obtain ⟨z0, z1, z2, z3, z4, rfl⟩ := Md hlen2
 have g2 := hfl2 2 _ rfl
 have g3 := hfl2 3 _ rfl
 have g4 := hfl2 4 _ rfl
 simp [IZ, JD] at g2 g3 g4
 have r2 := CN underlying22 g2
 have r3 := CN underlying22 g3
 have r4 := CN underlying23 g4
 exact ⟨nn, mm, a1, a2, a3, c1, c2, c3, St, Fi, Ed, e0, e1, rfl, rfl, rfl, hr, ⟨l1, l2, l3⟩, r2.2, r3.2, r4.2, r4.1⟩
theorem LI : prog.cellsOf 38 = 13 := by kernel_rfl
theorem Ou {α : Type} {l : List α} (h : l.length = 13) : ∃ a b c d e f g h i j k o p, l = [a, b, c, d, e, f, g, h, i, j, k, o, p] := by
 match l, h with
 | [a, b, c, d, e, f, g, h, i, j, k, o, p], _ => exact ⟨a, b, c, d, e, f, g, h, i, j, k, o, p, rfl⟩
theorem Om {H : Type} {enc : TypeId × Value → H} {W : World} {base : Nat} {v : Value} {d : DataW H} {p : List MemPlace} (hv : Value.okWide prog W .any base 38 v) (h : DataW.Trod enc prog W 0 (fun _ => true) true 38 v d p) (hk : Rows.uptoBulk d ≤ 1048576) :
 ∃ (n m n' m' s bu : Int) (a1 a2 a3 b1 b2 b3 aw : Option Addr) (c1 c2 c3 d1 d2 d3 cw : Nat) (St Fi Sb Fb Wd : List Int) (Ed Eb : List Aa), v = .agg #[.int .i64 n, .int .i64 m, .slice a1 St.length c1, .slice a2 Fi.length c2, .slice a3 Ed.length c3, .int .i64 n', .int .i64 m', .slice b1 Sb.length d1, .slice b2 Fb.length d2, .slice b3 Eb.length d3, .slice aw Wd.length cw, .int .i64 s, .int .i64 bu] ∧ AP W a1 a2 a3 St Fi Ed ∧ AP W b1 b2 b3 Sb Fb Eb ∧ BB W aw Wd ∧ (St.length ≤ 1048576 ∧ Fi.length ≤ 1048576 ∧ Ed.length ≤ 1048576) ∧ (Sb.length ≤ 1048576 ∧ Fb.length ≤ 1048576 ∧ Eb.length ≤ 1048576) ∧ Wd.length ≤ 1048576 ∧ ((a1 = none → c1 = 0) ∧ (a2 = none → c2 = 0) ∧ (a3 = none → c3 = 0) ∧ Ed.length ≤ c3) ∧ ((b1 = none → d1 = 0) ∧ (b2 = none → d2 = 0) ∧ (b3 = none → d3 = 0) ∧ Eb.length ≤ d3) ∧ (aw = none → cw = 0) := by
 obtain ⟨cs, rfl, hsz⟩ := okWide_struct underlying38 hv
 obtain ⟨l⟩ := cs
 have hl13 : l.length = 13 := hsz.trans LI
 obtain ⟨x0, x1, x2, x3, x4, x5, x6, x7, x8, x9, x10, x11, x12, rfl⟩ := Ou hl13
 obtain ⟨fuel, hf⟩ := h
 obtain ⟨xs, n, _, hx, hl, hlen, hfl⟩ := DataW.trod_struct underlying38 hf
 obtain ⟨y0, y1, y2, y3, y4, rfl⟩ := Md hlen
 have h0 := hfl 0 _ rfl
 have h1 := hfl 1 _ rfl
 have h2 := hfl 2 _ rfl
 have h3 := hfl 3 _ rfl
 have h4 := hfl 4 _ rfl
 simp [Value.cells, IZ, N6, Hx] at h0 h1 h2 h3 h4
 simp only [Prod.mk.injEq] at hx
 rw [hx.1] at hk
 simp only [List.map_cons, List.map_nil, Rows.uptoBulk, Rows.uptoBulkAll] at hk
 obtain ⟨n, m, a1, a2, a3, k1, k2, k3, St, Fi, Ed, rfl, rfl, rfl, rfl, rfl, rA, ⟨e1, e2, e3⟩, zA⟩ := Gv h0
 obtain ⟨n', m', b1, b2, b3, j1, j2, j3, Sb, Fb, Eb, rfl, rfl, rfl, rfl, rfl, rB, ⟨f1, f2, f3⟩, zB⟩ := Gv h1
 obtain ⟨aw, cw, Wd, rfl, rW, l4⟩ := EJ h2
 have zW := (CN underlying22 h2).2
 obtain ⟨s, q3, _, _⟩ := DataW.trod_int underlying3 h3
 obtain ⟨bu, q4, _, _⟩ := DataW.trod_int underlying3 h4
 simp only [List.cons.injEq, and_true] at q3 q4
 subst q3 q4
 exact ⟨n, m, n', m', s, bu, a1, a2, a3, b1, b2, b3, aw, k1, k2, k3, j1, j2, j3, cw, St, Fi, Sb, Fb, Wd, Ed, Eb, rfl, rA, rB, rW, ⟨by omega, by omega, by omega⟩, ⟨by omega, by omega, by omega⟩, by omega, zA, zB, zW⟩
end Go.Proofs.YtchoopnjckcohaaGreat.frame
