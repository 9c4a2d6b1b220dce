import Derived.Test.YtchoopnjckcohaaGreatQab
import Derived.Deep.RegionLaw
set_option maxRecDepth 100000
set_option maxHeartbeats 40000000
namespace Go.Proofs.YtchoopnjckcohaaGreat
open Tryz
open Go.RowKit Go.Maps Go.Shelf
attribute [local go_sem] Oper.semAt_some
theorem ED {W : World} {b : Nat} {x : Int} {t : TypeId} {fr : Nat × Nat} (h : W.heap[b]? = some (.cells #[.int .i64 x] t fr)) : BB W (some ⟨b, 0, none⟩) [x] := fun j hj => by
 obtain rfl : j = 0 := by simpa using hj
 exact ⟨b, 0, rfl, A1 h rfl⟩
theorem LX {W : World} {b : Nat} {t : TypeId} {fr : Nat × Nat} (h : W.heap[b]? = some (.cells #[.int .i64 0, .int .i64 0, .int .i64 1, .int .i64 0, .int .i64 0, .int .i64 2, .int .i64 2, .int .i64 1, .int .i64 3] t fr)) : Cl W (some ⟨b, 0, none⟩) [(0, 0, 1), (0, 0, 2), (2, 1, 3)] := fun j hj => by
 have hj' : j < 3 := by simpa using hj
 obtain rfl | rfl | rfl : j = 0 ∨ j = 1 ∨ j = 2 := by omega
 · exact ⟨b, 0, rfl, A1 h rfl, A1 h rfl, A1 h rfl⟩
 · exact ⟨b, 0, rfl, A1 h rfl, A1 h rfl, A1 h rfl⟩
 · exact ⟨b, 0, rfl, A1 h rfl, A1 h rfl, A1 h rfl⟩
theorem Pc (w : World) (A B C : Array Value) (t u v : TypeId) : Below w.heap.size w (((w.alloc (.cells A t)).alloc (.cells B u)).alloc (.cells C v)) ∧ (((w.alloc (.cells A t)).alloc (.cells B u)).alloc (.cells C v)).heap[w.heap.size]? = some (.cells A t (0, 0)) ∧ (((w.alloc (.cells A t)).alloc (.cells B u)).alloc (.cells C v)).heap[w.heap.size + 1]? = some (.cells B u (0, 0)) ∧ (((w.alloc (.cells A t)).alloc (.cells B u)).alloc (.cells C v)).heap[w.heap.size + 2]? = some (.cells C v (0, 0)) ∧ (((w.alloc (.cells A t)).alloc (.cells B u)).alloc (.cells C v)).heap.size = w.heap.size + 3 := by
 have z1 : (w.alloc (.cells A t)).heap.size = w.heap.size + 1 := by simp
 have z2 : ((w.alloc (.cells A t)).alloc (.cells B u)).heap.size = w.heap.size + 2 := by simp
 refine ⟨((((Below.refl _ _).alloc (Nat.le_refl _) _).alloc (by omega) _).alloc (by omega) _), ?_, ?_, ?_, by simp⟩
 · exact ((Below.heap_alloc _ _ _ (by omega)).trans (Below.heap_alloc _ _ _ (by omega))).trans (World.alloc_heap_new _ _)
 · have := World.alloc_heap_new (w.alloc (.cells A t)) (.cells B u)
   rw [z1] at this
   exact (Below.heap_alloc _ _ _ (by omega)).trans this
 · have := World.alloc_heap_new ((w.alloc (.cells A t)).alloc (.cells B u)) (.cells C v)
   rw [z2] at this
   exact this
theorem Hu {L : List Int} (h : L.Pairwise (· < ·)) : A5 L = L := Jc _ _ (Ba L) h fun x => BN L x
theorem NI (s : Int) (h : 0 ≤ s ∧ s < 2) : AC 2 2 [0] [1] [(0, s, 1)] = true := by
 obtain rfl | rfl : s = 0 ∨ s = 1 := by omega
 · decide
 · decide
theorem PH : DK [(0, 0, 1)] [1] (AS [0] 2) 2 2 = [(0, 0, 1), (0, 0, 2)] := by
 have r1 : A5 [(1 : Int), 2] = [1, 2] := Hu (by simp)
 have r0 := FL
 have e00 : G6 [(0, 0, 1)] [1] (AS [0] 2) 0 0 = [(0, 0, 1), (0, 0, 2)] := by
  unfold G6
  rw [show Fd [(0, 0, 1)] [1] (AS [0] 2) 0 0 = [1, 2] by decide, r1]
  rfl
 have e01 : G6 [(0, 0, 1)] [1] (AS [0] 2) 0 1 = [] := by
  unfold G6
  rw [show Fd [(0, 0, 1)] [1] (AS [0] 2) 0 1 = [] by decide, r0]
  rfl
 have e10 : G6 [(0, 0, 1)] [1] (AS [0] 2) 1 0 = [] := by
  unfold G6
  rw [show Fd [(0, 0, 1)] [1] (AS [0] 2) 1 0 = [] by decide, r0]
  rfl
 have e11 : G6 [(0, 0, 1)] [1] (AS [0] 2) 1 1 = [] := by
  unfold G6
  rw [show Fd [(0, 0, 1)] [1] (AS [0] 2) 1 1 = [] by decide, r0]
  rfl
 rw [show (2 : Nat) = 0 + 1 + 1 from rfl, Db, Db]
 simp [DK, DE, List.range_succ, e00, e01, e10, e11]
theorem JJ (w : World) (g : Nat) (s : Int) (hs : 0 ≤ s ∧ s < 2) (h : w.heap[g]? = some (.cells #[.int .i64 s] 3 (0, 0))) :
 Calls prog 19 #[.slice (some ⟨g, 0, none⟩) 1 1, .int .i64 2] w fun e w' => ∃ b1 k1 b2 k2 b3 k3, e = .returned (.tuple #[.agg #[.int .i64 2, .int .i64 2, .slice b1 1 k1, .slice b2 1 k2, .slice b3 1 k3], .int .i64 0]) ∧ Hid (AE w.heap.size w' (.slice b1 1 k1) (.slice b2 1 k2) (.slice b3 1 k3) [0] [1] [(0, s, 1)] ∧ Below w.heap.size w w') :=
 OL w (some ⟨g, 0, none⟩) 1 1 2 [s] (A0 rfl) (A0 (ED h)) (by omega) (by omega) (A0 (fun x hx => by rw [List.mem_singleton] at hx; subst hx; exact hs))
theorem IX (w : World) (a1 a2 a3 b1 b2 b3 : Option Addr) (c1 c2 c3 d1 d2 d3 : Nat) (hA : Hid (AP w a1 a2 a3 [0] [1] [(0, 0, 1)])) (hB : Hid (AP w b1 b2 b3 [0] [1] [(0, 1, 1)])) :
 Calls prog 20 #[.agg #[.int .i64 2, .int .i64 2, .slice a1 1 c1, .slice a2 1 c2, .slice a3 1 c3], .agg #[.int .i64 2, .int .i64 2, .slice b1 1 d1, .slice b2 1 d2, .slice b3 1 d3]] w fun e w' => ∃ g1 k1 t2 u2 z5 d5, e = .returned (.tuple #[.agg #[.int .i64 4, .int .i64 2, .slice (some ⟨g1, 0, none⟩) 1 k1, .slice t2 1 u2, .slice z5 3 d5], .int .i64 0]) ∧ Hid (AP w' (some ⟨g1, 0, none⟩) t2 z5 [0] [3] [(0, 0, 1), (0, 0, 2), (2, 1, 3)] ∧ Below w.heap.size w w') := by
 have T := K8 w 2 2 2 a1 a2 a3 b1 b2 b3 c1 c2 c3 d1 d2 d3 [0] [1] [0] [1] [(0, 0, 1)] [(0, 1, 1)] hA hB (by decide) (by decide) (by decide) (by decide) (by decide) (by decide) (NI 0 (by omega)) (NI 1 (by omega)) (by decide) (by decide)
 rw [Im, Im, Cu (L := [(0, 0, 1)]) (by decide), Cu (L := [(0, 1, 1)]) (by decide)] at T
 have T2 := T (A0 (by decide)) (A0 (by have q := AZ [((0 : Int), (0 : Int), (1 : Int))]; rwa [Cu (by decide)] at q)) (A0 (by decide)) (A0 (fun x hx => ⟨0, by omega, by simpa using hx⟩)) (A0 (fun x hx => ⟨1, by omega, by simpa using hx⟩)) (A0 (fun x hx => ⟨0, by omega, by simpa using hx⟩)) (A0 (fun x hx => ⟨1, by omega, by simpa using hx⟩)) (A0 (by decide))
 rw [show ((2 : Nat) : Int) = 2 from rfl, PH] at T2
 exact T2 (by decide) (A0 (by decide)) (A0 (by decide))
theorem Ke (w : World) : Calls prog 5 #[] w fun e w' => e = .returned (.bool true) ∧ Below w.heap.size w w' := by
 obtain ⟨A, hA⟩ : ∃ A, w.alloc (.cells #[.int .i64 0] 3) = A := ⟨_, rfl⟩
 have HA : Hid (A.heap[w.heap.size]? = some (.cells #[.int .i64 0] 3 (0, 0)) ∧ Below w.heap.size w A) := A0 (by rw [← hA]; exact ⟨World.alloc_heap_new _ _, (Below.refl _ _).alloc (Nat.le_refl _) _⟩)
 have TA := JJ A w.heap.size 0 (by omega) HA.out.1
 go_enter func5, ntmps5
 go_upto_region 2 with (go_at_call 19; refine TA.mono ?_; rintro e w1 ⟨x1, k1, x2, k2, x3, k3, rfl, H1⟩)
 clear TA
 obtain ⟨B, hB⟩ : ∃ B, (w1.alloc (.cells #[.int .i64 2, .int .i64 2, .slice x1 1 k1, .slice x2 1 k2, .slice x3 1 k3] 25)).alloc (.cells #[.int .i64 1] 3) = B := ⟨_, rfl⟩
 have HB : Hid (B.heap[w1.heap.size]? = some (.cells #[.int .i64 2, .int .i64 2, .slice x1 1 k1, .slice x2 1 k2, .slice x3 1 k3] 25 (0, 0)) ∧ B.heap[w1.heap.size + 1]? = some (.cells #[.int .i64 1] 3 (0, 0)) ∧ Below w1.heap.size w1 B) := A0 (by
  have hk1 := (Below.refl w1.heap.size w1).alloc (Nat.le_refl _) (.cells #[.int .i64 2, .int .i64 2, .slice x1 1 k1, .slice x2 1 k2, .slice x3 1 k3] 25)
  have z1 := World.alloc_heap_new w1 (.cells #[.int .i64 2, .int .i64 2, .slice x1 1 k1, .slice x2 1 k2, .slice x3 1 k3] 25)
  have s1 : (w1.alloc (.cells #[.int .i64 2, .int .i64 2, .slice x1 1 k1, .slice x2 1 k2, .slice x3 1 k3] 25)).heap.size = w1.heap.size + 1 := by simp
  generalize w1.alloc (.cells #[.int .i64 2, .int .i64 2, .slice x1 1 k1, .slice x2 1 k2, .slice x3 1 k3] 25) = Z at hk1 z1 s1 hB
  have hk2 := (Below.refl Z.heap.size Z).alloc (Nat.le_refl _) (.cells #[.int .i64 1] 3)
  have z2 := World.alloc_heap_new Z (.cells #[.int .i64 1] 3)
  rw [hB] at hk2 z2
  rw [s1] at z2
  exact ⟨A3 z1 hk2, z2, hk1.trans (hk2.mono hk1.size)⟩)
 have TB := JJ B (w1.heap.size + 1) 1 (by omega) HB.out.2.1
 go_upto_region 3 with (go_at_call 19; refine TB.mono ?_; rintro e w2 ⟨y1, j1, y2, j2, y3, j3, rfl, H2⟩)
 clear TB hB hA
 obtain ⟨Cw, hC⟩ : ∃ C, w2.alloc (.cells #[.int .i64 2, .int .i64 2, .slice y1 1 j1, .slice y2 1 j2, .slice y3 1 j3] 25) = C := ⟨_, rfl⟩
 have HC : Hid (Cw.heap[w2.heap.size]? = some (.cells #[.int .i64 2, .int .i64 2, .slice y1 1 j1, .slice y2 1 j2, .slice y3 1 j3] 25 (0, 0)) ∧ Below w2.heap.size w2 Cw) := A0 (by rw [← hC]; exact ⟨World.alloc_heap_new _ _, (Below.refl _ _).alloc (Nat.le_refl _) _⟩)
 rw [hC]
 clear hC
 have HX : Hid (Cw.heap[w1.heap.size]? = some (.cells #[.int .i64 2, .int .i64 2, .slice x1 1 k1, .slice x2 1 k2, .slice x3 1 k3] 25 (0, 0)) ∧ AP Cw x1 x2 x3 [0] [1] [(0, 0, 1)] ∧ AP Cw y1 y2 y3 [0] [1] [(0, 1, 1)] ∧ Below w.heap.size w Cw) := A0 (by
  have dA := HA.out.2.trans (H1.out.2.mono HA.out.2.size)
  have dB := HB.out.2.2.trans (H2.out.2.mono HB.out.2.2.size)
  have dC := dB.trans (HC.out.2.mono dB.size)
  refine ⟨A3 (A3 HB.out.1 H2.out.2) HC.out.2, ?_, ?_, dA.trans (dC.mono dA.size)⟩
  · exact (AE.rd H1.out.1).on dC
  · exact (AE.rd H2.out.1).on HC.out.2)
 have TC := IX Cw x1 x2 x3 y1 y2 y3 k1 k2 k3 j1 j2 j3 (A0 HX.out.2.1) (A0 HX.out.2.2.1)
 obtain ⟨p0, p1, p2, p3, p4⟩ := An HX.out.1 rfl rfl rfl rfl rfl
 obtain ⟨q0, q1, q2, q3, q4⟩ := An HC.out.1 rfl rfl rfl rfl rfl
 go_upto_region 4 with (go_at_call 20; refine TC.mono ?_; rintro e w3 ⟨g1, e1, t2, u2, z5, d5, rfl, H3⟩)
 clear TC p0 q0 p1 q1 p2 q2 p3 q3 p4 q4
 have HD3 : Hid (Below w.heap.size w w3) := A0 (HX.out.2.2.2.trans (H3.out.2.mono HX.out.2.2.2.size))
 clear HX HC HB HA H1 H2
 go_upto_region 5 with fail
 obtain ⟨W5, hW5⟩ : ∃ W, ((((w3.alloc (.cells #[.int .i64 4, .int .i64 2, .slice (some ⟨g1, 0, none⟩) 1 e1, .slice t2 1 u2, .slice z5 3 d5] 25)).alloc (.cells #[.int .i64 0] 3)).alloc (.cells #[.int .i64 3] 3)).alloc (.cells #[.int .i64 0, .int .i64 0, .int .i64 1, .int .i64 0, .int .i64 0, .int .i64 2, .int .i64 2, .int .i64 1, .int .i64 3] 50)).alloc (.cells #[.int .i64 4, .int .i64 2, .slice (some ⟨w3.heap.size + 1, 0, none⟩) 1 1, .slice (some ⟨w3.heap.size + 1 + 1, 0, none⟩) 1 1, .slice (some ⟨w3.heap.size + 1 + 1 + 1, 0, none⟩) 3 3] 25) = W := ⟨_, rfl⟩
 rw [hW5]
 have HW : Hid (W5.heap[w3.heap.size]? = some (.cells #[.int .i64 4, .int .i64 2, .slice (some ⟨g1, 0, none⟩) 1 e1, .slice t2 1 u2, .slice z5 3 d5] 25 (0, 0)) ∧ W5.heap[w3.heap.size + 1 + 1 + 1 + 1]? = some (.cells #[.int .i64 4, .int .i64 2, .slice (some ⟨w3.heap.size + 1, 0, none⟩) 1 1, .slice (some ⟨w3.heap.size + 1 + 1, 0, none⟩) 1 1, .slice (some ⟨w3.heap.size + 1 + 1 + 1, 0, none⟩) 3 3] 25 (0, 0)) ∧ AP W5 (some ⟨w3.heap.size + 1, 0, none⟩) (some ⟨w3.heap.size + 1 + 1, 0, none⟩) (some ⟨w3.heap.size + 1 + 1 + 1, 0, none⟩) [0] [3] [(0, 0, 1), (0, 0, 2), (2, 1, 3)] ∧ Below w3.heap.size w3 W5) := A0 (by
  have h1 := (Below.refl w3.heap.size w3).alloc (Nat.le_refl _) (.cells #[.int .i64 4, .int .i64 2, .slice (some ⟨g1, 0, none⟩) 1 e1, .slice t2 1 u2, .slice z5 3 d5] 25)
  have z1 := World.alloc_heap_new w3 (.cells #[.int .i64 4, .int .i64 2, .slice (some ⟨g1, 0, none⟩) 1 e1, .slice t2 1 u2, .slice z5 3 d5] 25)
  have s1 : (w3.alloc (.cells #[.int .i64 4, .int .i64 2, .slice (some ⟨g1, 0, none⟩) 1 e1, .slice t2 1 u2, .slice z5 3 d5] 25)).heap.size = w3.heap.size + 1 := by simp
  generalize w3.alloc (.cells #[.int .i64 4, .int .i64 2, .slice (some ⟨g1, 0, none⟩) 1 e1, .slice t2 1 u2, .slice z5 3 d5] 25) = Z at h1 z1 s1 hW5
  have hb := Pc Z #[.int .i64 0] #[.int .i64 3] #[.int .i64 0, .int .i64 0, .int .i64 1, .int .i64 0, .int .i64 0, .int .i64 2, .int .i64 2, .int .i64 1, .int .i64 3] 3 3 50
  generalize ((Z.alloc (.cells #[.int .i64 0] 3)).alloc (.cells #[.int .i64 3] 3)).alloc (.cells #[.int .i64 0, .int .i64 0, .int .i64 1, .int .i64 0, .int .i64 0, .int .i64 2, .int .i64 2, .int .i64 1, .int .i64 3] 50) = V at hb hW5
  have h2 := (Below.refl V.heap.size V).alloc (Nat.le_refl _) (.cells #[.int .i64 4, .int .i64 2, .slice (some ⟨w3.heap.size + 1, 0, none⟩) 1 1, .slice (some ⟨w3.heap.size + 1 + 1, 0, none⟩) 1 1, .slice (some ⟨w3.heap.size + 1 + 1 + 1, 0, none⟩) 3 3] 25)
  have z2 := World.alloc_heap_new V (.cells #[.int .i64 4, .int .i64 2, .slice (some ⟨w3.heap.size + 1, 0, none⟩) 1 1, .slice (some ⟨w3.heap.size + 1 + 1, 0, none⟩) 1 1, .slice (some ⟨w3.heap.size + 1 + 1 + 1, 0, none⟩) 3 3] 25)
  rw [hW5] at h2 z2
  rw [hb.2.2.2.2, s1] at z2
  rw [s1] at hb
  have dZ : Below Z.heap.size Z W5 := by
   have q := hb.1
   rw [← s1] at q
   exact q.trans (h2.mono q.size)
  exact ⟨A3 z1 dZ, z2, ⟨ED (A3 hb.2.1 h2), ED (A3 hb.2.2.1 h2), LX (A3 hb.2.2.2.1 h2)⟩, h1.trans (dZ.mono h1.size)⟩)
 clear hW5
 have TE := BE W5 4 2 4 2 (some ⟨g1, 0, none⟩) t2 z5 (some ⟨w3.heap.size + 1, 0, none⟩) (some ⟨w3.heap.size + 1 + 1, 0, none⟩) (some ⟨w3.heap.size + 1 + 1 + 1, 0, none⟩) e1 u2 d5 1 1 3 [0] [3] [(0, 0, 1), (0, 0, 2), (2, 1, 3)] [0] [3] [(0, 0, 1), (0, 0, 2), (2, 1, 3)] (A0 (H3.out.1.on HW.out.2.2.2)) (A0 HW.out.2.2.1) (by decide) (by decide) (by decide) (by decide) (by decide) (by decide)
 rw [show KT 4 2 4 2 [0] [3] [(0, 0, 1), (0, 0, 2), (2, 1, 3)] [0] [3] [(0, 0, 1), (0, 0, 2), (2, 1, 3)] = true by decide] at TE
 obtain ⟨p0, p1, p2, p3, p4⟩ := An HW.out.1 rfl rfl rfl rfl rfl
 obtain ⟨q0, q1, q2, q3, q4⟩ := An HW.out.2.1 rfl rfl rfl rfl rfl
 go_wp2_with (go_at_call 14; refine TE.mono ?_; rintro e w6 ⟨rfl, D6⟩; have H6 := A0 D6; clear D6)
 go_ret
 have d5 := HD3.out.trans (HW.out.2.2.2.mono HD3.out.size)
 exact ⟨rfl, d5.trans (H6.out.mono d5.size)⟩
def PE (N : Nat) (l : List Int) : Prop := l.Pairwise (· < ·) ∧ ∀ x ∈ l, 0 ≤ x ∧ x < (N : Int)
theorem Lb : ∀ (l : List Int) (a b : Int), l.Pairwise (· < ·) → (∀ x ∈ l, a ≤ x ∧ x < b) → l.length ≤ (b - a).toNat
 | [], _, _, _, _ => Nat.zero_le _
 | x :: l, a, b, hp, hx => by
  have h1 := hx x (by simp)
  have h2 := Lb l (x + 1) b (List.pairwise_cons.1 hp).2 (fun y hy => ⟨(List.pairwise_cons.1 hp).1 y hy, (hx y (by simp [hy])).2⟩)
  rw [List.length_cons]
  omega
theorem PE.len {N : Nat} {l : List Int} (h : PE N l) : l.length ≤ N := by
 have := Lb l 0 N h.1 h.2
 omega
theorem CH {N : Nat} {L : List Int} (h : ∀ x ∈ L, 0 ≤ x ∧ x < (N : Int)) : PE N (A5 L) := ⟨Ba L, fun x hx => h x ((BN L x).1 hx)⟩
theorem IT {W : World} {B g : Nat} (h : W.heap[g]? = some (.cells #[] 3 (0, 0))) (hB : B ≤ g) : W.ownsRow B 3 1 (.slice (some ⟨g, 0, none⟩) 0 0) ([] : List Int).length (([] : List Int).map (Value.int .i64)) :=
 ⟨by simp, .inr ⟨g, 0, #[], rfl, hB, h, Nat.le_refl _, Nat.zero_le _, by simp, by simp⟩⟩
theorem GW (w : World) (n m : Int) (n1 n2 n3 : Nat) (a1 a2 a3 : Option Addr) (c1 c2 c3 : Nat) (St Fi : List Int) (Ed : List Aa) (_en : Hid (St.length = n1 ∧ Fi.length = n2 ∧ Ed.length = n3)) (_hA : Hid (AP w a1 a2 a3 St Fi Ed)) (_h1 : n1 ≤ 4194304) (_h2 : n2 ≤ 4194304) (_h3 : n3 ≤ 4194304) (_hc : n3 ≤ c3) (hn : 4096 < n) :
 Calls prog 50 #[.agg #[.int .i64 n, .int .i64 m, .slice a1 n1 c1, .slice a2 n2 c2, .slice a3 n3 c3]] w (Jd w (I4 8)) := by
 obtain ⟨W0, hW0⟩ : ∃ W0, (w.alloc (.cells #[.int .i64 n, .int .i64 m, .slice a1 n1 c1, .slice a2 n2 c2, .slice a3 n3 c3] 25)).alloc (.cells #[.int .i64 0, .int .i64 0, .slice none 0 0, .slice none 0 0, .slice none 0 0] 25) = W0 := ⟨_, rfl⟩
 have HD := A0 (Br w #[.int .i64 n, .int .i64 m, .slice a1 n1 c1, .slice a2 n2 c2, .slice a3 n3 c3] #[.int .i64 0, .int .i64 0, .slice none 0 0, .slice none 0 0, .slice none 0 0] 25)
 rw [hW0] at HD
 obtain ⟨y0, y1, y2, y3, y4⟩ := An HD.out.2.1 rfl rfl rfl rfl rfl
 have F4 := HD.out.2.2.1
 obtain ⟨o0, o1, o2, o3, o4⟩ := An F4 rfl rfl rfl rfl rfl
 have fz0 : W0.frozen? ⟨w.heap.size + 1, 0, none⟩ = false := A4 F4
 have fz1 : W0.frozen? ⟨w.heap.size + 1, 1, none⟩ = false := A4 F4
 have fz2 : W0.frozen? ⟨w.heap.size + 1, 2, none⟩ = false := A4 F4
 have fz3 : W0.frozen? ⟨w.heap.size + 1, 3, none⟩ = false := A4 F4
 have fz4 : W0.frozen? ⟨w.heap.size + 1, 4, none⟩ = false := A4 F4
 have O6 := A0 (And.intro (AT W0 (w.heap.size + 1) _ _ _ _ _ (.int .i64 0) (.int .i64 0) (.slice none 0 0) (.slice none 0 0) (.slice none 0 0) 25 F4) (AF W0 (w.heap.size + 1) (.int .i64 0) (.int .i64 0) (.slice none 0 0) (.slice none 0 0) (.slice none 0 0)))
 clear F4
 go_enter func50, ntmps50
 go_wp2_with fail
 refine bodyPost_ret (B6 (p := 2) (q := 3) (ty := 25) rfl _ _ (w.heap.size + 1) 25 _ (0, 0) _ _ rfl rfl O6.out.1 underlying25 rfl (by kernel_rfl)) rfl ?_
 have s1 := HD.out.2.2.2
 exact FD rfl (HD.out.1.trans (O6.out.2.toBelow HD.out.1.size (fun k hk => by omega)))
theorem IF (w : World) (n m : Int) (n1 n2 n3 : Nat) (a1 a2 a3 : Option Addr) (c1 c2 c3 : Nat) (St Fi : List Int) (Ed : List Aa) (en : Hid (St.length = n1 ∧ Fi.length = n2 ∧ Ed.length = n3)) (hA : Hid (AP w a1 a2 a3 St Fi Ed)) (h1 : n1 ≤ 4194304) (h2 : n2 ≤ 4194304) (h3 : n3 ≤ 4194304) (hc : n3 ≤ c3) (hn : n ≤ 4096) (hb : 65536 < (A7 Ed).length) :
 Calls prog 50 #[.agg #[.int .i64 n, .int .i64 m, .slice a1 n1 c1, .slice a2 n2 c2, .slice a3 n3 c3]] w (Jd w (I4 8)) := by
 obtain ⟨W0, hW0⟩ : ∃ W0, (w.alloc (.cells #[.int .i64 n, .int .i64 m, .slice a1 n1 c1, .slice a2 n2 c2, .slice a3 n3 c3] 25)).alloc (.cells #[.int .i64 0, .int .i64 0, .slice none 0 0, .slice none 0 0, .slice none 0 0] 25) = W0 := ⟨_, rfl⟩
 have HD := A0 (Br w #[.int .i64 n, .int .i64 m, .slice a1 n1 c1, .slice a2 n2 c2, .slice a3 n3 c3] #[.int .i64 0, .int .i64 0, .slice none 0 0, .slice none 0 0, .slice none 0 0] 25)
 rw [hW0] at HD
 obtain ⟨y0, y1, y2, y3, y4⟩ := An HD.out.2.1 rfl rfl rfl rfl rfl
 have T1 : Hid (∀ W, Below W0.heap.size W0 W → Calls prog 63 #[.slice a1 n1 c1] W fun e w' => ∃ b c, e = .returned (.slice b (A5 St).length c) ∧ Hid (w'.ownsRow W.heap.size 3 1 (.slice b (A5 St).length c) (A5 St).length ((A5 St).map (Value.int .i64))) ∧ Below W.heap.size W w') := A0 (fun W d => by
  have q := Dn W a1 St c1 (A0 ((hA.out.on HD.out.1).on d).s) (by rw [en.out.1]; exact h1)
  rwa [en.out.1] at q)
 have T2 : Hid (∀ W, Below W0.heap.size W0 W → Calls prog 63 #[.slice a2 n2 c2] W fun e w' => ∃ b c, e = .returned (.slice b (A5 Fi).length c) ∧ Hid (w'.ownsRow W.heap.size 3 1 (.slice b (A5 Fi).length c) (A5 Fi).length ((A5 Fi).map (Value.int .i64))) ∧ Below W.heap.size W w') := A0 (fun W d => by
  have q := Dn W a2 Fi c2 (A0 ((hA.out.on HD.out.1).on d).f) (by rw [en.out.2.1]; exact h2)
  rwa [en.out.2.1] at q)
 have T3 : Hid (∀ W, Below W0.heap.size W0 W → Calls prog 68 #[.slice a3 n3 c3] W fun e w' => ∃ b c, e = .returned (.slice b (A7 Ed).length c) ∧ Hid (w'.ownsRow W.heap.size 50 3 (.slice b (A7 Ed).length c) (A7 Ed).length ((A7 Ed).flatMap Ae)) ∧ Below W.heap.size W w') := A0 (fun W d => by
  have q := DN _ W a3 Ed c3 (Nat.le_refl _) (A0 ((hA.out.on HD.out.1).on d).e) (by rw [en.out.2.2]; exact hc) (by rw [en.out.2.2]; exact h3)
  rwa [en.out.2.2] at q)
 generalize A5 St = S1 at *
 generalize A5 Fi = F1 at *
 generalize A7 Ed = E1 at *
 have jn : ¬ (4096 : Int) < n := by omega
 have jb : (65536 : Int) < (E1.length : Int) := by omega
 go_enter func50, ntmps50
 go_upto_region 3 with fail
 clear y0 y1 y2 y3 y4
 go_cut [4] from 9 to 22 (fun v4 W => ∃ p4 x1 k1 x2 k2 x3 k3, v4 = .pointer (some ⟨p4, 0, none⟩) ∧ Hid (W.heap[p4]? = some (.cells #[.int .i64 n, .int .i64 m, .slice x1 S1.length k1, .slice x2 F1.length k2, .slice x3 E1.length k3] 25 (0, 0)) ∧ AE W0.heap.size W (.slice x1 S1.length k1) (.slice x2 F1.length k2) (.slice x3 E1.length k3) S1 F1 E1 ∧ W0.heap.size ≤ p4 ∧ Below W0.heap.size W0 W))
 case first =>
  have hmo : AJ 0 [vI 0 (.pointer (some ⟨w.heap.size, 0, none⟩)), vI 1 (.int .i64 n), vI 2 (.pointer (some ⟨w.heap.size, 1, none⟩)), vI 3 (.int .i64 m), vI 4 (.pointer (some ⟨w.heap.size, 2, none⟩)), vI 5 (.slice a1 n1 c1), pI 6 (DL S1), vI 7 (.pointer (some ⟨w.heap.size, 3, none⟩)), vI 8 (.slice a2 n2 c2), pI 9 (DL F1), vI 10 (.pointer (some ⟨w.heap.size, 4, none⟩)), vI 11 (.slice a3 n3 c3), pI 12 (I2 E1), ⟨[6, 9, 12], [], fun y _ _ _ => y 13 = .agg #[.int .i64 n, .int .i64 m, y 6, y 9, y 12]⟩, pI 14 (KG W0.heap.size)] := ⟨A2 _ _, A2 _ _, A2 _ _, A2 _ _, A2 _ _, A2 _ _, Am Bq, A2 _ _, A2 _ _, Am Bq, A2 _ _, A2 _ _, Am DP, (fun _ _ _ _ _ _ _ _ hy h => by dsimp only at hy h ⊢; rw [hy 13 (Or.inl rfl), hy 6 (Or.inr (by simp)), hy 9 (Or.inr (by simp)), hy 12 (Or.inr (by simp))]; exact h), Am EA, trivial⟩
  refine Aj _ (by kernel_rfl) (by kernel_rfl) (by kernel_rfl) (by kernel_rfl) hmo ⟨?o0, ?o1, ?o2, ?o3, ?o4, ?o5, ?o6, ?o7, ?o8, ?o9, ?o10, ?o11, ?o12, ?o13, ?o14, trivial⟩ ?fin
  case o0 =>
   intro At yy W hy hb d hd K hK
   obtain ⟨s1, s1'⟩ := AG (hb 1 rfl : _ = .pointer (some ⟨w.heap.size, 0, none⟩))
   clear hd hy hb
   go_simp
   exact Ak hK hmo d (if_pos rfl)
  case o1 =>
   intro At yy W hy hb d hd K hK
   obtain ⟨s9, s9'⟩ := Ao 0 9 .data hy hd rfl
   clear hd hy hb
   have bx := A3 HD.out.2.1 d
   obtain ⟨y0, y1, y2, y3, y4⟩ := An bx rfl rfl rfl rfl rfl
   clear bx
   go_simp
   exact Ak hK hmo d (if_pos rfl)
  case o2 =>
   intro At yy W hy hb d hd K hK
   obtain ⟨s1, s1'⟩ := AG (hb 1 rfl : _ = .pointer (some ⟨w.heap.size, 0, none⟩))
   clear hd hy hb
   go_simp
   exact Ak hK hmo d (if_pos rfl)
  case o3 =>
   intro At yy W hy hb d hd K hK
   obtain ⟨s11, s11'⟩ := Ao 2 11 .data hy hd rfl
   clear hd hy hb
   have bx := A3 HD.out.2.1 d
   obtain ⟨y0, y1, y2, y3, y4⟩ := An bx rfl rfl rfl rfl rfl
   clear bx
   go_simp
   exact Ak hK hmo d (if_pos rfl)
  case o4 =>
   intro At yy W hy hb d hd K hK
   obtain ⟨s1, s1'⟩ := AG (hb 1 rfl : _ = .pointer (some ⟨w.heap.size, 0, none⟩))
   clear hd hy hb
   go_simp
   exact Ak hK hmo d (if_pos rfl)
  case o5 =>
   intro At yy W hy hb d hd K hK
   obtain ⟨s13, s13'⟩ := Ao 4 13 .data hy hd rfl
   clear hd hy hb
   have bx := A3 HD.out.2.1 d
   obtain ⟨y0, y1, y2, y3, y4⟩ := An bx rfl rfl rfl rfl rfl
   clear bx
   go_simp
   exact Ak hK hmo d (if_pos rfl)
  case o6 =>
   intro At yy W hy hb d hd K hK
   obtain ⟨s14, s14'⟩ := Ao 5 14 .data hy hd rfl
   clear hd hy hb
   go_simp
   go_wp2_with (go_at_call 63; refine (T1.out _ d).mono ?_; rintro e wa ⟨b, c, rfl, hR, da⟩)
   exact hK.out _ wa (Av hmo d da) (BU (if_pos rfl) hR.out)
  case o7 =>
   intro At yy W hy hb d hd K hK
   obtain ⟨s1, s1'⟩ := AG (hb 1 rfl : _ = .pointer (some ⟨w.heap.size, 0, none⟩))
   clear hd hy hb
   go_simp
   exact Ak hK hmo d (if_pos rfl)
  case o8 =>
   intro At yy W hy hb d hd K hK
   obtain ⟨s16, s16'⟩ := Ao 7 16 .data hy hd rfl
   clear hd hy hb
   have bx := A3 HD.out.2.1 d
   obtain ⟨y0, y1, y2, y3, y4⟩ := An bx rfl rfl rfl rfl rfl
   clear bx
   go_simp
   exact Ak hK hmo d (if_pos rfl)
  case o9 =>
   intro At yy W hy hb d hd K hK
   obtain ⟨s17, s17'⟩ := Ao 8 17 .data hy hd rfl
   clear hd hy hb
   go_simp
   go_wp2_with (go_at_call 63; refine (T2.out _ d).mono ?_; rintro e wa ⟨b, c, rfl, hR, da⟩)
   exact hK.out _ wa (Av hmo d da) (BU (if_pos rfl) hR.out)
  case o10 =>
   intro At yy W hy hb d hd K hK
   obtain ⟨s1, s1'⟩ := AG (hb 1 rfl : _ = .pointer (some ⟨w.heap.size, 0, none⟩))
   clear hd hy hb
   go_simp
   exact Ak hK hmo d (if_pos rfl)
  case o11 =>
   intro At yy W hy hb d hd K hK
   obtain ⟨s19, s19'⟩ := Ao 10 19 .data hy hd rfl
   clear hd hy hb
   have bx := A3 HD.out.2.1 d
   obtain ⟨y0, y1, y2, y3, y4⟩ := An bx rfl rfl rfl rfl rfl
   clear bx
   go_simp
   exact Ak hK hmo d (if_pos rfl)
  case o12 =>
   intro At yy W hy hb d hd K hK
   obtain ⟨s20, s20'⟩ := Ao 11 20 .data hy hd rfl
   clear hd hy hb
   go_simp
   go_wp2_with (go_at_call 68; refine (T3.out _ d).mono ?_; rintro e wa ⟨b, c, rfl, hR, da⟩)
   exact hK.out _ wa (Av hmo d da) (FA (if_pos rfl) hR.out)
  case o13 =>
   intro At yy W hy hb d hd K hK
   have f6 := hd ⟨6, .data⟩ (by simp) rfl rfl
   have f9 := hd ⟨9, .data⟩ (by simp) rfl rfl
   have f12 := hd ⟨12, .data⟩ (by simp) rfl rfl
   obtain ⟨_, _, _, _, o6, _⟩ := f6
   obtain ⟨_, _, _, _, o9, _⟩ := f9
   obtain ⟨_, _, _, _, o12, _⟩ := f12
   obtain ⟨x1, k1, e6⟩ := A8 o6
   obtain ⟨x2, k2, e9⟩ := A8 o9
   obtain ⟨x3, k3, e12⟩ := A8 o12
   obtain ⟨s10, s10'⟩ := Ao 1 10 .data hy hd rfl
   obtain ⟨s12, s12'⟩ := Ao 3 12 .data hy hd rfl
   obtain ⟨s15, s15'⟩ := AG ((hy 6 _ 15 rfl rfl).trans e6)
   obtain ⟨s18, s18'⟩ := AG ((hy 9 _ 18 rfl rfl).trans e9)
   obtain ⟨s21, s21'⟩ := AG ((hy 12 _ 21 rfl rfl).trans e12)
   clear hd hy hb
   go_simp
   exact Ak hK hmo d (by show AK yy 13 _ 13 = .agg #[.int .i64 n, .int .i64 m, AK yy 13 _ 6, AK yy 13 _ 9, AK yy 13 _ 12]; simp [AK, e6, e9, e12])
  case o14 =>
   intro At yy W hy hb d hd K hK
   clear hd hy hb
   go_simp
   exact hK.out _ _ (Av hmo d ((Below.refl _ _).alloc (Nat.le_refl _) _)) ⟨if_pos rfl, d.size, by simp, World.alloc_heap_new _ _⟩
  case fin =>
   intro yy lo hi W hM
   show wpList _ _ _ [_] _ _
   have e0 := hM.v 0 (by simp) rfl rfl rfl
   have e1 := hM.v 1 (by simp) rfl rfl rfl
   have e2 := hM.v 2 (by simp) rfl rfl rfl
   have e3 := hM.v 3 (by simp) rfl rfl rfl
   have e4 := hM.v 4 (by simp) rfl rfl rfl
   have e5 := hM.v 5 (by simp) rfl rfl rfl
   have e7 := hM.v 7 (by simp) rfl rfl rfl
   have e8 := hM.v 8 (by simp) rfl rfl rfl
   have e10 := hM.v 10 (by simp) rfl rfl rfl
   have e11 := hM.v 11 (by simp) rfl rfl rfl
   have e13 : yy 13 = .agg #[.int .i64 n, .int .i64 m, yy 6, yy 9, yy 12] := hM.fact 13 (by simp) rfl (Ad 13 rfl)
   obtain ⟨o6, l6⟩ := hM.fact 6 (by simp) rfl (Ad 6 rfl)
   obtain ⟨o9, l9⟩ := hM.fact 9 (by simp) rfl (Ad 9 rfl)
   obtain ⟨o12, l12⟩ := hM.fact 12 (by simp) rfl (Ad 12 rfl)
   obtain ⟨e14, g14, l14, z14⟩ := hM.fact 14 (by simp) rfl (Ad 14 rfl)
   have t6 := hM.at' 6 (by simp) rfl
   have t9 := hM.at' 9 (by simp) rfl
   have t12 := hM.at' 12 (by simp) rfl
   have ap := hM.apart 6 9 (by simp) (by simp) rfl rfl (by decide)
   have dd := hM.d
   have HOO : AE W0.heap.size W (yy 6) (yy 9) (yy 12) S1 F1 E1 := Fr o6 o9 o12 l6 l9 (by omega) (by omega) (by omega) ap
   obtain ⟨x1, k1, e6⟩ := A8 o6
   obtain ⟨x2, k2, e9⟩ := A8 o9
   obtain ⟨x3, k3, e12⟩ := A8 o12
   rw [e6, e9, e12] at HOO e13
   generalize lo 14 = p4 at e14 g14 l14 z14
   obtain ⟨o0', o1', o2', o3', o4'⟩ := An z14 rfl rfl rfl rfl rfl
   have fz0 : W.frozen? ⟨p4, 0, none⟩ = false := A4 z14
   have fz1 : W.frozen? ⟨p4, 1, none⟩ = false := A4 z14
   have fz2 : W.frozen? ⟨p4, 2, none⟩ = false := A4 z14
   have fz3 : W.frozen? ⟨p4, 3, none⟩ = false := A4 z14
   have fz4 : W.frozen? ⟨p4, 4, none⟩ = false := A4 z14
   have O5 := A0 (And.intro (AT W p4 _ _ _ _ _ (.int .i64 n) (.int .i64 m) (.slice x1 S1.length k1) (.slice x2 F1.length k2) (.slice x3 E1.length k3) 25 z14) (AF W p4 (.int .i64 n) (.int .i64 m) (.slice x1 S1.length k1) (.slice x2 F1.length k2) (.slice x3 E1.length k3)))
   have HF := A0 (And.intro O5.out.1 (And.intro (HOO.keep z14 O5.out.2) (And.intro g14 (dd.trans (O5.out.2.toBelow dd.size (fun k hk => by rw [hk]; exact g14))))))
   simp only [Aw, Act.put, List.take, List.length, List.setIfInBounds_toArray, List.set_cons_zero, List.set_cons_succ, e0, e1, e2, e3, e4, e5, e7, e8, e10, e11, e6, e9, e12, e13, e14]
   clear hM hmo e0 e1 e2 e3 e4 e5 e7 e8 e10 e11 e6 e9 e12 e13 e14 o6 o9 o12 l6 l9 l12 t6 t9 t12 ap HOO z14 l14 g14 dd O5
   go_wp2_with fail
   go_meet
   exact ⟨p4, x1, k1, x2, k2, x3, k3, rfl, HF⟩
 case rest =>
  obtain ⟨p4, x1, k1, x2, k2, x3, k3, rfl, HC⟩ := hcut
  rename World => wz
  clear T1 T2 T3
  have F4 := A3 HD.out.2.2.1 HC.out.2.2.2
  have F5 := HC.out.1
  obtain ⟨r0, r1, r2, r3, r4⟩ := An F5 rfl rfl rfl rfl rfl
  obtain ⟨o0, o1, o2, o3, o4⟩ := An F4 rfl rfl rfl rfl rfl
  have fz0 : wz.frozen? ⟨w.heap.size + 1, 0, none⟩ = false := A4 F4
  have fz1 : wz.frozen? ⟨w.heap.size + 1, 1, none⟩ = false := A4 F4
  have fz2 : wz.frozen? ⟨w.heap.size + 1, 2, none⟩ = false := A4 F4
  have fz3 : wz.frozen? ⟨w.heap.size + 1, 3, none⟩ = false := A4 F4
  have fz4 : wz.frozen? ⟨w.heap.size + 1, 4, none⟩ = false := A4 F4
  have O6 := A0 (And.intro (AT wz (w.heap.size + 1) _ _ _ _ _ (.int .i64 0) (.int .i64 0) (.slice none 0 0) (.slice none 0 0) (.slice none 0 0) 25 F4) (AF wz (w.heap.size + 1) (.int .i64 0) (.int .i64 0) (.slice none 0 0) (.slice none 0 0) (.slice none 0 0)))
  have HO := A0 (HC.out.2.1.keep F4 O6.out.2)
  clear F4 F5
  go_wp2_with fail
  refine bodyPost_ret (B6 (p := 2) (q := 3) (ty := 25) rfl _ _ (w.heap.size + 1) 25 _ (0, 0) _ _ rfl rfl O6.out.1 underlying25 rfl (by kernel_rfl)) rfl ?_
  have s1 := HD.out.2.2.2
  have s2 := HC.out.2.2.2.size
  have d1 := HD.out.1.trans (HC.out.2.2.2.mono HD.out.1.size)
  exact FD rfl (d1.trans (O6.out.2.toBelow d1.size (fun k hk => by omega)))
theorem Kj (w : World) (n m : Int) (n1 n2 n3 : Nat) (a1 a2 a3 : Option Addr) (c1 c2 c3 : Nat) (St Fi : List Int) (Ed : List Aa) (en : Hid (St.length = n1 ∧ Fi.length = n2 ∧ Ed.length = n3)) (hA : Hid (AP w a1 a2 a3 St Fi Ed)) (h1 : n1 ≤ 4194304) (h2 : n2 ≤ 4194304) (h3 : n3 ≤ 4194304) (hc : n3 ≤ c3) (hn : n ≤ 4096) (hb : (A7 Ed).length ≤ 65536) :
 Calls prog 50 #[.agg #[.int .i64 n, .int .i64 m, .slice a1 n1 c1, .slice a2 n2 c2, .slice a3 n3 c3]] w (Jd w ⟨n, m, A5 St, A5 Fi, A7 Ed, 0⟩) := by
 obtain ⟨W0, hW0⟩ : ∃ W0, (w.alloc (.cells #[.int .i64 n, .int .i64 m, .slice a1 n1 c1, .slice a2 n2 c2, .slice a3 n3 c3] 25)).alloc (.cells #[.int .i64 0, .int .i64 0, .slice none 0 0, .slice none 0 0, .slice none 0 0] 25) = W0 := ⟨_, rfl⟩
 have HD := A0 (Br w #[.int .i64 n, .int .i64 m, .slice a1 n1 c1, .slice a2 n2 c2, .slice a3 n3 c3] #[.int .i64 0, .int .i64 0, .slice none 0 0, .slice none 0 0, .slice none 0 0] 25)
 rw [hW0] at HD
 obtain ⟨y0, y1, y2, y3, y4⟩ := An HD.out.2.1 rfl rfl rfl rfl rfl
 have T1 : Hid (∀ W, Below W0.heap.size W0 W → Calls prog 63 #[.slice a1 n1 c1] W fun e w' => ∃ b c, e = .returned (.slice b (A5 St).length c) ∧ Hid (w'.ownsRow W.heap.size 3 1 (.slice b (A5 St).length c) (A5 St).length ((A5 St).map (Value.int .i64))) ∧ Below W.heap.size W w') := A0 (fun W d => by
  have q := Dn W a1 St c1 (A0 ((hA.out.on HD.out.1).on d).s) (by rw [en.out.1]; exact h1)
  rwa [en.out.1] at q)
 have T2 : Hid (∀ W, Below W0.heap.size W0 W → Calls prog 63 #[.slice a2 n2 c2] W fun e w' => ∃ b c, e = .returned (.slice b (A5 Fi).length c) ∧ Hid (w'.ownsRow W.heap.size 3 1 (.slice b (A5 Fi).length c) (A5 Fi).length ((A5 Fi).map (Value.int .i64))) ∧ Below W.heap.size W w') := A0 (fun W d => by
  have q := Dn W a2 Fi c2 (A0 ((hA.out.on HD.out.1).on d).f) (by rw [en.out.2.1]; exact h2)
  rwa [en.out.2.1] at q)
 have T3 : Hid (∀ W, Below W0.heap.size W0 W → Calls prog 68 #[.slice a3 n3 c3] W fun e w' => ∃ b c, e = .returned (.slice b (A7 Ed).length c) ∧ Hid (w'.ownsRow W.heap.size 50 3 (.slice b (A7 Ed).length c) (A7 Ed).length ((A7 Ed).flatMap Ae)) ∧ Below W.heap.size W w') := A0 (fun W d => by
  have q := DN _ W a3 Ed c3 (Nat.le_refl _) (A0 ((hA.out.on HD.out.1).on d).e) (by rw [en.out.2.2]; exact hc) (by rw [en.out.2.2]; exact h3)
  rwa [en.out.2.2] at q)
 generalize A5 St = S1 at *
 generalize A5 Fi = F1 at *
 generalize A7 Ed = E1 at *
 have jn : ¬ (4096 : Int) < n := by omega
 have jb : ¬ (65536 : Int) < (E1.length : Int) := by omega
 go_enter func50, ntmps50
 go_upto_region 3 with fail
 clear y0 y1 y2 y3 y4
 go_cut [4] from 9 to 22 (fun v4 W => ∃ p4 x1 k1 x2 k2 x3 k3, v4 = .pointer (some ⟨p4, 0, none⟩) ∧ Hid (W.heap[p4]? = some (.cells #[.int .i64 n, .int .i64 m, .slice x1 S1.length k1, .slice x2 F1.length k2, .slice x3 E1.length k3] 25 (0, 0)) ∧ AE W0.heap.size W (.slice x1 S1.length k1) (.slice x2 F1.length k2) (.slice x3 E1.length k3) S1 F1 E1 ∧ W0.heap.size ≤ p4 ∧ Below W0.heap.size W0 W))
 case first =>
  have hmo : AJ 0 [vI 0 (.pointer (some ⟨w.heap.size, 0, none⟩)), vI 1 (.int .i64 n), vI 2 (.pointer (some ⟨w.heap.size, 1, none⟩)), vI 3 (.int .i64 m), vI 4 (.pointer (some ⟨w.heap.size, 2, none⟩)), vI 5 (.slice a1 n1 c1), pI 6 (DL S1), vI 7 (.pointer (some ⟨w.heap.size, 3, none⟩)), vI 8 (.slice a2 n2 c2), pI 9 (DL F1), vI 10 (.pointer (some ⟨w.heap.size, 4, none⟩)), vI 11 (.slice a3 n3 c3), pI 12 (I2 E1), ⟨[6, 9, 12], [], fun y _ _ _ => y 13 = .agg #[.int .i64 n, .int .i64 m, y 6, y 9, y 12]⟩, pI 14 (KG W0.heap.size)] := ⟨A2 _ _, A2 _ _, A2 _ _, A2 _ _, A2 _ _, A2 _ _, Am Bq, A2 _ _, A2 _ _, Am Bq, A2 _ _, A2 _ _, Am DP, (fun _ _ _ _ _ _ _ _ hy h => by dsimp only at hy h ⊢; rw [hy 13 (Or.inl rfl), hy 6 (Or.inr (by simp)), hy 9 (Or.inr (by simp)), hy 12 (Or.inr (by simp))]; exact h), Am EA, trivial⟩
  refine Aj _ (by kernel_rfl) (by kernel_rfl) (by kernel_rfl) (by kernel_rfl) hmo ⟨?o0, ?o1, ?o2, ?o3, ?o4, ?o5, ?o6, ?o7, ?o8, ?o9, ?o10, ?o11, ?o12, ?o13, ?o14, trivial⟩ ?fin
  case o0 =>
   intro At yy W hy hb d hd K hK
   obtain ⟨s1, s1'⟩ := AG (hb 1 rfl : _ = .pointer (some ⟨w.heap.size, 0, none⟩))
   clear hd hy hb
   go_simp
   exact Ak hK hmo d (if_pos rfl)
  case o1 =>
   intro At yy W hy hb d hd K hK
   obtain ⟨s9, s9'⟩ := Ao 0 9 .data hy hd rfl
   clear hd hy hb
   have bx := A3 HD.out.2.1 d
   obtain ⟨y0, y1, y2, y3, y4⟩ := An bx rfl rfl rfl rfl rfl
   clear bx
   go_simp
   exact Ak hK hmo d (if_pos rfl)
  case o2 =>
   intro At yy W hy hb d hd K hK
   obtain ⟨s1, s1'⟩ := AG (hb 1 rfl : _ = .pointer (some ⟨w.heap.size, 0, none⟩))
   clear hd hy hb
   go_simp
   exact Ak hK hmo d (if_pos rfl)
  case o3 =>
   intro At yy W hy hb d hd K hK
   obtain ⟨s11, s11'⟩ := Ao 2 11 .data hy hd rfl
   clear hd hy hb
   have bx := A3 HD.out.2.1 d
   obtain ⟨y0, y1, y2, y3, y4⟩ := An bx rfl rfl rfl rfl rfl
   clear bx
   go_simp
   exact Ak hK hmo d (if_pos rfl)
  case o4 =>
   intro At yy W hy hb d hd K hK
   obtain ⟨s1, s1'⟩ := AG (hb 1 rfl : _ = .pointer (some ⟨w.heap.size, 0, none⟩))
   clear hd hy hb
   go_simp
   exact Ak hK hmo d (if_pos rfl)
  case o5 =>
   intro At yy W hy hb d hd K hK
   obtain ⟨s13, s13'⟩ := Ao 4 13 .data hy hd rfl
   clear hd hy hb
   have bx := A3 HD.out.2.1 d
   obtain ⟨y0, y1, y2, y3, y4⟩ := An bx rfl rfl rfl rfl rfl
   clear bx
   go_simp
   exact Ak hK hmo d (if_pos rfl)
  case o6 =>
   intro At yy W hy hb d hd K hK
   obtain ⟨s14, s14'⟩ := Ao 5 14 .data hy hd rfl
   clear hd hy hb
   go_simp
   go_wp2_with (go_at_call 63; refine (T1.out _ d).mono ?_; rintro e wa ⟨b, c, rfl, hR, da⟩)
   exact hK.out _ wa (Av hmo d da) (BU (if_pos rfl) hR.out)
  case o7 =>
   intro At yy W hy hb d hd K hK
   obtain ⟨s1, s1'⟩ := AG (hb 1 rfl : _ = .pointer (some ⟨w.heap.size, 0, none⟩))
   clear hd hy hb
   go_simp
   exact Ak hK hmo d (if_pos rfl)
  case o8 =>
   intro At yy W hy hb d hd K hK
   obtain ⟨s16, s16'⟩ := Ao 7 16 .data hy hd rfl
   clear hd hy hb
   have bx := A3 HD.out.2.1 d
   obtain ⟨y0, y1, y2, y3, y4⟩ := An bx rfl rfl rfl rfl rfl
   clear bx
   go_simp
   exact Ak hK hmo d (if_pos rfl)
  case o9 =>
   intro At yy W hy hb d hd K hK
   obtain ⟨s17, s17'⟩ := Ao 8 17 .data hy hd rfl
   clear hd hy hb
   go_simp
   go_wp2_with (go_at_call 63; refine (T2.out _ d).mono ?_; rintro e wa ⟨b, c, rfl, hR, da⟩)
   exact hK.out _ wa (Av hmo d da) (BU (if_pos rfl) hR.out)
  case o10 =>
   intro At yy W hy hb d hd K hK
   obtain ⟨s1, s1'⟩ := AG (hb 1 rfl : _ = .pointer (some ⟨w.heap.size, 0, none⟩))
   clear hd hy hb
   go_simp
   exact Ak hK hmo d (if_pos rfl)
  case o11 =>
   intro At yy W hy hb d hd K hK
   obtain ⟨s19, s19'⟩ := Ao 10 19 .data hy hd rfl
   clear hd hy hb
   have bx := A3 HD.out.2.1 d
   obtain ⟨y0, y1, y2, y3, y4⟩ := An bx rfl rfl rfl rfl rfl
   clear bx
   go_simp
   exact Ak hK hmo d (if_pos rfl)
  case o12 =>
   intro At yy W hy hb d hd K hK
   obtain ⟨s20, s20'⟩ := Ao 11 20 .data hy hd rfl
   clear hd hy hb
   go_simp
   go_wp2_with (go_at_call 68; refine (T3.out _ d).mono ?_; rintro e wa ⟨b, c, rfl, hR, da⟩)
   exact hK.out _ wa (Av hmo d da) (FA (if_pos rfl) hR.out)
  case o13 =>
   intro At yy W hy hb d hd K hK
   have f6 := hd ⟨6, .data⟩ (by simp) rfl rfl
   have f9 := hd ⟨9, .data⟩ (by simp) rfl rfl
   have f12 := hd ⟨12, .data⟩ (by simp) rfl rfl
   obtain ⟨_, _, _, _, o6, _⟩ := f6
   obtain ⟨_, _, _, _, o9, _⟩ := f9
   obtain ⟨_, _, _, _, o12, _⟩ := f12
   obtain ⟨x1, k1, e6⟩ := A8 o6
   obtain ⟨x2, k2, e9⟩ := A8 o9
   obtain ⟨x3, k3, e12⟩ := A8 o12
   obtain ⟨s10, s10'⟩ := Ao 1 10 .data hy hd rfl
   obtain ⟨s12, s12'⟩ := Ao 3 12 .data hy hd rfl
   obtain ⟨s15, s15'⟩ := AG ((hy 6 _ 15 rfl rfl).trans e6)
   obtain ⟨s18, s18'⟩ := AG ((hy 9 _ 18 rfl rfl).trans e9)
   obtain ⟨s21, s21'⟩ := AG ((hy 12 _ 21 rfl rfl).trans e12)
   clear hd hy hb
   go_simp
   exact Ak hK hmo d (by show AK yy 13 _ 13 = .agg #[.int .i64 n, .int .i64 m, AK yy 13 _ 6, AK yy 13 _ 9, AK yy 13 _ 12]; simp [AK, e6, e9, e12])
  case o14 =>
   intro At yy W hy hb d hd K hK
   clear hd hy hb
   go_simp
   exact hK.out _ _ (Av hmo d ((Below.refl _ _).alloc (Nat.le_refl _) _)) ⟨if_pos rfl, d.size, by simp, World.alloc_heap_new _ _⟩
  case fin =>
   intro yy lo hi W hM
   show wpList _ _ _ [_] _ _
   have e0 := hM.v 0 (by simp) rfl rfl rfl
   have e1 := hM.v 1 (by simp) rfl rfl rfl
   have e2 := hM.v 2 (by simp) rfl rfl rfl
   have e3 := hM.v 3 (by simp) rfl rfl rfl
   have e4 := hM.v 4 (by simp) rfl rfl rfl
   have e5 := hM.v 5 (by simp) rfl rfl rfl
   have e7 := hM.v 7 (by simp) rfl rfl rfl
   have e8 := hM.v 8 (by simp) rfl rfl rfl
   have e10 := hM.v 10 (by simp) rfl rfl rfl
   have e11 := hM.v 11 (by simp) rfl rfl rfl
   have e13 : yy 13 = .agg #[.int .i64 n, .int .i64 m, yy 6, yy 9, yy 12] := hM.fact 13 (by simp) rfl (Ad 13 rfl)
   obtain ⟨o6, l6⟩ := hM.fact 6 (by simp) rfl (Ad 6 rfl)
   obtain ⟨o9, l9⟩ := hM.fact 9 (by simp) rfl (Ad 9 rfl)
   obtain ⟨o12, l12⟩ := hM.fact 12 (by simp) rfl (Ad 12 rfl)
   obtain ⟨e14, g14, l14, z14⟩ := hM.fact 14 (by simp) rfl (Ad 14 rfl)
   have t6 := hM.at' 6 (by simp) rfl
   have t9 := hM.at' 9 (by simp) rfl
   have t12 := hM.at' 12 (by simp) rfl
   have ap := hM.apart 6 9 (by simp) (by simp) rfl rfl (by decide)
   have dd := hM.d
   have HOO : AE W0.heap.size W (yy 6) (yy 9) (yy 12) S1 F1 E1 := Fr o6 o9 o12 l6 l9 (by omega) (by omega) (by omega) ap
   obtain ⟨x1, k1, e6⟩ := A8 o6
   obtain ⟨x2, k2, e9⟩ := A8 o9
   obtain ⟨x3, k3, e12⟩ := A8 o12
   rw [e6, e9, e12] at HOO e13
   generalize lo 14 = p4 at e14 g14 l14 z14
   obtain ⟨o0', o1', o2', o3', o4'⟩ := An z14 rfl rfl rfl rfl rfl
   have fz0 : W.frozen? ⟨p4, 0, none⟩ = false := A4 z14
   have fz1 : W.frozen? ⟨p4, 1, none⟩ = false := A4 z14
   have fz2 : W.frozen? ⟨p4, 2, none⟩ = false := A4 z14
   have fz3 : W.frozen? ⟨p4, 3, none⟩ = false := A4 z14
   have fz4 : W.frozen? ⟨p4, 4, none⟩ = false := A4 z14
   have O5 := A0 (And.intro (AT W p4 _ _ _ _ _ (.int .i64 n) (.int .i64 m) (.slice x1 S1.length k1) (.slice x2 F1.length k2) (.slice x3 E1.length k3) 25 z14) (AF W p4 (.int .i64 n) (.int .i64 m) (.slice x1 S1.length k1) (.slice x2 F1.length k2) (.slice x3 E1.length k3)))
   have HF := A0 (And.intro O5.out.1 (And.intro (HOO.keep z14 O5.out.2) (And.intro g14 (dd.trans (O5.out.2.toBelow dd.size (fun k hk => by rw [hk]; exact g14))))))
   simp only [Aw, Act.put, List.take, List.length, List.setIfInBounds_toArray, List.set_cons_zero, List.set_cons_succ, e0, e1, e2, e3, e4, e5, e7, e8, e10, e11, e6, e9, e12, e13, e14]
   clear hM hmo e0 e1 e2 e3 e4 e5 e7 e8 e10 e11 e6 e9 e12 e13 e14 o6 o9 o12 l6 l9 l12 t6 t9 t12 ap HOO z14 l14 g14 dd O5
   go_wp2_with fail
   go_meet
   exact ⟨p4, x1, k1, x2, k2, x3, k3, rfl, HF⟩
 case rest =>
  obtain ⟨p4, x1, k1, x2, k2, x3, k3, rfl, HC⟩ := hcut
  rename World => wz
  clear T1 T2 T3
  have F4 := A3 HD.out.2.2.1 HC.out.2.2.2
  have F5 := HC.out.1
  obtain ⟨r0, r1, r2, r3, r4⟩ := An F5 rfl rfl rfl rfl rfl
  obtain ⟨o0, o1, o2, o3, o4⟩ := An F4 rfl rfl rfl rfl rfl
  have fz0 : wz.frozen? ⟨w.heap.size + 1, 0, none⟩ = false := A4 F4
  have fz1 : wz.frozen? ⟨w.heap.size + 1, 1, none⟩ = false := A4 F4
  have fz2 : wz.frozen? ⟨w.heap.size + 1, 2, none⟩ = false := A4 F4
  have fz3 : wz.frozen? ⟨w.heap.size + 1, 3, none⟩ = false := A4 F4
  have fz4 : wz.frozen? ⟨w.heap.size + 1, 4, none⟩ = false := A4 F4
  have O6 := A0 (And.intro (AT wz (w.heap.size + 1) _ _ _ _ _ (.int .i64 n) (.int .i64 m) (.slice x1 S1.length k1) (.slice x2 F1.length k2) (.slice x3 E1.length k3) 25 F4) (AF wz (w.heap.size + 1) (.int .i64 n) (.int .i64 m) (.slice x1 S1.length k1) (.slice x2 F1.length k2) (.slice x3 E1.length k3)))
  have HO := A0 (HC.out.2.1.keep F4 O6.out.2)
  clear F4 F5
  go_wp2_with fail
  refine bodyPost_ret (B6 (p := 2) (q := 3) (ty := 25) rfl _ _ (w.heap.size + 1) 25 _ (0, 0) _ _ rfl rfl O6.out.1 underlying25 rfl (by kernel_rfl)) rfl ?_
  have s1 := HD.out.2.2.2
  have s2 := HC.out.2.2.2.size
  have d1 := HD.out.1.trans (HC.out.2.2.2.mono HD.out.1.size)
  exact ⟨x1, k1, x2, k2, x3, k3, rfl, A0 (HO.out.down HD.out.1.size), d1.trans (O6.out.2.toBelow d1.size (fun k hk => by omega))⟩
def MD (n m : Int) (St Fi : List Int) (Ed : List Aa) : OU := if 4096 < n then I4 8 else if 65536 < (A7 Ed).length then I4 8 else ⟨n, m, A5 St, A5 Fi, A7 Ed, 0⟩
theorem Ka (w : World) (n m : Int) (n1 n2 n3 : Nat) (a1 a2 a3 : Option Addr) (c1 c2 c3 : Nat) (St Fi : List Int) (Ed : List Aa) (en : Hid (St.length = n1 ∧ Fi.length = n2 ∧ Ed.length = n3)) (hA : Hid (AP w a1 a2 a3 St Fi Ed)) (h1 : n1 ≤ 4194304) (h2 : n2 ≤ 4194304) (h3 : n3 ≤ 4194304) (hc : n3 ≤ c3) : Calls prog 50 #[.agg #[.int .i64 n, .int .i64 m, .slice a1 n1 c1, .slice a2 n2 c2, .slice a3 n3 c3]] w (Jd w (MD n m St Fi Ed)) := by
 unfold MD
 by_cases hn : 4096 < n
 · rw [if_pos hn]; exact GW w n m n1 n2 n3 a1 a2 a3 c1 c2 c3 St Fi Ed en hA h1 h2 h3 hc hn
 · rw [if_neg hn]
   by_cases hb : 65536 < (A7 Ed).length
   · rw [if_pos hb]; exact IF w n m n1 n2 n3 a1 a2 a3 c1 c2 c3 St Fi Ed en hA h1 h2 h3 hc (by omega) hb
   · rw [if_neg hb]; exact Kj w n m n1 n2 n3 a1 a2 a3 c1 c2 c3 St Fi Ed en hA h1 h2 h3 hc (by omega) (by omega)
def No (t : TypeId) : Ef := fun v lo hi W => ∃ g, v = .slice (some ⟨g, 0, none⟩) 0 0 ∧ lo ≤ g ∧ g < hi ∧ W.heap[g]? = some (.cells #[] t (0, 0))
theorem Ez {t : TypeId} : B8 (No t) := fun _ _ _ _ _ hs d ⟨g, e, l, u, z⟩ => ⟨g, e, l, u, (d.block _ (by omega)).trans z⟩
def KO (t : TypeId) (cs : Array Value) : Ef := fun v lo hi W => ∃ g, v = .slice (some ⟨g, 0, none⟩) 1 1 ∧ lo ≤ g ∧ g < hi ∧ W.heap[g]? = some (.cells cs t (0, 0))
theorem EI {t : TypeId} {cs : Array Value} : B8 (KO t cs) := fun _ _ _ _ _ hs d ⟨g, e, l, u, z⟩ => ⟨g, e, l, u, (d.block _ (by omega)).trans z⟩
theorem EO {t t' : TypeId} {cs : Array Value} (hc : cs ≠ #[]) {v : Value} {lo hi g0 : Nat} {W W' : World} (h : KO t cs v lo hi W) (z : W.heap[g0]? = some (.cells #[] t' (0, 0))) (o : Ab W W' (fun k => (Value.slice (some ⟨g0, 0, none⟩) 0 0).ownBlock = some k)) : KO t cs v lo hi W' := by
 obtain ⟨g, e, l, u, q⟩ := h
 refine ⟨g, e, l, u, o.cellK q fun hk => hc ?_⟩
 simp only [Value.ownBlock, Option.some.injEq] at hk
 subst hk
 rw [z] at q
 injection q with q
 injection q with q
 exact q.symm
theorem FV {W W' : World} {B n sz g0 : Nat} {e t' : TypeId} {v : Value} {xs : List Value} (h : W.ownsRow B e sz v n xs) (hn : 0 < n * sz) (z : W.heap[g0]? = some (.cells #[] t' (0, 0))) (o : Ab W W' (fun k => (Value.slice (some ⟨g0, 0, none⟩) 0 0).ownBlock = some k)) : W'.ownsRow B e sz v n xs := A9 h o fun k hk hk' => by
 simp only [Value.ownBlock, Option.some.injEq] at hk'
 subst hk'
 rcases h.2 with ⟨rfl, rfl⟩ | ⟨g, cap, cur, rfl, _, hg, hc, _, hs, _⟩
 · cases hk
 · simp only [Value.ownBlock, Option.some.injEq] at hk
   subst hk
   rw [z] at hg
   injection hg with hg
   injection hg with hg
   subst hg
   have : n * sz ≤ cap * sz := Nat.mul_le_mul_right _ hc
   simp at hs
   rw [← hs] at this
   omega
theorem Lf {w : World} (ty : TypeId) (B : Nat) (v : Value) (X : List Int) (hown : w.ownsRow B 3 1 v X.length (X.map (Value.int .i64))) (ao : Option Addr) (n c : Nat) (Y : List Int) (hn : Y.length = n) (hz : ao = none → c = 0) (hr : BB w ao Y) (hl : X.length + Y.length ≤ 4194304) (hB : B ≤ w.heap.size) :
 ∃ z5 d5 w', (Builtin.append_ #[22, 22] ty #[v, .slice ao n c]).run prog w = .ok (.slice z5 (X ++ Y).length d5) w' ∧ w'.ownsRow B 3 1 (.slice z5 (X ++ Y).length d5) (X ++ Y).length ((X ++ Y).map (Value.int .i64)) ∧ w.grownBy w' v.ownBlock := by
 obtain ⟨i5, hi5, hz50, hz51, hz52⟩ := AA Et
 subst hn
 cases ao with
 | none =>
  obtain rfl : Y = [] := by
   cases Y with
   | nil => rfl
   | cons y Y => obtain ⟨g, o, e, _⟩ := hr 0 (by simp); cases e
  obtain rfl := hz rfl
  obtain ⟨z5, d5, rfl⟩ := A8 hown
  refine ⟨z5, d5, w, ?_, ?_, rfl, rfl, rfl, Nat.le_refl _, fun _ _ _ => rfl⟩
  · have q := run_append_owned_none (P := prog) (w := w) B 22 ty 3 i5 1 underlying22 hi5 _ _ _ hown
    simpa using q
  · simpa using hown
 | some ad =>
  obtain ⟨v', w', hrun, h2, hg, _, _⟩ := run_append_own_at (P := prog) w B 22 ty 3 i5 _ 1 8 underlying22 hi5 hz50 hz51 hz52 rfl (by omega) v X.length (X.map (Value.int .i64)) hown ad Y.length c (Y.map (Value.int .i64)) (by simp) (Nw hr) (M8 Y) (by unfold maxLen; omega) (by omega) hB
  have h3 : w'.ownsRow B 3 1 v' (X ++ Y).length ((X ++ Y).map (Value.int .i64)) := by
   rw [List.map_append, List.length_append]
   exact h2
  obtain ⟨z5, d5, rfl⟩ := A8 h3
  exact ⟨z5, d5, w', hrun, h3, hg⟩
theorem Du {ops : Array Oper} {o : Oper} {a : Act} {K : Act → World → Prop} {Q : Exit → Act → World → Prop} {E : Prop} {w : World} (hgd : o.guard = none) (s x : Operand)
 (ho : o.op = .call { callee := .builtin .append, args := #[s, x], argTypes := #[22, 22] }) (B : Nat) (v : Value) (X : List Int) (hs : a.eval s = v) (hown : w.ownsRow B 3 1 v X.length (X.map (Value.int .i64))) (ao : Option Addr) (n c : Nat) (Y : List Int) (hn : Y.length = n) (hz : ao = none → c = 0) (hx : a.eval x = .slice ao n c) (hr : BB w ao Y) (hl : X.length + Y.length ≤ 4194304) (hB : B ≤ w.heap.size)
 (h : ∀ z5 d5 w', Hid (w'.ownsRow B 3 1 (.slice z5 (X ++ Y).length d5) (X ++ Y).length ((X ++ Y).map (Value.int .i64))) → Hid (Ab w w' (fun k => v.ownBlock = some k)) → K (a.put o.dst (.slice z5 (X ++ Y).length d5)) w') :
 if Region.wanted o (yielded ops a.tmps) = true then Oper.wp prog o a w K Q else E := by
 have hw : Region.wanted o (yielded ops a.tmps) = true := by simp [Region.wanted, hgd]
 rw [if_pos hw]
 obtain ⟨z5, d5, w', hrun, h2, hg⟩ := Lf o.type B v X hown ao n c Y hn hz hr hl hB
 unfold Oper.wp
 simp [execOp, ho, resolve, invoke, builtin, hs, hx, hrun, Result.andThen]
 have q := h z5 d5 w' (A0 h2) (A0 (AL hg))
 simp only [List.length_append] at q
 exact q
structure Lt (B : Nat) (w : World) (g c : Nat) (L : List Int) : Prop where
 le : L.length + 1 ≤ c
 rw : w.ownsRow B 3 1 (.slice (some ⟨g, 0, none⟩) (L.length + 1) c) (L.length + 1) ((L ++ [-77]).map (Value.int .i64))
structure Fo (B : Nat) (w : World) (g c : Nat) (L : List Aa) : Prop where
 le : L.length + 1 ≤ c
 rw : w.ownsRow B 50 3 (.slice (some ⟨g, 0, none⟩) (L.length + 1) c) (L.length + 1) ((L ++ [(-77, 0, 0)]).flatMap Ae)
theorem Lt.rd {B : Nat} {w : World} {g c : Nat} {L : List Int} (h : Lt B w g c L) : BB w (some ⟨g, 0, none⟩) L := JN h.rw (List.prefix_append _ _)
theorem Fo.rd {B : Nat} {w : World} {g c : Nat} {L : List Aa} (h : Fo B w g c L) : Cl w (some ⟨g, 0, none⟩) L := fun j hj => by
 have hl : (L ++ [((-77 : Int), (0 : Int), (0 : Int))]).length = L.length + 1 := by simp
 have hr := h.rw
 rw [← hl] at hr
 have q := EG hr j (by rw [hl]; omega)
 have e : (L ++ [((-77 : Int), (0 : Int), (0 : Int))])[j]'(by rw [hl]; omega) = L[j] := List.getElem_append_left hj
 rw [e] at q
 exact ⟨g, 0, rfl, by simpa using q⟩
theorem Lt.lt {B : Nat} {w : World} {g c : Nat} {L : List Int} (h : Lt B w g c L) : B ≤ g ∧ g < w.heap.size := Cs h.rw
theorem Fo.lt {B : Nat} {w : World} {g c : Nat} {L : List Aa} (h : Fo B w g c L) : B ≤ g ∧ g < w.heap.size := Cs h.rw
theorem Lt.on {B C : Nat} {w w' : World} {g c : Nat} {L : List Int} (h : Lt B w g c L) (d : Below C w w') (hg : g < C) : Lt B w' g c L := ⟨h.le, FB h.rw d hg⟩
theorem Fo.on {B C : Nat} {w w' : World} {g c : Nat} {L : List Aa} (h : Fo B w g c L) (d : Below C w w') (hg : g < C) : Fo B w' g c L := ⟨h.le, FB h.rw d hg⟩
theorem Lt.keep {B p : Nat} {w w' : World} {g c : Nat} {L : List Int} {cs : Array Value} (h : Lt B w g c L) (z : w.heap[p]? = some (.cells cs 25 (0, 0))) (o : Ab w w' (fun k => k = p)) : Lt B w' g c L := ⟨h.le, Ap h.rw z (by decide) o⟩
theorem Fo.keep {B p : Nat} {w w' : World} {g c : Nat} {L : List Aa} {cs : Array Value} (h : Fo B w g c L) (z : w.heap[p]? = some (.cells cs 25 (0, 0))) (o : Ab w w' (fun k => k = p)) : Fo B w' g c L := ⟨h.le, Ap h.rw z (by decide) o⟩
theorem Lt.down {B C : Nat} {w : World} {g c : Nat} {L : List Int} (h : Lt B w g c L) (hC : C ≤ B) : Lt C w g c L := ⟨h.le, Ac h.rw hC⟩
theorem Fo.down {B C : Nat} {w : World} {g c : Nat} {L : List Aa} (h : Fo B w g c L) (hC : C ≤ B) : Fo C w g c L := ⟨h.le, Ac h.rw hC⟩
structure Dd (B : Nat) (w : World) (g1 k1 g2 k2 g3 k3 : Nat) (St Fi : List Int) (Ed : List Aa) : Prop where
 s : Lt B w g1 k1 St
 f : Lt B w g2 k2 Fi
 e : Fo B w g3 k3 Ed
 n12 : g1 ≠ g2
 n13 : g1 ≠ g3
 n23 : g2 ≠ g3
theorem Dd.rd {B : Nat} {w : World} {g1 k1 g2 k2 g3 k3 : Nat} {St Fi : List Int} {Ed : List Aa} (h : Dd B w g1 k1 g2 k2 g3 k3 St Fi Ed) : AP w (some ⟨g1, 0, none⟩) (some ⟨g2, 0, none⟩) (some ⟨g3, 0, none⟩) St Fi Ed := ⟨h.s.rd, h.f.rd, h.e.rd⟩
theorem Dd.on {B : Nat} {w w' : World} {g1 k1 g2 k2 g3 k3 : Nat} {St Fi : List Int} {Ed : List Aa} (h : Dd B w g1 k1 g2 k2 g3 k3 St Fi Ed) (d : Below w.heap.size w w') : Dd B w' g1 k1 g2 k2 g3 k3 St Fi Ed := ⟨h.s.on d h.s.lt.2, h.f.on d h.f.lt.2, h.e.on d h.e.lt.2, h.n12, h.n13, h.n23⟩
theorem Dd.down {B C : Nat} {w : World} {g1 k1 g2 k2 g3 k3 : Nat} {St Fi : List Int} {Ed : List Aa} (h : Dd B w g1 k1 g2 k2 g3 k3 St Fi Ed) (hC : C ≤ B) : Dd C w g1 k1 g2 k2 g3 k3 St Fi Ed := ⟨h.s.down hC, h.f.down hC, h.e.down hC, h.n12, h.n13, h.n23⟩
theorem Dd.keep {B p : Nat} {w w' : World} {g1 k1 g2 k2 g3 k3 : Nat} {St Fi : List Int} {Ed : List Aa} {cs : Array Value} (h : Dd B w g1 k1 g2 k2 g3 k3 St Fi Ed) (z : w.heap[p]? = some (.cells cs 25 (0, 0))) (o : Ab w w' (fun k => k = p)) : Dd B w' g1 k1 g2 k2 g3 k3 St Fi Ed := ⟨h.s.keep z o, h.f.keep z o, h.e.keep z o, h.n12, h.n13, h.n23⟩
def OE (B : Nat) (W : World) (g2 k2 : Nat) (St : List Int) : Prop := Lt B W g2 k2 St
def OF (B : Nat) (W : World) (g2 k2 g3 k3 : Nat) (St Fi : List Int) : Prop := Lt B W g2 k2 St ∧ Lt B W g3 k3 Fi ∧ g2 ≠ g3
def Oi (B : Nat) (W : World) (g2 k2 g3 k3 g4 k4 : Nat) (St Fi : List Int) (Ed : List Aa) : Prop := Dd B W g2 k2 g3 k3 g4 k4 St Fi Ed
theorem Kf {W : World} {B g : Nat} (h : W.heap[g]? = some (.cells #[] 50 (0, 0))) (hB : B ≤ g) : W.ownsRow B 50 3 (.slice (some ⟨g, 0, none⟩) 0 0) ([] : List Aa).length (([] : List Aa).flatMap Ae) :=
 ⟨by simp, .inr ⟨g, 0, #[], rfl, hB, h, Nat.le_refl _, Nat.zero_le _, by simp, by simp⟩⟩
theorem Jn {W : World} {g : Nat} {x : Int} (h : W.heap[g]? = some (.cells #[.int .i64 x] 3 (0, 0))) : BB W (some ⟨g, 0, none⟩) [x] := fun j hj => by
 obtain rfl : j = 0 := by simpa using hj
 exact ⟨g, 0, rfl, A1 h rfl⟩
theorem N3 {W : World} {g : Nat} {x : Aa} (h : W.heap[g]? = some (.cells #[.int .i64 x.1, .int .i64 x.2.1, .int .i64 x.2.2] 50 (0, 0))) : Cl W (some ⟨g, 0, none⟩) [x] := fun j hj => by
 obtain rfl : j = 0 := by simpa using hj
 exact ⟨g, 0, rfl, A1 h rfl, A1 h rfl, A1 h rfl⟩
theorem PB {W0 W X : World} {g k p : Nat} {St : List Int} {cs : Array Value} (_d : Below W0.heap.size W0 W) (z : W.heap[p]? = some (.cells cs 25 (0, 0))) (o : Ab W X (fun k => k = p)) (h : W.ownsRow W0.heap.size 3 1 (.slice (some ⟨g, 0, none⟩) (St.length + 1) k) (St.length + 1) ((St ++ [-77]).map (Value.int .i64))) : OE W0.heap.size X g k St := Lt.keep ⟨Do h, h⟩ z o
theorem PO {W1 W X : World} {B g2 k2 g k p : Nat} {St Fi : List Int} {cs : Array Value} (r : OE B W1 g2 k2 St) (d : Below W1.heap.size W1 W) (z : W.heap[p]? = some (.cells cs 25 (0, 0))) (o : Ab W X (fun k => k = p)) (h : W.ownsRow W1.heap.size 3 1 (.slice (some ⟨g, 0, none⟩) (Fi.length + 1) k) (Fi.length + 1) ((Fi ++ [-77]).map (Value.int .i64))) (hB : B ≤ W1.heap.size) : OF B X g2 k2 g k St Fi := by
 have r : Lt B W1 g2 k2 St := r
 have l := r.lt
 have l2 := Cs h
 exact ⟨(r.on d l.2).keep z o, (Lt.keep ⟨Do h, h⟩ z o).down hB, by omega⟩
theorem PM {W1 W X : World} {B g2 k2 g3 k3 g k p : Nat} {St Fi : List Int} {Ed : List Aa} {cs : Array Value} (r : OF B W1 g2 k2 g3 k3 St Fi) (d : Below W1.heap.size W1 W) (z : W.heap[p]? = some (.cells cs 25 (0, 0))) (o : Ab W X (fun k => k = p)) (h : W.ownsRow W1.heap.size 50 3 (.slice (some ⟨g, 0, none⟩) (Ed.length + 1) k) (Ed.length + 1) ((Ed ++ [(-77, 0, 0)]).flatMap Ae)) (hB : B ≤ W1.heap.size) : Oi B X g2 k2 g3 k3 g k St Fi Ed := by
 have l := r.1.lt
 have l' := r.2.1.lt
 have l2 := Cs h
 exact ⟨(r.1.on d l.2).keep z o, (r.2.1.on d l'.2).keep z o, (Fo.keep ⟨Do h, h⟩ z o).down hB, r.2.2, by omega, by omega⟩
theorem Oa {W X : World} {B C g2 k2 g3 k3 g4 k4 p : Nat} {St Fi : List Int} {Ed : List Aa} {cs : Array Value} (r : Oi B W g2 k2 g3 k3 g4 k4 St Fi Ed) (z : W.heap[p]? = some (.cells cs 25 (0, 0))) (o : Ab W X (fun k => k = p)) (hC : C ≤ B) : Dd C X g2 k2 g3 k3 g4 k4 St Fi Ed := (Dd.keep r z o).down hC
theorem Eh (w : World) (n m : Int) (a1 a2 a3 : Option Addr) (c1 c2 c3 : Nat) (St Fi : List Int) (Ed : List Aa) (hA : Hid (AP w a1 a2 a3 St Fi Ed)) (h1 : St.length ≤ 4000000) (h2 : Fi.length ≤ 4000000) (h3 : Ed.length ≤ 4000000) (hz2 : a1 = none → c1 = 0) (hz3 : a2 = none → c2 = 0) (hz4 : a3 = none → c3 = 0) :
 Calls prog 10 #[.agg #[.int .i64 n, .int .i64 m, .slice a1 St.length c1, .slice a2 Fi.length c2, .slice a3 Ed.length c3]] w fun e w' => ∃ g1 k1 g2 k2 g3 k3, e = .returned (.agg #[.int .i64 n, .int .i64 m, .slice (some ⟨g1, 0, none⟩) St.length k1, .slice (some ⟨g2, 0, none⟩) Fi.length k2, .slice (some ⟨g3, 0, none⟩) Ed.length k3]) ∧ Hid (Dd w.heap.size w' g1 k1 g2 k2 g3 k3 St Fi Ed) ∧ Below w.heap.size w w' := by
 obtain ⟨Wz, hWz⟩ : ∃ W0, (w.alloc (.cells #[.int .i64 n, .int .i64 m, .slice a1 St.length c1, .slice a2 Fi.length c2, .slice a3 Ed.length c3] 25)).alloc (.cells #[.int .i64 0, .int .i64 0, .slice none 0 0, .slice none 0 0, .slice none 0 0] 25) = W0 := ⟨_, rfl⟩
 have HD := A0 (Br w #[.int .i64 n, .int .i64 m, .slice a1 St.length c1, .slice a2 Fi.length c2, .slice a3 Ed.length c3] #[.int .i64 0, .int .i64 0, .slice none 0 0, .slice none 0 0, .slice none 0 0] 25)
 rw [hWz] at HD
 obtain ⟨y0, y1, y2, y3, y4⟩ := An HD.out.2.1 rfl rfl rfl rfl rfl
 go_enter func10, ntmps10
 go_upto_region 2 with fail
 rw [show Wz.heap.size = w.heap.size + 1 + 1 from HD.out.2.2.2]
 obtain ⟨W0, hW0⟩ : ∃ X, Wz.alloc (.cells #[.int .i64 n, .int .i64 m, .slice a1 St.length c1, .slice a2 Fi.length c2, .slice a3 Ed.length c3] 25) = X := ⟨_, rfl⟩
 rw [hW0]
 have HP1 : Hid (W0.heap[w.heap.size]? = some (.cells #[.int .i64 n, .int .i64 m, .slice a1 St.length c1, .slice a2 Fi.length c2, .slice a3 Ed.length c3] 25 (0, 0)) ∧ W0.heap[w.heap.size + 1]? = some (.cells #[.int .i64 0, .int .i64 0, .slice none 0 0, .slice none 0 0, .slice none 0 0] 25 (0, 0)) ∧ W0.heap[w.heap.size + 1 + 1]? = some (.cells #[.int .i64 n, .int .i64 m, .slice a1 St.length c1, .slice a2 Fi.length c2, .slice a3 Ed.length c3] 25 (0, 0)) ∧ Below w.heap.size w W0) := A0 (by
  have q := (Below.refl _ Wz).alloc (Nat.le_refl _) (.cells #[.int .i64 n, .int .i64 m, .slice a1 St.length c1, .slice a2 Fi.length c2, .slice a3 Ed.length c3] 25)
  have z := World.alloc_heap_new Wz (.cells #[.int .i64 n, .int .i64 m, .slice a1 St.length c1, .slice a2 Fi.length c2, .slice a3 Ed.length c3] 25)
  rw [HD.out.2.2.2] at z
  rw [hW0] at q z
  exact ⟨A3 HD.out.2.1 q, A3 HD.out.2.2.1 q, z, HD.out.1.trans (q.mono HD.out.1.size)⟩)
 have HZ0 : Hid (w.heap.size ≤ W0.heap.size) := A0 HP1.out.2.2.2.size
 clear hW0 hWz HD y0 y1 y2 y3 y4
 have RX2 : Hid (∀ X, Below W0.heap.size W0 X → BB X a1 St) := A0 (fun X d => hA.out.s.on (HP1.out.2.2.2.trans (d.mono HP1.out.2.2.2.size)))
 have hmo : AJ 0 [pI 0 (No 3), vI 1 (.pointer (some ⟨w.heap.size, 2, none⟩)), vI 2 (.slice a1 St.length c1), ⟨[], [0], fun y _ _ W => W.ownsRow W0.heap.size 3 1 (y 3) St.length ((St).map (Value.int .i64))⟩, pI 4 (KO 3 #[.int .i64 (-77)]), ⟨[], [0, 3, 4], fun y _ _ W => W.ownsRow W0.heap.size 3 1 (y 5) (St.length + 1) ((St ++ [-77]).map (Value.int .i64))⟩, vI 6 (.pointer (some ⟨w.heap.size, 2, none⟩)), vI 7 (.slice a1 St.length c1), vI 8 (.int .i64 (St.length : Int)), ⟨[5], [], fun y _ _ _ => ∃ g d, y 5 = .slice (some ⟨g, 0, none⟩) (St.length + 1) d ∧ y 9 = .slice (some ⟨g, 0, none⟩) St.length d⟩] := ⟨Am Ez, A2 _ _, A2 _ _, (fun _ _ _ _ _ _ _ d hy h => by dsimp only at hy h ⊢; rw [hy 3 (Or.inl rfl)]; exact A6 h d), Am EI, (fun _ _ _ _ _ _ _ d hy h => by dsimp only at hy h ⊢; rw [hy 5 (Or.inl rfl)]; exact A6 h d), A2 _ _, A2 _ _, A2 _ _, (fun _ _ _ _ _ _ _ _ hy h => by dsimp only at hy h ⊢; rw [hy 9 (Or.inl rfl), hy 5 (Or.inr (by simp))]; exact h), trivial⟩
 refine Aj _ (by kernel_rfl) (by kernel_rfl) (by kernel_rfl) (by kernel_rfl) hmo ⟨?o0, ?o1, ?o2, ?o3, ?o4, ?o5, ?o6, ?o7, ?o8, ?o9, trivial⟩ ?fin
 case o0 =>
  intro At yy W hy hb d hd K hK
  clear hd hy hb
  go_simp
  exact hK.out _ _ (Av hmo d ((Below.refl _ _).alloc (Nat.le_refl _) _)) ⟨W.heap.size, if_pos rfl, Nat.le_refl _, by simp, World.alloc_heap_new _ _⟩
 case o1 =>
  intro At yy W hy hb d hd K hK
  obtain ⟨s1, s1'⟩ := AG (hb 1 rfl : _ = .pointer (some ⟨w.heap.size, 0, none⟩))
  clear hd hy hb
  go_simp
  exact Ak hK hmo d (if_pos rfl)
 case o2 =>
  intro At yy W hy hb d hd K hK
  obtain ⟨s6, s6'⟩ := Ao 1 6 .data hy hd rfl
  clear hd hy hb
  have bx := A3 HP1.out.1 d
  have y2 : W.cell? ⟨w.heap.size, 2, none⟩ = some (.slice a1 St.length c1) := A1 bx rfl
  clear bx
  go_simp
  exact Ak hK hmo d (if_pos rfl)
 case o3 =>
  intro At yy W hy hb d hd K hK
  have f0 := hd ⟨0, .data⟩ (by simp) rfl rfl
  obtain ⟨l0, u0, q0, r0, g0, e0, lt0, _, z0⟩ := f0
  obtain ⟨s5, s5'⟩ := AG ((hy 0 _ 5 rfl rfl).trans e0)
  obtain ⟨s7, s7'⟩ := Ao 2 7 .data hy hd rfl
  clear hd hy hb
  have o0 : W.ownsRow W0.heap.size 3 1 (.slice (some ⟨g0, 0, none⟩) 0 0) ([] : List Int).length ((([] : List Int)).map (Value.int .i64)) := IT z0 (by omega)
  refine Du rfl _ _ rfl W0.heap.size (.slice (some ⟨g0, 0, none⟩) 0 0) [] s5 o0 a1 St.length c1 St rfl hz2 s7 (RX2.out _ d) (by simp; omega) d.size ?_
  intro z5 d5 w4 HO4 HG4
  rw [List.nil_append] at HO4 ⊢
  exact hK.out _ w4 (Ce [0] rfl (d.trans (HG4.out.toBelow d.size (fun k hk => by simp only [Value.ownBlock, Option.some.injEq] at hk; omega))) HG4.out.size ⟨.inl (by simp), .inr (fun _ _ _ h => h), .inr (fun _ _ _ h => h), .inl (by simp), .inr (fun _ _ _ h => EO (by simp) h z0 HG4.out), .inr (fun _ _ _ h => FV h (by omega) z0 HG4.out), .inr (fun _ _ _ h => h), .inr (fun _ _ _ h => h), .inr (fun _ _ _ h => h), .inr (fun _ _ _ h => h), trivial⟩) (by show w4.ownsRow _ _ _ (AK yy 3 _ 3) _ _; rw [show ∀ x, AK yy 3 x 3 = x from fun x => if_pos rfl]; exact HO4.out)
 case o4 =>
  intro At yy W hy hb d hd K hK
  clear hd hy hb
  go_simp
  exact hK.out _ _ (Av hmo d ((Below.refl _ _).alloc (Nat.le_refl _) _)) ⟨W.heap.size, if_pos rfl, Nat.le_refl _, by simp, World.alloc_heap_new _ _⟩
 case o5 =>
  intro At yy W hy hb d hd K hK
  have f3 := hd ⟨3, .data⟩ (by simp) rfl rfl
  have f4 := hd ⟨4, .data⟩ (by simp) rfl rfl
  obtain ⟨_, _, _, _, o3⟩ := f3
  replace o3 : W.ownsRow W0.heap.size 3 1 (yy 3) St.length ((St).map (Value.int .i64)) := o3
  obtain ⟨z3, d3, e3⟩ := A8 o3
  obtain ⟨l4, u4, q4, r4, g4, e4, lt4, _, z4⟩ := f4
  obtain ⟨s8, s8'⟩ := AG ((hy 3 _ 8 rfl rfl).trans e3)
  obtain ⟨s9, s9'⟩ := AG ((hy 4 _ 9 rfl rfl).trans e4)
  clear hd hy hb
  rw [e3] at o3
  have r9 : BB W (some ⟨g4, 0, none⟩) [-77] := Jn z4
  refine Du rfl _ _ rfl W0.heap.size (.slice z3 St.length d3) St s8 o3 (some ⟨g4, 0, none⟩) 1 1 [-77] rfl (fun h => by cases h) s9 r9 (by simp; omega) d.size ?_
  intro z5 d5 w4 HO4 HG4
  exact hK.out _ w4 (Ce [0, 3, 4] rfl (d.trans (HG4.out.toBelow d.size (fun k hk => (o3.lt k hk).1))) HG4.out.size ⟨.inl (by simp), .inr (fun _ _ _ h => h), .inr (fun _ _ _ h => h), .inl (by simp), .inl (by simp), .inl (by simp), .inr (fun _ _ _ h => h), .inr (fun _ _ _ h => h), .inr (fun _ _ _ h => h), .inr (fun _ _ _ h => h), trivial⟩) (by show w4.ownsRow _ _ _ (AK yy 5 _ 5) _ _; rw [show ∀ x, AK yy 5 x 5 = x from fun x => if_pos rfl]; simpa using HO4.out)
 case o6 =>
  intro At yy W hy hb d hd K hK
  obtain ⟨s1, s1'⟩ := AG (hb 1 rfl : _ = .pointer (some ⟨w.heap.size, 0, none⟩))
  clear hd hy hb
  go_simp
  exact Ak hK hmo d (if_pos rfl)
 case o7 =>
  intro At yy W hy hb d hd K hK
  obtain ⟨s11, s11'⟩ := Ao 6 11 .data hy hd rfl
  clear hd hy hb
  have bx := A3 HP1.out.1 d
  have y2 : W.cell? ⟨w.heap.size, 2, none⟩ = some (.slice a1 St.length c1) := A1 bx rfl
  clear bx
  go_simp
  exact Ak hK hmo d (if_pos rfl)
 case o8 =>
  intro At yy W hy hb d hd K hK
  obtain ⟨s12, s12'⟩ := Ao 7 12 .data hy hd rfl
  clear hd hy hb
  go_simp
  exact Ak hK hmo d (if_pos rfl)
 case o9 =>
  intro At yy W hy hb d hd K hK
  have f5 := hd ⟨5, .data⟩ (by simp) rfl rfl
  obtain ⟨_, _, _, _, o5⟩ := f5
  replace o5 : W.ownsRow W0.heap.size 3 1 (yy 5) (St.length + 1) ((St ++ [-77]).map (Value.int .i64)) := o5
  obtain ⟨g5, d5, e5⟩ := ownsRow_succ (k := St.length) o5
  rw [e5] at o5
  have hcap := Do o5
  clear o5
  have hc0 : (0 : Int) ≤ (St.length : Int) := by omega
  have hc1 : (St.length : Int) ≤ (d5 : Int) := by omega
  obtain ⟨s10, s10'⟩ := AG ((hy 5 _ 10 rfl rfl).trans e5)
  obtain ⟨s13, s13'⟩ := Ao 8 13 .data hy hd rfl
  clear hd hy hb
  go_simp
  exact Ak hK hmo d ⟨g5, d5, by rw [show ∀ x, AK yy 9 x 5 = yy 5 from fun x => if_neg (by decide)]; exact e5, if_pos rfl⟩
 case fin =>
  intro yy lo hi W hM
  show wpList _ _ _ [_, _] _ _
  have e1 := hM.v 1 (by simp) rfl rfl rfl
  have e2 := hM.v 2 (by simp) rfl rfl rfl
  have e6 := hM.v 6 (by simp) rfl rfl rfl
  have e7 := hM.v 7 (by simp) rfl rfl rfl
  have e8 := hM.v 8 (by simp) rfl rfl rfl
  obtain ⟨g2, k2, e5, e9⟩ := hM.fact 9 (by simp) rfl (Ad 9 rfl)
  have o5 := hM.fact 5 (by simp) rfl (Ad 5 rfl)
  replace o5 : W.ownsRow W0.heap.size 3 1 (yy 5) (St.length + 1) ((St ++ [-77]).map (Value.int .i64)) := o5
  rw [e5] at o5
  have dd := hM.d
  simp only [Aw, Act.put, List.take, List.length, List.setIfInBounds_toArray, List.set_cons_zero, List.set_cons_succ, e1, e2, e6, e7, e8, e5, e9]
  clear hM hmo e1 e2 e6 e7 e8 e5 e9
  have F3 := A3 HP1.out.2.2.1 dd
  have o2 : W.cell? ⟨w.heap.size + 1 + 1, 2, none⟩ = some (.slice a1 St.length c1) := A1 F3 rfl
  have fz2 : W.frozen? ⟨w.heap.size + 1 + 1, 2, none⟩ = false := A4 F3
  obtain ⟨W2, hW2⟩ : ∃ X, W.setCell ⟨w.heap.size + 1 + 1, 2, none⟩ (.slice (some ⟨g2, 0, none⟩) St.length k2) = X := ⟨_, rfl⟩
  have on : Ab W W2 (fun k => k = w.heap.size + 1 + 1) := by rw [← hW2]; exact Ah _ _ _ _
  have hF : W2.heap[w.heap.size + 1 + 1]? = some (.cells #[.int .i64 n, .int .i64 m, .slice (some ⟨g2, 0, none⟩) St.length k2, .slice a2 Fi.length c2, .slice a3 Ed.length c3] 25 (0, 0)) := by rw [← hW2]; exact heap_setCell_same _ _ 2 _ 25 _ F3
  have HP2 : Hid (W2.heap[w.heap.size]? = some (.cells #[.int .i64 n, .int .i64 m, .slice a1 St.length c1, .slice a2 Fi.length c2, .slice a3 Ed.length c3] 25 (0, 0)) ∧ W2.heap[w.heap.size + 1]? = some (.cells #[.int .i64 0, .int .i64 0, .slice none 0 0, .slice none 0 0, .slice none 0 0] 25 (0, 0)) ∧ W2.heap[w.heap.size + 1 + 1]? = some (.cells #[.int .i64 n, .int .i64 m, .slice (some ⟨g2, 0, none⟩) St.length k2, .slice a2 Fi.length c2, .slice a3 Ed.length c3] 25 (0, 0)) ∧ Below w.heap.size w W2 ∧ OE W0.heap.size W2 g2 k2 St) := A0 ⟨on.cellK (A3 HP1.out.1 dd) (by omega), on.cellK (A3 HP1.out.2.1 dd) (by omega), hF, (HP1.out.2.2.2.trans (dd.mono HP1.out.2.2.2.size)).trans (on.toBelow (Nat.le_trans HP1.out.2.2.2.size dd.size) (fun k hk => by omega)), PB dd F3 on o5 ⟩
  have HS0 : Hid (W0.heap.size ≤ W2.heap.size) := A0 (Nat.le_trans dd.size on.size)
  go_upto_region 3 with fail
  clear hW2 on hF F3 dd o5 o2 fz2
  have RX3 : Hid (∀ X, Below W2.heap.size W2 X → BB X a2 Fi) := A0 (fun X d => hA.out.f.on (HP2.out.2.2.2.1.trans (d.mono HP2.out.2.2.2.1.size)))
  have hmo : AJ 0 [pI 0 (No 3), vI 1 (.pointer (some ⟨w.heap.size, 3, none⟩)), vI 2 (.slice a2 Fi.length c2), ⟨[], [0], fun y _ _ W => W.ownsRow W2.heap.size 3 1 (y 3) Fi.length ((Fi).map (Value.int .i64))⟩, pI 4 (KO 3 #[.int .i64 (-77)]), ⟨[], [0, 3, 4], fun y _ _ W => W.ownsRow W2.heap.size 3 1 (y 5) (Fi.length + 1) ((Fi ++ [-77]).map (Value.int .i64))⟩, vI 6 (.pointer (some ⟨w.heap.size, 3, none⟩)), vI 7 (.slice a2 Fi.length c2), vI 8 (.int .i64 (Fi.length : Int)), ⟨[5], [], fun y _ _ _ => ∃ g d, y 5 = .slice (some ⟨g, 0, none⟩) (Fi.length + 1) d ∧ y 9 = .slice (some ⟨g, 0, none⟩) Fi.length d⟩] := ⟨Am Ez, A2 _ _, A2 _ _, (fun _ _ _ _ _ _ _ d hy h => by dsimp only at hy h ⊢; rw [hy 3 (Or.inl rfl)]; exact A6 h d), Am EI, (fun _ _ _ _ _ _ _ d hy h => by dsimp only at hy h ⊢; rw [hy 5 (Or.inl rfl)]; exact A6 h d), A2 _ _, A2 _ _, A2 _ _, (fun _ _ _ _ _ _ _ _ hy h => by dsimp only at hy h ⊢; rw [hy 9 (Or.inl rfl), hy 5 (Or.inr (by simp))]; exact h), trivial⟩
  refine Aj _ (by kernel_rfl) (by kernel_rfl) (by kernel_rfl) (by kernel_rfl) hmo ⟨?o0, ?o1, ?o2, ?o3, ?o4, ?o5, ?o6, ?o7, ?o8, ?o9, trivial⟩ ?fin
  case o0 =>
   intro At yy W hy hb d hd K hK
   clear hd hy hb
   go_simp
   exact hK.out _ _ (Av hmo d ((Below.refl _ _).alloc (Nat.le_refl _) _)) ⟨W.heap.size, if_pos rfl, Nat.le_refl _, by simp, World.alloc_heap_new _ _⟩
  case o1 =>
   intro At yy W hy hb d hd K hK
   obtain ⟨s1, s1'⟩ := AG (hb 1 rfl : _ = .pointer (some ⟨w.heap.size, 0, none⟩))
   clear hd hy hb
   go_simp
   exact Ak hK hmo d (if_pos rfl)
  case o2 =>
   intro At yy W hy hb d hd K hK
   obtain ⟨s17, s17'⟩ := Ao 1 17 .data hy hd rfl
   clear hd hy hb
   have bx := A3 HP2.out.1 d
   have y3 : W.cell? ⟨w.heap.size, 3, none⟩ = some (.slice a2 Fi.length c2) := A1 bx rfl
   clear bx
   go_simp
   exact Ak hK hmo d (if_pos rfl)
  case o3 =>
   intro At yy W hy hb d hd K hK
   have f0 := hd ⟨0, .data⟩ (by simp) rfl rfl
   obtain ⟨l0, u0, q0, r0, g0, e0, lt0, _, z0⟩ := f0
   obtain ⟨s16, s16'⟩ := AG ((hy 0 _ 16 rfl rfl).trans e0)
   obtain ⟨s18, s18'⟩ := Ao 2 18 .data hy hd rfl
   clear hd hy hb
   have o0 : W.ownsRow W2.heap.size 3 1 (.slice (some ⟨g0, 0, none⟩) 0 0) ([] : List Int).length ((([] : List Int)).map (Value.int .i64)) := IT z0 (by omega)
   refine Du rfl _ _ rfl W2.heap.size (.slice (some ⟨g0, 0, none⟩) 0 0) [] s16 o0 a2 Fi.length c2 Fi rfl hz3 s18 (RX3.out _ d) (by simp; omega) d.size ?_
   intro z5 d5 w4 HO4 HG4
   rw [List.nil_append] at HO4 ⊢
   exact hK.out _ w4 (Ce [0] rfl (d.trans (HG4.out.toBelow d.size (fun k hk => by simp only [Value.ownBlock, Option.some.injEq] at hk; omega))) HG4.out.size ⟨.inl (by simp), .inr (fun _ _ _ h => h), .inr (fun _ _ _ h => h), .inl (by simp), .inr (fun _ _ _ h => EO (by simp) h z0 HG4.out), .inr (fun _ _ _ h => FV h (by omega) z0 HG4.out), .inr (fun _ _ _ h => h), .inr (fun _ _ _ h => h), .inr (fun _ _ _ h => h), .inr (fun _ _ _ h => h), trivial⟩) (by show w4.ownsRow _ _ _ (AK yy 3 _ 3) _ _; rw [show ∀ x, AK yy 3 x 3 = x from fun x => if_pos rfl]; exact HO4.out)
  case o4 =>
   intro At yy W hy hb d hd K hK
   clear hd hy hb
   go_simp
   exact hK.out _ _ (Av hmo d ((Below.refl _ _).alloc (Nat.le_refl _) _)) ⟨W.heap.size, if_pos rfl, Nat.le_refl _, by simp, World.alloc_heap_new _ _⟩
  case o5 =>
   intro At yy W hy hb d hd K hK
   have f3 := hd ⟨3, .data⟩ (by simp) rfl rfl
   have f4 := hd ⟨4, .data⟩ (by simp) rfl rfl
   obtain ⟨_, _, _, _, o3⟩ := f3
   replace o3 : W.ownsRow W2.heap.size 3 1 (yy 3) Fi.length ((Fi).map (Value.int .i64)) := o3
   obtain ⟨z3, d3, e3⟩ := A8 o3
   obtain ⟨l4, u4, q4, r4, g4, e4, lt4, _, z4⟩ := f4
   obtain ⟨s19, s19'⟩ := AG ((hy 3 _ 19 rfl rfl).trans e3)
   obtain ⟨s20, s20'⟩ := AG ((hy 4 _ 20 rfl rfl).trans e4)
   clear hd hy hb
   rw [e3] at o3
   have r9 : BB W (some ⟨g4, 0, none⟩) [-77] := Jn z4
   refine Du rfl _ _ rfl W2.heap.size (.slice z3 Fi.length d3) Fi s19 o3 (some ⟨g4, 0, none⟩) 1 1 [-77] rfl (fun h => by cases h) s20 r9 (by simp; omega) d.size ?_
   intro z5 d5 w4 HO4 HG4
   exact hK.out _ w4 (Ce [0, 3, 4] rfl (d.trans (HG4.out.toBelow d.size (fun k hk => (o3.lt k hk).1))) HG4.out.size ⟨.inl (by simp), .inr (fun _ _ _ h => h), .inr (fun _ _ _ h => h), .inl (by simp), .inl (by simp), .inl (by simp), .inr (fun _ _ _ h => h), .inr (fun _ _ _ h => h), .inr (fun _ _ _ h => h), .inr (fun _ _ _ h => h), trivial⟩) (by show w4.ownsRow _ _ _ (AK yy 5 _ 5) _ _; rw [show ∀ x, AK yy 5 x 5 = x from fun x => if_pos rfl]; simpa using HO4.out)
  case o6 =>
   intro At yy W hy hb d hd K hK
   obtain ⟨s1, s1'⟩ := AG (hb 1 rfl : _ = .pointer (some ⟨w.heap.size, 0, none⟩))
   clear hd hy hb
   go_simp
   exact Ak hK hmo d (if_pos rfl)
  case o7 =>
   intro At yy W hy hb d hd K hK
   obtain ⟨s22, s22'⟩ := Ao 6 22 .data hy hd rfl
   clear hd hy hb
   have bx := A3 HP2.out.1 d
   have y3 : W.cell? ⟨w.heap.size, 3, none⟩ = some (.slice a2 Fi.length c2) := A1 bx rfl
   clear bx
   go_simp
   exact Ak hK hmo d (if_pos rfl)
  case o8 =>
   intro At yy W hy hb d hd K hK
   obtain ⟨s23, s23'⟩ := Ao 7 23 .data hy hd rfl
   clear hd hy hb
   go_simp
   exact Ak hK hmo d (if_pos rfl)
  case o9 =>
   intro At yy W hy hb d hd K hK
   have f5 := hd ⟨5, .data⟩ (by simp) rfl rfl
   obtain ⟨_, _, _, _, o5⟩ := f5
   replace o5 : W.ownsRow W2.heap.size 3 1 (yy 5) (Fi.length + 1) ((Fi ++ [-77]).map (Value.int .i64)) := o5
   obtain ⟨g5, d5, e5⟩ := ownsRow_succ (k := Fi.length) o5
   rw [e5] at o5
   have hcap := Do o5
   clear o5
   have hc0 : (0 : Int) ≤ (Fi.length : Int) := by omega
   have hc1 : (Fi.length : Int) ≤ (d5 : Int) := by omega
   obtain ⟨s21, s21'⟩ := AG ((hy 5 _ 21 rfl rfl).trans e5)
   obtain ⟨s24, s24'⟩ := Ao 8 24 .data hy hd rfl
   clear hd hy hb
   go_simp
   exact Ak hK hmo d ⟨g5, d5, by rw [show ∀ x, AK yy 9 x 5 = yy 5 from fun x => if_neg (by decide)]; exact e5, if_pos rfl⟩
  case fin =>
   intro yy lo hi W hM
   show wpList _ _ _ [_, _] _ _
   have e1 := hM.v 1 (by simp) rfl rfl rfl
   have e2 := hM.v 2 (by simp) rfl rfl rfl
   have e6 := hM.v 6 (by simp) rfl rfl rfl
   have e7 := hM.v 7 (by simp) rfl rfl rfl
   have e8 := hM.v 8 (by simp) rfl rfl rfl
   obtain ⟨g3, k3, e5, e9⟩ := hM.fact 9 (by simp) rfl (Ad 9 rfl)
   have o5 := hM.fact 5 (by simp) rfl (Ad 5 rfl)
   replace o5 : W.ownsRow W2.heap.size 3 1 (yy 5) (Fi.length + 1) ((Fi ++ [-77]).map (Value.int .i64)) := o5
   rw [e5] at o5
   have dd := hM.d
   simp only [Aw, Act.put, List.take, List.length, List.setIfInBounds_toArray, List.set_cons_zero, List.set_cons_succ, e1, e2, e6, e7, e8, e5, e9]
   clear hM hmo e1 e2 e6 e7 e8 e5 e9
   have F3 := A3 HP2.out.2.2.1 dd
   have o3 : W.cell? ⟨w.heap.size + 1 + 1, 3, none⟩ = some (.slice a2 Fi.length c2) := A1 F3 rfl
   have fz3 : W.frozen? ⟨w.heap.size + 1 + 1, 3, none⟩ = false := A4 F3
   obtain ⟨W3, hW3⟩ : ∃ X, W.setCell ⟨w.heap.size + 1 + 1, 3, none⟩ (.slice (some ⟨g3, 0, none⟩) Fi.length k3) = X := ⟨_, rfl⟩
   have on : Ab W W3 (fun k => k = w.heap.size + 1 + 1) := by rw [← hW3]; exact Ah _ _ _ _
   have hF : W3.heap[w.heap.size + 1 + 1]? = some (.cells #[.int .i64 n, .int .i64 m, .slice (some ⟨g2, 0, none⟩) St.length k2, .slice (some ⟨g3, 0, none⟩) Fi.length k3, .slice a3 Ed.length c3] 25 (0, 0)) := by rw [← hW3]; exact heap_setCell_same _ _ 3 _ 25 _ F3
   have HP3 : Hid (W3.heap[w.heap.size]? = some (.cells #[.int .i64 n, .int .i64 m, .slice a1 St.length c1, .slice a2 Fi.length c2, .slice a3 Ed.length c3] 25 (0, 0)) ∧ W3.heap[w.heap.size + 1]? = some (.cells #[.int .i64 0, .int .i64 0, .slice none 0 0, .slice none 0 0, .slice none 0 0] 25 (0, 0)) ∧ W3.heap[w.heap.size + 1 + 1]? = some (.cells #[.int .i64 n, .int .i64 m, .slice (some ⟨g2, 0, none⟩) St.length k2, .slice (some ⟨g3, 0, none⟩) Fi.length k3, .slice a3 Ed.length c3] 25 (0, 0)) ∧ Below w.heap.size w W3 ∧ OF W0.heap.size W3 g2 k2 g3 k3 St Fi) := A0 ⟨on.cellK (A3 HP2.out.1 dd) (by omega), on.cellK (A3 HP2.out.2.1 dd) (by omega), hF, (HP2.out.2.2.2.1.trans (dd.mono HP2.out.2.2.2.1.size)).trans (on.toBelow (Nat.le_trans HP2.out.2.2.2.1.size dd.size) (fun k hk => by omega)), PO HP2.out.2.2.2.2 dd F3 on o5 HS0.out⟩
   replace HS0 : Hid (W0.heap.size ≤ W3.heap.size) := A0 (Nat.le_trans HS0.out (Nat.le_trans dd.size on.size))
   go_upto_region 4 with fail
   clear hW3 on hF F3 dd o5 o3 fz3
   have RX4 : Hid (∀ X, Below W3.heap.size W3 X → Cl X a3 Ed) := A0 (fun X d => hA.out.e.on (HP3.out.2.2.2.1.trans (d.mono HP3.out.2.2.2.1.size)))
   have hmo : AJ 0 [pI 0 (No 50), vI 1 (.pointer (some ⟨w.heap.size, 4, none⟩)), vI 2 (.slice a3 Ed.length c3), ⟨[], [0], fun y _ _ W => W.ownsRow W3.heap.size 50 3 (y 3) Ed.length ((Ed).flatMap Ae)⟩, vI 4 (.agg #[.int .i64 (-77), .int .i64 0, .int .i64 0]), pI 5 (KO 50 #[.int .i64 (-77), .int .i64 0, .int .i64 0]), ⟨[], [0, 3, 5], fun y _ _ W => W.ownsRow W3.heap.size 50 3 (y 6) (Ed.length + 1) ((Ed ++ [(-77, 0, 0)]).flatMap Ae)⟩, vI 7 (.pointer (some ⟨w.heap.size, 4, none⟩)), vI 8 (.slice a3 Ed.length c3), vI 9 (.int .i64 (Ed.length : Int)), ⟨[6], [], fun y _ _ _ => ∃ g d, y 6 = .slice (some ⟨g, 0, none⟩) (Ed.length + 1) d ∧ y 10 = .slice (some ⟨g, 0, none⟩) Ed.length d⟩] := ⟨Am Ez, A2 _ _, A2 _ _, (fun _ _ _ _ _ _ _ d hy h => by dsimp only at hy h ⊢; rw [hy 3 (Or.inl rfl)]; exact A6 h d), A2 _ _, Am EI, (fun _ _ _ _ _ _ _ d hy h => by dsimp only at hy h ⊢; rw [hy 6 (Or.inl rfl)]; exact A6 h d), A2 _ _, A2 _ _, A2 _ _, (fun _ _ _ _ _ _ _ _ hy h => by dsimp only at hy h ⊢; rw [hy 10 (Or.inl rfl), hy 6 (Or.inr (by simp))]; exact h), trivial⟩
   refine Aj _ (by kernel_rfl) (by kernel_rfl) (by kernel_rfl) (by kernel_rfl) hmo ⟨?o0, ?o1, ?o2, ?o3, ?o4, ?o5, ?o6, ?o7, ?o8, ?o9, ?o10, trivial⟩ ?fin
   case o0 =>
    intro At yy W hy hb d hd K hK
    clear hd hy hb
    go_simp
    exact hK.out _ _ (Av hmo d ((Below.refl _ _).alloc (Nat.le_refl _) _)) ⟨W.heap.size, if_pos rfl, Nat.le_refl _, by simp, World.alloc_heap_new _ _⟩
   case o1 =>
    intro At yy W hy hb d hd K hK
    obtain ⟨s1, s1'⟩ := AG (hb 1 rfl : _ = .pointer (some ⟨w.heap.size, 0, none⟩))
    clear hd hy hb
    go_simp
    exact Ak hK hmo d (if_pos rfl)
   case o2 =>
    intro At yy W hy hb d hd K hK
    obtain ⟨s28, s28'⟩ := Ao 1 28 .data hy hd rfl
    clear hd hy hb
    have bx := A3 HP3.out.1 d
    have y4 : W.cell? ⟨w.heap.size, 4, none⟩ = some (.slice a3 Ed.length c3) := A1 bx rfl
    clear bx
    go_simp
    exact Ak hK hmo d (if_pos rfl)
   case o3 =>
    intro At yy W hy hb d hd K hK
    have f0 := hd ⟨0, .data⟩ (by simp) rfl rfl
    obtain ⟨l0, u0, q0, r0, g0, e0, lt0, _, z0⟩ := f0
    obtain ⟨s27, s27'⟩ := AG ((hy 0 _ 27 rfl rfl).trans e0)
    obtain ⟨s29, s29'⟩ := Ao 2 29 .data hy hd rfl
    clear hd hy hb
    have o0 : W.ownsRow W3.heap.size 50 3 (.slice (some ⟨g0, 0, none⟩) 0 0) ([] : List Aa).length ((([] : List Aa)).flatMap Ae) := Kf z0 (by omega)
    refine EL rfl _ _ rfl W3.heap.size (.slice (some ⟨g0, 0, none⟩) 0 0) [] s27 o0 a3 Ed.length c3 Ed rfl hz4 s29 (RX4.out _ d) (by simp; omega) d.size ?_
    intro z5 d5 w4 HO4 HG4
    rw [List.nil_append] at HO4 ⊢
    exact hK.out _ w4 (Ce [0] rfl (d.trans (HG4.out.toBelow d.size (fun k hk => by simp only [Value.ownBlock, Option.some.injEq] at hk; omega))) HG4.out.size ⟨.inl (by simp), .inr (fun _ _ _ h => h), .inr (fun _ _ _ h => h), .inl (by simp), .inr (fun _ _ _ h => h), .inr (fun _ _ _ h => EO (by simp) h z0 HG4.out), .inr (fun _ _ _ h => FV h (by omega) z0 HG4.out), .inr (fun _ _ _ h => h), .inr (fun _ _ _ h => h), .inr (fun _ _ _ h => h), .inr (fun _ _ _ h => h), trivial⟩) (by show w4.ownsRow _ _ _ (AK yy 3 _ 3) _ _; rw [show ∀ x, AK yy 3 x 3 = x from fun x => if_pos rfl]; exact HO4.out)
   case o4 =>
    intro At yy W hy hb d hd K hK
    clear hd hy hb
    go_simp
    exact Ak hK hmo d (if_pos rfl)
   case o5 =>
    intro At yy W hy hb d hd K hK
    obtain ⟨s31, s31'⟩ := Ao 4 31 .data hy hd rfl
    clear hd hy hb
    go_simp
    exact hK.out _ _ (Av hmo d ((Below.refl _ _).alloc (Nat.le_refl _) _)) ⟨W.heap.size, if_pos rfl, Nat.le_refl _, by simp, World.alloc_heap_new _ _⟩
   case o6 =>
    intro At yy W hy hb d hd K hK
    have f3 := hd ⟨3, .data⟩ (by simp) rfl rfl
    have f5 := hd ⟨5, .data⟩ (by simp) rfl rfl
    obtain ⟨_, _, _, _, o3⟩ := f3
    replace o3 : W.ownsRow W3.heap.size 50 3 (yy 3) Ed.length ((Ed).flatMap Ae) := o3
    obtain ⟨z3, d3, e3⟩ := A8 o3
    obtain ⟨l4, u4, q4, r4, g4, e5, lt4, _, z4⟩ := f5
    obtain ⟨s30, s30'⟩ := AG ((hy 3 _ 30 rfl rfl).trans e3)
    obtain ⟨s32, s32'⟩ := AG ((hy 5 _ 32 rfl rfl).trans e5)
    clear hd hy hb
    rw [e3] at o3
    have r9 : Cl W (some ⟨g4, 0, none⟩) [(-77, 0, 0)] := N3 z4
    refine EL rfl _ _ rfl W3.heap.size (.slice z3 Ed.length d3) Ed s30 o3 (some ⟨g4, 0, none⟩) 1 1 [(-77, 0, 0)] rfl (fun h => by cases h) s32 r9 (by simp; omega) d.size ?_
    intro z5 d5 w4 HO4 HG4
    exact hK.out _ w4 (Ce [0, 3, 5] rfl (d.trans (HG4.out.toBelow d.size (fun k hk => (o3.lt k hk).1))) HG4.out.size ⟨.inl (by simp), .inr (fun _ _ _ h => h), .inr (fun _ _ _ h => h), .inl (by simp), .inr (fun _ _ _ h => h), .inl (by simp), .inl (by simp), .inr (fun _ _ _ h => h), .inr (fun _ _ _ h => h), .inr (fun _ _ _ h => h), .inr (fun _ _ _ h => h), trivial⟩) (by show w4.ownsRow _ _ _ (AK yy 6 _ 6) _ _; rw [show ∀ x, AK yy 6 x 6 = x from fun x => if_pos rfl]; simpa using HO4.out)
   case o7 =>
    intro At yy W hy hb d hd K hK
    obtain ⟨s1, s1'⟩ := AG (hb 1 rfl : _ = .pointer (some ⟨w.heap.size, 0, none⟩))
    clear hd hy hb
    go_simp
    exact Ak hK hmo d (if_pos rfl)
   case o8 =>
    intro At yy W hy hb d hd K hK
    obtain ⟨s34, s34'⟩ := Ao 7 34 .data hy hd rfl
    clear hd hy hb
    have bx := A3 HP3.out.1 d
    have y4 : W.cell? ⟨w.heap.size, 4, none⟩ = some (.slice a3 Ed.length c3) := A1 bx rfl
    clear bx
    go_simp
    exact Ak hK hmo d (if_pos rfl)
   case o9 =>
    intro At yy W hy hb d hd K hK
    obtain ⟨s35, s35'⟩ := Ao 8 35 .data hy hd rfl
    clear hd hy hb
    go_simp
    exact Ak hK hmo d (if_pos rfl)
   case o10 =>
    intro At yy W hy hb d hd K hK
    have f6 := hd ⟨6, .data⟩ (by simp) rfl rfl
    obtain ⟨_, _, _, _, o5⟩ := f6
    replace o5 : W.ownsRow W3.heap.size 50 3 (yy 6) (Ed.length + 1) ((Ed ++ [(-77, 0, 0)]).flatMap Ae) := o5
    obtain ⟨g5, d5, e6⟩ := ownsRow_succ (k := Ed.length) o5
    rw [e6] at o5
    have hcap := Do o5
    clear o5
    have hc0 : (0 : Int) ≤ (Ed.length : Int) := by omega
    have hc1 : (Ed.length : Int) ≤ (d5 : Int) := by omega
    obtain ⟨s33, s33'⟩ := AG ((hy 6 _ 33 rfl rfl).trans e6)
    obtain ⟨s36, s36'⟩ := Ao 9 36 .data hy hd rfl
    clear hd hy hb
    go_simp
    exact Ak hK hmo d ⟨g5, d5, by rw [show ∀ x, AK yy 10 x 6 = yy 6 from fun x => if_neg (by decide)]; exact e6, if_pos rfl⟩
   case fin =>
    intro yy lo hi W hM
    show wpList _ _ _ [_, _] _ _
    have e1 := hM.v 1 (by simp) rfl rfl rfl
    have e2 := hM.v 2 (by simp) rfl rfl rfl
    have e4 := hM.v 4 (by simp) rfl rfl rfl
    have e7 := hM.v 7 (by simp) rfl rfl rfl
    have e8 := hM.v 8 (by simp) rfl rfl rfl
    have e9 := hM.v 9 (by simp) rfl rfl rfl
    obtain ⟨g4, k4, e6, e10⟩ := hM.fact 10 (by simp) rfl (Ad 10 rfl)
    have o6 := hM.fact 6 (by simp) rfl (Ad 6 rfl)
    replace o6 : W.ownsRow W3.heap.size 50 3 (yy 6) (Ed.length + 1) ((Ed ++ [(-77, 0, 0)]).flatMap Ae) := o6
    rw [e6] at o6
    have dd := hM.d
    simp only [Aw, Act.put, List.take, List.length, List.setIfInBounds_toArray, List.set_cons_zero, List.set_cons_succ, e1, e2, e4, e7, e8, e9, e6, e10]
    clear hM hmo e1 e2 e4 e7 e8 e9 e6 e10
    have F3 := A3 HP3.out.2.2.1 dd
    have o4 : W.cell? ⟨w.heap.size + 1 + 1, 4, none⟩ = some (.slice a3 Ed.length c3) := A1 F3 rfl
    have fz4 : W.frozen? ⟨w.heap.size + 1 + 1, 4, none⟩ = false := A4 F3
    obtain ⟨W4, hW4⟩ : ∃ X, W.setCell ⟨w.heap.size + 1 + 1, 4, none⟩ (.slice (some ⟨g4, 0, none⟩) Ed.length k4) = X := ⟨_, rfl⟩
    have on : Ab W W4 (fun k => k = w.heap.size + 1 + 1) := by rw [← hW4]; exact Ah _ _ _ _
    have hF : W4.heap[w.heap.size + 1 + 1]? = some (.cells #[.int .i64 n, .int .i64 m, .slice (some ⟨g2, 0, none⟩) St.length k2, .slice (some ⟨g3, 0, none⟩) Fi.length k3, .slice (some ⟨g4, 0, none⟩) Ed.length k4] 25 (0, 0)) := by rw [← hW4]; exact heap_setCell_same _ _ 4 _ 25 _ F3
    have HP4 : Hid (W4.heap[w.heap.size]? = some (.cells #[.int .i64 n, .int .i64 m, .slice a1 St.length c1, .slice a2 Fi.length c2, .slice a3 Ed.length c3] 25 (0, 0)) ∧ W4.heap[w.heap.size + 1]? = some (.cells #[.int .i64 0, .int .i64 0, .slice none 0 0, .slice none 0 0, .slice none 0 0] 25 (0, 0)) ∧ W4.heap[w.heap.size + 1 + 1]? = some (.cells #[.int .i64 n, .int .i64 m, .slice (some ⟨g2, 0, none⟩) St.length k2, .slice (some ⟨g3, 0, none⟩) Fi.length k3, .slice (some ⟨g4, 0, none⟩) Ed.length k4] 25 (0, 0)) ∧ Below w.heap.size w W4 ∧ Oi W0.heap.size W4 g2 k2 g3 k3 g4 k4 St Fi Ed) := A0 ⟨on.cellK (A3 HP3.out.1 dd) (by omega), on.cellK (A3 HP3.out.2.1 dd) (by omega), hF, (HP3.out.2.2.2.1.trans (dd.mono HP3.out.2.2.2.1.size)).trans (on.toBelow (Nat.le_trans HP3.out.2.2.2.1.size dd.size) (fun k hk => by omega)), PM HP3.out.2.2.2.2 dd F3 on o6 HS0.out⟩
    replace HS0 : Hid (W0.heap.size ≤ W4.heap.size) := A0 (Nat.le_trans HS0.out (Nat.le_trans dd.size on.size))
    have F5 := HP4.out.2.2.1
    have F6 := HP4.out.2.1
    obtain ⟨p0, p1, p2, p3, p4⟩ := An F5 rfl rfl rfl rfl rfl
    obtain ⟨z0, z1, z2, z3, z4⟩ := An F6 rfl rfl rfl rfl rfl
    have zf0 : W4.frozen? ⟨w.heap.size + 1, 0, none⟩ = false := A4 F6
    have zf1 : W4.frozen? ⟨w.heap.size + 1, 1, none⟩ = false := A4 F6
    have zf2 : W4.frozen? ⟨w.heap.size + 1, 2, none⟩ = false := A4 F6
    have zf3 : W4.frozen? ⟨w.heap.size + 1, 3, none⟩ = false := A4 F6
    have zf4 : W4.frozen? ⟨w.heap.size + 1, 4, none⟩ = false := A4 F6
    have O6 := A0 (And.intro (AT W4 (w.heap.size + 1) _ _ _ _ _ (.int .i64 n) (.int .i64 m) (.slice (some ⟨g2, 0, none⟩) St.length k2) (.slice (some ⟨g3, 0, none⟩) Fi.length k3) (.slice (some ⟨g4, 0, none⟩) Ed.length k4) 25 F6) (AF W4 (w.heap.size + 1) (.int .i64 n) (.int .i64 m) (.slice (some ⟨g2, 0, none⟩) St.length k2) (.slice (some ⟨g3, 0, none⟩) Fi.length k3) (.slice (some ⟨g4, 0, none⟩) Ed.length k4)))
    clear F5 F6 F3 dd on hF
    go_upto_region 5 with fail
    clear hW4
    go_wp2_with fail
    refine bodyPost_ret (results_cell_row (p := 2) (ty := 25) rfl _ _ (w.heap.size + 1) 25 _ (0, 0) _ rfl O6.out.1 underlying25 rfl (by kernel_rfl)) rfl ?_
    exact ⟨g2, k2, g3, k3, g4, k4, rfl, A0 (Oa HP4.out.2.2.2.2 HP4.out.2.1 O6.out.2 HZ0.out), HP4.out.2.2.2.1.trans (O6.out.2.toBelow HP4.out.2.2.2.1.size (fun k hk => by omega))⟩
theorem Lt.mark {B : Nat} {w : World} {g c : Nat} {L : List Int} (h : Lt B w g c L) : w.cell? ⟨g, L.length, none⟩ = some (.int .i64 (-77)) := BS h.rw (by simp)
theorem Fo.mark {B : Nat} {w : World} {g c : Nat} {L : List Aa} (h : Fo B w g c L) : w.cell? ⟨g, L.length * 3, none⟩ = some (.int .i64 (-77)) := BS h.rw (by
 rw [CL _ _ (by rw [List.length_append]; simp)]
 simp only [show L.length * 3 / 3 = L.length by omega, show L.length * 3 % 3 = 0 by omega, List.getElem_append_right (Nat.le_refl L.length)]
 simp [Ae])
theorem E0 (w : World) (B : Nat) (n m : Int) (g1 k1 g2 k2 g3 k3 : Nat) (a1 a2 a3 : Option Addr) (c1 c2 c3 : Nat) (St Fi : List Int) (Ed : List Aa) (hL : Hid (Dd B w g1 k1 g2 k2 g3 k3 St Fi Ed)) (hA : Hid (AP w a1 a2 a3 St Fi Ed)) (h1 : St.length ≤ 4000000) (h2 : Fi.length ≤ 4000000) (h3 : Ed.length ≤ 4000000) :
 Calls prog 17 #[.agg #[.int .i64 n, .int .i64 m, .slice (some ⟨g1, 0, none⟩) St.length k1, .slice (some ⟨g2, 0, none⟩) Fi.length k2, .slice (some ⟨g3, 0, none⟩) Ed.length k3], .agg #[.int .i64 n, .int .i64 m, .slice a1 St.length c1, .slice a2 Fi.length c2, .slice a3 Ed.length c3]] w fun e w' => e = .returned (.bool true) ∧ Below w.heap.size w w' := by
 obtain ⟨W0, hW0⟩ : ∃ W0, (w.alloc (.cells #[.int .i64 n, .int .i64 m, .slice (some ⟨g1, 0, none⟩) St.length k1, .slice (some ⟨g2, 0, none⟩) Fi.length k2, .slice (some ⟨g3, 0, none⟩) Ed.length k3] 25)).alloc (.cells #[.int .i64 n, .int .i64 m, .slice a1 St.length c1, .slice a2 Fi.length c2, .slice a3 Ed.length c3] 25) = W0 := ⟨_, rfl⟩
 have HD := A0 (Br w #[.int .i64 n, .int .i64 m, .slice (some ⟨g1, 0, none⟩) St.length k1, .slice (some ⟨g2, 0, none⟩) Fi.length k2, .slice (some ⟨g3, 0, none⟩) Ed.length k3] #[.int .i64 n, .int .i64 m, .slice a1 St.length c1, .slice a2 Fi.length c2, .slice a3 Ed.length c3] 25)
 rw [hW0] at HD
 have TE := BE W0 n m n m a1 a2 a3 (some ⟨g1, 0, none⟩) (some ⟨g2, 0, none⟩) (some ⟨g3, 0, none⟩) c1 c2 c3 k1 k2 k3 St Fi Ed St Fi Ed (A0 (hA.out.on HD.out.1)) (A0 (hL.out.rd.on HD.out.1)) (by omega) (by omega) (by omega) (by omega) (by omega) (by omega)
 rw [show KT n m n m St Fi Ed St Fi Ed = true by simp [KT]] at TE
 have HC := A0 (And.intro hL.out.s.le (And.intro hL.out.f.le hL.out.e.le))
 have SK : Hid (∀ W, Below W0.heap.size W0 W → (W.cell? ⟨w.heap.size, 2, none⟩ = some (.slice (some ⟨g1, 0, none⟩) St.length k1) ∧ W.cell? ⟨w.heap.size, 3, none⟩ = some (.slice (some ⟨g2, 0, none⟩) Fi.length k2) ∧ W.cell? ⟨w.heap.size, 4, none⟩ = some (.slice (some ⟨g3, 0, none⟩) Ed.length k3)) ∧ W.cell? ⟨g1, St.length, none⟩ = some (.int .i64 (-77)) ∧ W.cell? ⟨g2, Fi.length, none⟩ = some (.int .i64 (-77)) ∧ W.cell? ⟨g3, Ed.length * 3, none⟩ = some (.int .i64 (-77))) := A0 (fun W d => by
  have e := A3 HD.out.2.1 d
  have q := (hL.out.on HD.out.1).on d
  exact ⟨⟨A1 e rfl, A1 e rfl, A1 e rfl⟩, q.s.mark, q.f.mark, q.e.mark⟩)
 obtain ⟨y0, y1, y2, y3, y4⟩ := An HD.out.2.1 rfl rfl rfl rfl rfl
 obtain ⟨x0, x1, x2, x3, x4⟩ := An HD.out.2.2.1 rfl rfl rfl rfl rfl
 have b10 : (0 : Int) ≤ (St.length : Int) + 1 := by omega
 have b11 : (St.length : Int) + 1 ≤ (k1 : Int) := by have := HC.out.1; omega
 have b12 : (0 : Int) ≤ (St.length : Int) := by omega
 have b13 : (St.length : Int) < (St.length : Int) + 1 := by omega
 have b1w : IntKind.i64.wrap ((St.length : Int) + 1) = (St.length : Int) + 1 := by rw [IntKind.wrap_i64]; omega
 have b20 : (0 : Int) ≤ (Fi.length : Int) + 1 := by omega
 have b21 : (Fi.length : Int) + 1 ≤ (k2 : Int) := by have := HC.out.2.1; omega
 have b22 : (0 : Int) ≤ (Fi.length : Int) := by omega
 have b23 : (Fi.length : Int) < (Fi.length : Int) + 1 := by omega
 have b2w : IntKind.i64.wrap ((Fi.length : Int) + 1) = (Fi.length : Int) + 1 := by rw [IntKind.wrap_i64]; omega
 have b30 : (0 : Int) ≤ (Ed.length : Int) + 1 := by omega
 have b31 : (Ed.length : Int) + 1 ≤ (k3 : Int) := by have := HC.out.2.2; omega
 have b32 : (0 : Int) ≤ (Ed.length : Int) := by omega
 have b33 : (Ed.length : Int) < (Ed.length : Int) + 1 := by omega
 have b3w : IntKind.i64.wrap ((Ed.length : Int) + 1) = (Ed.length : Int) + 1 := by rw [IntKind.wrap_i64]; omega
 go_enter func17, ntmps17
 go_wp2_with (go_at_call 14; refine TE.mono ?_; rintro e w1 ⟨rfl, D1⟩; have H1 := A0 D1; clear D1 y0 y1 y2 y3 y4 x0 x1 x2 x3 x4; obtain ⟨⟨y2, y3, y4⟩, z1, z2, z3⟩ := SK.out w1 H1.out)
 go_ret
 exact ⟨rfl, HD.out.1.trans (H1.out.mono HD.out.1.size)⟩
end Go.Proofs.YtchoopnjckcohaaGreat
namespace Go.Proofs.YtchoopnjckcohaaGreat
open Tryz
open Go.RowKit
section
variable {P : Program} {ops : Array Oper} {Q : Exit → Act → World → Prop}
def NN (P : Program) (ops : Array Oper) (Q : Exit → Act → World → Prop) (w : World) (J : Bool → World → Prop) (i0 : Nat) (fill : (Nat → Value) → Act) (L : List It) (i : Nat) (o : Oper) : Prop :=
 ∀ (y : Nat → Value) (W : World) (b : Bool), ((i == i0 || BK .any ops ops.size i0 i) = true → b = false) → J b W → w.heap.size ≤ W.heap.size → (∀ e ∈ o.after, Region.binds .any e = true → KR e = true → ∃ lo hi, w.heap.size ≤ lo ∧ hi ≤ W.heap.size ∧ (Cf L e.on).p y lo hi W) →
  ∀ K : Act → World → Prop, Shut (∀ x a' W', JS J i0 b L i y W W' → (Cf L i).p (AK y i x) W.heap.size W'.heap.size W' → a' = fill (AK y i x) → K a' W') → if Region.wanted o (yielded ops (fill y).tmps) = true then Oper.wp P o (fill y) W K Q else K ((fill y).put o.dst undef) W
def Dh (P : Program) (ops : Array Oper) (Q : Exit → Act → World → Prop) (w : World) (J : Bool → World → Prop) (i0 : Nat) (fill : (Nat → Value) → Act) (L : List It) : Nat → List Oper → Prop
 | _, [] => True
 | k, o :: r => NN P ops Q w J i0 fill L k o ∧ Dh P ops Q w J i0 fill L (k + 1) r
theorem Dh.at {w : World} {J : Bool → World → Prop} {i0 : Nat} {fill : (Nat → Value) → Act} {L : List It} : ∀ (l : List Oper) (k i : Nat) (o : Oper), Dh P ops Q w J i0 fill L k l → l[i]? = some o → NN P ops Q w J i0 fill L (k + i) o
 | [], _, _, _, _, h => by simp at h
 | o' :: r, k, 0, o, H, h => by simp at h; subst h; exact H.1
 | o' :: r, k, i + 1, o, H, h => by
  have := Dh.at r (k + 1) i o H.2 (by simpa using h)
  rwa [show k + 1 + i = k + (i + 1) by omega] at this
theorem ME {w : World} {J : Bool → World → Prop} {i0 : Nat} {fill : (Nat → Value) → Act} {L : List It} {n : Nat} {l2 : List Oper} {l1 : List Oper}
 (hi0 : i0 < n) (hp : C9 .any ops n = true) (hdep : Gk ops n = true) (hret : I1 ops n (L.map It.ret) (L.map It.reads) = true) (hl1 : ∀ j o, l1[j]? = some o ↔ (j < n ∧ ops[j]? = some o)) (hl2 : ∀ j o, l2[j]? = some o → ops[n + j]? = some o)
 (hline : ∀ listed : Array Bool, listed.size = ops.size → (∀ i, listed.getD i true = decide (i < n ∨ ops.size ≤ i)) → CX .any ops l2.length n listed = true)
 (hmono : AJ 0 L) (hop : Dh P ops Q w J i0 fill L 0 l1)
 (hfin : ∀ y lo hi W, DH w J i0 L ops n (fun _ => true) y lo hi W → wpList P ops Q l2 (fill y) W) :
 ∀ (m : Nat) (x : Nat) (listed : Array Bool) (y : Nat → Value) (lo hi : Nat → Nat) (W : World), listed.size = ops.size → (∀ i, n ≤ i → i < ops.size → listed.getD i true = false) → BD .any ops listed → Ca (fun i => !listed.getD i true) n = m →
  DH w J i0 L ops n (fun i => listed.getD i true) y lo hi W → wpAny P .any ops Q (l2.length + m + x) listed (fill y) W := by
 intro m
 induction m with
 | zero =>
  intro x listed y lo hi W hsz hge hc hcnt hM
  have hall : ∀ i, i < n → listed.getD i true = true := fun i hi => by
   have := Dt n hcnt i hi
   simpa using this
  refine EN x n listed (fill y) W hl2 (hline listed hsz ?_) (hfin y lo hi W ?_)
  · intro i
    rcases Nat.lt_or_ge i n with h | h
    · rw [hall i h]; simp [h]
    · rcases Nat.lt_or_ge i ops.size with h2 | h2
      · rw [hge i h h2]; symm; simp; omega
      · rw [show listed.getD i true = true by simp [Array.getElem?_eq_none (show listed.size ≤ i by omega)]]; symm; simp; omega
  · exact ⟨by have q := hM.d; simp only [hall i0 hi0] at q; exact q, hM.sz, fun i hi _ hr => hM.fact i hi (hall i hi) (fun k hk _ => hr k hk rfl), fun i hi _ => hM.at' i hi (hall i hi), fun i j hi hj _ _ h => hM.apart i j hi hj (hall i hi) (hall j hj) h, fun j o e hj _ ho he hb => hM.order j o e hj (hall j hj) ho he hb⟩
 | succ m ih =>
  intro x listed y lo hi W hsz hge hc hcnt hM
  obtain ⟨i9, hi9, hf0, hless⟩ := CM (f := fun i => !listed.getD i true) n (by omega)
  have hun : listed.getD i9 true = false := by simpa using hf0
  obtain ⟨o0, ho0, hd0⟩ := Bk hdep hi9
  have hin : ∀ i, i < n → i < listed.size := fun i hi => by
   obtain ⟨o, ho, _⟩ := Bk hdep hi
   have := (Array.getElem?_eq_some_iff.1 ho).1
   omega
  have hready : i9 ∈ Region.ready .any ops listed := mem_ready.2 ⟨hun, o0, ho0, fun e he hb => by
   have h1 := hd0 e he hb
   have h2 := hless e.on h1
   have h3 : listed.getD e.on true = true := by simpa using h2
   have h4 := hin e.on (by omega)
   simpa [h4] using h3⟩
  rw [show l2.length + (m + 1) + x = (l2.length + m + x) + 1 by omega]
  refine ⟨fun h => (by rw [h] at hready; cases hready), fun j hj => ?_⟩
  have hjn : j < n := DC hp hc hi9 hun hj
  obtain ⟨hjun, oj, hoj, hall⟩ := mem_ready.1 hj
  have H := Dh.at l1 0 j oj hop ((hl1 j oj).2 ⟨hjn, hoj⟩)
  rw [Nat.zero_add] at H
  refine wpOp_step hoj (fun K' hK => H y W (listed.getD i0 true) (fun e => by
   cases hl : listed.getD i0 true with
   | false => rfl
   | true =>
    rw [Bool.or_eq_true] at e
    rcases e with e | e
    · rw [eq_of_beq e, hl] at hjun; cases hjun
    · have := Bj hc e hl
      rw [hjun] at this
      cases this) hM.d hM.sz (fun e he hb Ng => ?_) K' ?_)
  · have h1 := hall e he hb
    obtain ⟨o', ho', hd'⟩ := Bk hdep hjn
    rw [hoj] at ho'
    cases ho'
    have h2 := hd' e he hb
    have h3 := BQ _ _ h1
    refine ⟨lo e.on, hi e.on, (hM.at' e.on (by omega) h3).1, (hM.at' e.on (by omega) h3).2.2, hM.fact e.on (by omega) h3 (fun k hk hlk hmem => ?_)⟩
    have hkj : j ≠ k := fun h => by rw [h] at hjun; rw [hjun] at hlk; cases hlk
    have := Bj hc (He hret hk hjn hkj hmem hoj he hb Ng rfl) hlk
    rw [hjun] at this
    cases this
  · rintro v a' W' ⟨hD, hs2, hkeep⟩ hΦ rfl
    have hsj := hin j hjn
    have g1 : (listed.setIfInBounds j true).getD j true = true := by simp [hsj]
    refine hK _ _ ?_
    refine ih x (listed.setIfInBounds j true) (AK y j v) (fun i => if i = j then W.heap.size else lo i) (fun i => if i = j then W'.heap.size else hi i) W' (by simp [hsz]) (fun i h1 h2 => ?_) (hc.set hj) ?_ ?_
    · rw [getD_set_ne true (by omega)]; exact hge i h1 h2
    · have := Dv (f := fun i => !listed.getD i true) (g := fun i => !(listed.setIfInBounds j true).getD i true) (j := j) (by simp only [hjun]; rfl) (by simp only [g1]; rfl) (fun i hi => by simp only [getD_set_ne true (Ne.symm hi)]) n hjn
      omega
    · have old : ∀ i, i ≠ j → (listed.setIfInBounds j true).getD i true = true → listed.getD i true = true := fun i h1 h2 => by rwa [getD_set_ne true (Ne.symm h1)] at h2
      have new : ∀ i, listed.getD i true = true → (listed.setIfInBounds j true).getD i true = true := fun i h => by
       by_cases e : j = i
       · subst e; exact g1
       · rwa [getD_set_ne true e]
      have hs := hM.sz
      refine ⟨?_, Nat.le_trans hs hs2, fun i hi h hr => ?_, fun i hi h => ?_, fun i k hi hk h1 h2 hne => ?_, fun k o e hk h1 ho he hb => ?_⟩
      · show J ((listed.setIfInBounds j true).getD i0 true) W'
        by_cases e : j = i0
        · subst e; rw [g1]; simpa using hD
        · rw [getD_set_ne true e]; rw [show (j == i0) = false by simpa using e, Bool.false_or] at hD; exact hD
      · by_cases e : i = j
        · subst e; simp only [if_pos]; exact hΦ
        · simp only [if_neg e]
          have hli := old i e h
          have h5 := hkeep i e (hr j hjn g1) _ _ (hM.at' i hi hli).2.2 (hM.fact i hi hli (fun k hk hlk => hr k hk (new k hlk)))
          have h6 := AJ.at L 0 i hmono y (AK y j v) (lo i) _ W' W' (Nat.le_trans (hM.at' i hi hli).2.2 hs2) (Below.refl _ _) (fun q hq => by
           rw [Nat.zero_add] at hq
           have hne : q ≠ j := by
            rcases hq with hq | hq
            · rw [hq]; exact e
            · intro hqj
              have := Bj hc (FC hret hi hq) hli
              rw [hqj, hjun] at this
              cases this
           simp [AK, hne])
          exact h6 h5
      · by_cases e : i = j
        · subst e; simp only [if_pos]; exact ⟨hs, hs2, Nat.le_refl _⟩
        · simp only [if_neg e]; have := hM.at' i hi (old i e h); exact ⟨this.1, this.2.1, by omega⟩
      · by_cases e : i = j
        · have e2 : k ≠ j := fun h => hne (by rw [e, h])
          simp only [if_pos e, if_neg e2]
          exact Or.inr (hM.at' k hk (old k e2 h2)).2.2
        · by_cases e2 : k = j
          · simp only [if_neg e, if_pos e2]
            exact Or.inl (hM.at' i hi (old i e h1)).2.2
          · simp only [if_neg e, if_neg e2]
            exact hM.apart i k hi hk (old i e h1) (old k e2 h2) hne
      · obtain ⟨o', ho', hd'⟩ := Bk hdep hk
        rw [ho] at ho'
        cases ho'
        have hlt := hd' e he hb
        by_cases e1 : k = j
        · subst e1
          rw [hoj] at ho
          cases ho
          have h3 := BQ _ _ (hall e he hb)
          have e2 : e.on ≠ k := by omega
          simp only [if_pos, if_neg e2]
          exact (hM.at' e.on (by omega) h3).2.2
        · have h4 := old k e1 h1
          have h5 := BQ _ _ (hc k o ho h4 e he hb)
          have e2 : e.on ≠ j := fun h => by rw [h, hjun] at h5; cases h5
          simp only [if_neg e1, if_neg e2]
          exact hM.order k o e hk h4 ho he hb
theorem FQ {id : Nat} {a : Act} {w : World} {l : List Oper} (J : Bool → World → Prop) (i0 : Nat) (L : List It) (hi0 : Nat.blt i0 L.length = true) (hJ0 : J false (w.drewN 1)) (hm : P.follows .mixedOrders = true) (hB : MO l.toArray L.length (L.map It.ret) (L.map It.reads) = true) (hmono : AJ 0 L)
 (h : ∀ F : (Nat → Value) → Act, F = (fun y => Aw 0 (l.take L.length) y a) → Dh P l.toArray Q w J i0 F L 0 (l.take L.length) ∧ ∀ y lo hi W, DH w J i0 L l.toArray L.length (fun _ => true) y lo hi W → wpList P l.toArray Q (l.drop L.length) (F y) W) : (Code.region id l.toArray true).wp P Q a w := by
 unfold MO JF at hB
 simp only [Bool.and_eq_true] at hB
 obtain ⟨⟨⟨⟨h0, h2⟩, h3⟩, h4⟩, h5⟩ := hB
 have hn : L.length ≤ l.length := by simpa using Nat.le_of_ble_eq_true h0
 refine wp_region_any hm ?_
 have hl2 : (l.drop L.length).length = l.toArray.size - L.length := by simp
 have F := ME (P := P) (Q := Q) (w := w) (J := J) (i0 := i0) (fill := fun y => Aw 0 (l.take L.length) y a) (L := L) (n := L.length) (ops := l.toArray) (l1 := l.take L.length) (l2 := l.drop L.length) (by simpa using hi0) h2 h3 h5
  (fun j o => by
   rw [List.getElem?_take]
   split
   · rename_i h; simp [h]
   · rename_i h; constructor
     · intro h'; cases h'
     · intro h'; exact absurd h'.1 h)
  (fun j o ho => by rw [List.getElem?_drop] at ho; simpa using ho)
  (fun listed hs hg => by
   rw [hl2]
   have e : listed = Array.ofFn (n := l.toArray.size) fun i => decide (i.1 < L.length) := by
    refine Array.ext (by simp [hs]) (fun i h5 h6 => ?_)
    have := hg i
    simp only [Array.getElem_ofFn]
    have e1 : listed.getD i true = listed[i] := by simp [h5]
    rw [← e1, this]
    have : i < l.toArray.size := by omega
    by_cases h7 : i < L.length
    · simp [h7]
    · simp only [h7, false_or, decide_false, decide_eq_false_iff_not]; omega
   rw [e]; exact h4)
  hmono (h _ rfl).1 (h _ rfl).2 L.length 0 (Array.replicate l.toArray.size false) (EB l a) (fun _ => 0) (fun _ => 0) (w.drewN 1) (by simp) (fun i h5 h6 => by simp at h6; simp [h6]) (Cp _ _) ?_ ?_
 · have e : (l.drop L.length).length + L.length + 0 = l.toArray.size := by rw [hl2]; simp; omega
   rw [e, CS l a (l.take L.length) 0 (fun j o ho => by
    rw [List.getElem?_take] at ho
    split at ho
    · simpa using ho
    · cases ho)] at F
   exact F
 · have : ∀ k, k ≤ L.length → Ca (fun i => !(Array.replicate l.toArray.size false).getD i true) k = k := by
    intro k
    induction k with
    | zero => intro _; rfl
    | succ k ih =>
     intro hk
     have h5 : k < l.toArray.size := by simp; omega
     simp only [Ca]
     rw [ih (by omega)]
     have : (Array.replicate l.toArray.size false).getD k true = false := by simp at h5; simp [h5]
     simp only [this]; rfl
   exact this L.length (Nat.le_refl _)
 · have none : ∀ i, i < L.length → (Array.replicate l.toArray.size false).getD i true = true → False := fun i hi h => by
    have : i < l.length := by omega
    simp [this] at h
   have hi1 : i0 < l.length := by
    have : i0 < L.length := by simpa using hi0
    omega
   exact ⟨by simpa [hi1] using hJ0, Nat.le_refl _, fun i hi h => (none i hi h).elim, fun i hi h => (none i hi h).elim, fun i j hi _ h _ _ => (none i hi h).elim, fun j o e hj h _ _ _ => (none j hj h).elim⟩
def Pk (P : Program) (ops : Array Oper) (Q : Exit → Act → World → Prop) (w : World) (J : Bool → World → Prop) (i0 : Nat) (a : Act) (l : List Oper) (L : List It) (i : Nat) (o : Oper) : Prop :=
 ∀ (A : Act) (y : Nat → Value) (W : World) (b : Bool), (∀ (j : Nat) (o' : Oper) (d : Nat), l[j]? = some o' → o'.dst = some d → A.tmps.getD d undef = y j) → (∀ d, KS d l = false → A.tmps.getD d undef = a.tmps.getD d undef) → ((i == i0 || BK .any ops ops.size i0 i) = true → b = false) → J b W → w.heap.size ≤ W.heap.size → (∀ e ∈ o.after, Region.binds .any e = true → KR e = true → ∃ lo hi, w.heap.size ≤ lo ∧ hi ≤ W.heap.size ∧ (Cf L e.on).p y lo hi W) →
  ∀ K : Act → World → Prop, Shut (∀ x W', JS J i0 b L i y W W' → (Cf L i).p (AK y i x) W.heap.size W'.heap.size W' → K (A.put o.dst x) W') → if Region.wanted o (yielded ops A.tmps) = true then Oper.wp P o A W K Q else K (A.put o.dst undef) W
def Jb (P : Program) (ops : Array Oper) (Q : Exit → Act → World → Prop) (w : World) (J : Bool → World → Prop) (i0 : Nat) (a : Act) (l : List Oper) (L : List It) : Nat → List Oper → Prop
 | _, [] => True
 | k, o :: r => Pk P ops Q w J i0 a l L k o ∧ Jb P ops Q w J i0 a l L (k + 1) r
theorem GH {ops : Array Oper} {w : World} {J : Bool → World → Prop} {i0 : Nat} {a : Act} {l : List Oper} {L : List It} (hs : CQ a.tmps.size l = true) (h1 : CE l = true) : ∀ (r : List Oper) (k : Nat), (∀ j o, r[j]? = some o → l[k + j]? = some o) → Jb P ops Q w J i0 a l L k r → Dh P ops Q w J i0 (fun y => Aw 0 l y a) L k r
 | [], _, _, _ => trivial
 | o :: r, k, hl, H => by
  refine ⟨fun y W b hb d hz hd K hK => ?_, GH hs h1 r (k + 1) (fun j o' ho => by have := hl (j + 1) o' (by simpa using ho); rwa [show k + 1 + j = k + (j + 1) by omega]) H.2⟩
  have hk : l[k]? = some o := hl 0 o rfl
  refine H.1 (Aw 0 l y a) y W b (fun j o' d' hj hd' => ?_) (fun d' hd' => C2 l 0 y a d' hd') hb d hz hd K (fun x W' hst hp => ?_)
  · have hlt : d' < a.tmps.size := by
     unfold CQ at hs
     rw [List.all_eq_true] at hs
     have := hs o' (List.mem_of_getElem? hj)
     rw [hd'] at this
     simpa using this
    have := E6 l 0 j y a o' d' h1 hj hd' hlt
    rwa [Nat.zero_add] at this
  · refine hK x _ W' hst hp ?_
    have := Dr l 0 k y a o x h1 hk
    rwa [Nat.zero_add] at this
theorem Ht {id : Nat} {a : Act} {w : World} {l : List Oper} (J : Bool → World → Prop) (i0 : Nat) (L : List It) (hi0 : Nat.blt i0 L.length = true) (hJ0 : J false (w.drewN 1)) (hm : P.follows .mixedOrders = true) (hB : MO l.toArray L.length (L.map It.ret) (L.map It.reads) = true) (hO : CE (l.take L.length) = true) (hS : CQ a.tmps.size (l.take L.length) = true) (hmono : AJ 0 L)
 (hop : Jb P l.toArray Q w J i0 a (l.take L.length) L 0 (l.take L.length))
 (hfin : ∀ y lo hi W, DH w J i0 L l.toArray L.length (fun _ => true) y lo hi W → wpList P l.toArray Q (l.drop L.length) (Aw 0 (l.take L.length) y a) W) : (Code.region id l.toArray true).wp P Q a w :=
 FQ J i0 L hi0 hJ0 hm hB hmono (fun F hF => by
  subst hF
  exact ⟨GH hS hO _ 0 (fun j o ho => by rwa [Nat.zero_add]) hop, hfin⟩)
end
end Go.Proofs.YtchoopnjckcohaaGreat
namespace Go.Proofs.YtchoopnjckcohaaGreat
open Tryz
open Go.RowKit Go.Maps Go.Shelf
attribute [local go_sem] Oper.semAt_some
def KF (n x : Int) : Int := IntKind.i64.wrap (IntKind.i64.wrap (n - 1) - x)
def Dg (k j n : Int) (x : Int) : Int := if k = j then KF n x else x
def Ig (k : Int) (e : Aa) : Aa := if k = 2 then (e.2.2, e.2.1, e.1) else e
theorem Dw {α : Type} (L : List α) (i : Nat) : Bh id L i = L := by simp [Bh]
theorem ID {W : World} {B b n cap sz : Nat} {e : TypeId} {xs : List Value} (h : W.ownsRow B e sz (.slice (some ⟨b, 0, none⟩) n cap) n xs) (j : Nat) (u : Value) :
 (W.setCell ⟨b, j, none⟩ u).ownsRow B e sz (.slice (some ⟨b, 0, none⟩) n cap) n (xs.set j u) := by
 refine ⟨by rw [List.length_set]; exact h.1, ?_⟩
 rcases h.2 with ⟨z, _⟩ | ⟨g, cap', cur, e1, hb, hg, hn, hc, hs, ht⟩
 · cases z
 · cases e1
   refine .inr ⟨b, cap, _, rfl, hb, heap_setCell_same _ _ _ _ e _ hg, hn, hc, by simpa using hs, ?_⟩
   rw [← ht, Array.toList_setIfInBounds, List.take_set]
theorem Lt.only1 {B : Nat} {w w' : World} {g c p : Nat} {L : List Int} (h : Lt B w g c L) (o : Ab w w' (fun k => k = p)) (hp : g ≠ p) : Lt B w' g c L := ⟨h.le, BY h.rw o hp⟩
theorem Fo.only1 {B : Nat} {w w' : World} {g c p : Nat} {L : List Aa} (h : Fo B w g c L) (o : Ab w w' (fun k => k = p)) (hp : g ≠ p) : Fo B w' g c L := ⟨h.le, BY h.rw o hp⟩
def JE (wr : World) (B g3 k3 n3 i : Nat) (u : Value) (XS : List Value) : Bool → World → Prop := fun b W => Ab wr W (fun k => k = g3) ∧ W.ownsRow B 50 3 (.slice (some ⟨g3, 0, none⟩) (n3 + 1) k3) (n3 + 1) (bif b then XS.set (i * 3) u else XS)
theorem Ek {wr : World} {B g1 g2 g3 k3 n3 i : Nat} {u : Value} {XS : List Value} {b : Bool} {W : World} (d : JE wr B g3 k3 n3 i u XS b W) : Ab wr W (fun j => j = g1 ∨ j = g2 ∨ j = g3) := d.1.mono (fun _ _ h => Or.inr (Or.inr h))
theorem JO {wr : World} {B g3 k3 n3 i : Nat} {u v : Value} {XS : List Value} {W : World} (d : JE wr B g3 k3 n3 i u XS false W) (h : XS[i * 3]? = some v) : W.cell? ⟨g3, i * 3, none⟩ = some v := BS d.2 h
theorem NC {wr : World} {B g3 k3 n3 i : Nat} {u v : Value} {XS : List Value} {b : Bool} {W : World} (d : JE wr B g3 k3 n3 i u XS b W) (h : XS[i * 3 + 2]? = some v) : W.cell? ⟨g3, i * 3 + 2, none⟩ = some v := by
 refine BS d.2 ?_
 cases b with
 | false => exact h
 | true =>
  show (XS.set (i * 3) u)[i * 3 + 2]? = some v
  rw [List.getElem?_set_ne (by omega)]
  exact h
theorem Oo {wr : World} {B g3 k3 n3 i : Nat} {u : Value} {XS : List Value} {W : World} (d : JE wr B g3 k3 n3 i u XS false W) : JE wr B g3 k3 n3 i u XS true (W.setCell ⟨g3, i * 3, none⟩ u) := ⟨d.1.trans (Ah _ _ _ _), ID d.2 (i * 3) u⟩
theorem Jw (f : Aa → Aa) (L M : List Aa) (i : Nat) (h : i < L.length) : (Bh f L i ++ M)[i]? = some L[i] := by
 rw [List.getElem?_append_left (by rw [Cx]; exact h), IE f L i h]
theorem IG (f : Aa → Aa) (L : List Aa) (i : Nat) (h : i < L.length) : ((Bh f L i ++ [((-77 : Int), (0 : Int), (0 : Int))]).flatMap Ae)[i * 3]? = some (.int .i64 L[i].1) ∧ ((Bh f L i ++ [((-77 : Int), (0 : Int), (0 : Int))]).flatMap Ae)[i * 3 + 2]? = some (.int .i64 L[i].2.2) := by
 have hl : i < (Bh f L i ++ [((-77 : Int), (0 : Int), (0 : Int))]).length := by rw [List.length_append, Cx]; omega
 have e := Jw f L [((-77 : Int), (0 : Int), (0 : Int))] i h
 rw [List.getElem?_eq_getElem hl, Option.some.injEq] at e
 constructor
 · rw [CL _ _ (by omega)]
   simp only [show i * 3 / 3 = i by omega, show i * 3 % 3 = 0 by omega, e]
   rfl
 · rw [CL _ _ (by omega)]
   simp only [show (i * 3 + 2) / 3 = i by omega, show (i * 3 + 2) % 3 = 2 by omega, e]
   rfl
theorem LT (X : List Aa) (i : Nat) (h : i < X.length) (a c : Int) : ((X.flatMap Ae).set (i * 3) (.int .i64 a)).set (i * 3 + 2) (.int .i64 c) = (X.set i (a, X[i].2.1, c)).flatMap Ae := by
 apply List.ext_getElem?
 intro t
 have hX := Gy X
 by_cases hq : t / 3 < X.length
 · rw [CL _ t (by rw [List.length_set]; exact hq), List.getElem_set, List.getElem?_set, List.getElem?_set]
   by_cases hj : i = t / 3
   · rw [if_pos hj]
     subst hj
     have : t = t / 3 * 3 ∨ t = t / 3 * 3 + 1 ∨ t = t / 3 * 3 + 2 := by omega
     rcases this with h5 | h5 | h5
     · rw [if_neg (by omega), if_pos (by omega), if_pos (by omega), show t % 3 = 0 by omega]; rfl
     · rw [if_neg (by omega), if_neg (by omega), CL X t hq, show t % 3 = 1 by omega]; rfl
     · rw [if_pos (by omega), if_pos (by rw [List.length_set]; omega), show t % 3 = 2 by omega]; rfl
   · rw [if_neg hj, if_neg (by omega), if_neg (by omega), CL X t hq]
 · rw [J1 _ t (by rw [List.length_set]; exact hq), List.getElem?_eq_none (by rw [List.length_set, List.length_set]; omega)]
theorem Kn {f : Aa → Aa} {L : List Aa} {i : Nat} (h : i < L.length) (hf : f L[i] = (L[i].2.2, L[i].2.1, L[i].1)) : (((Bh f L i ++ [((-77 : Int), (0 : Int), (0 : Int))]).flatMap Ae).set (i * 3) (.int .i64 L[i].2.2)).set (i * 3 + 2) (.int .i64 L[i].1) = (Bh f L (i + 1) ++ [((-77 : Int), (0 : Int), (0 : Int))]).flatMap Ae := by
 have hl : i < (Bh f L i ++ [((-77 : Int), (0 : Int), (0 : Int))]).length := by rw [List.length_append, Cx]; omega
 have e := Jw f L [((-77 : Int), (0 : Int), (0 : Int))] i h
 rw [List.getElem?_eq_getElem hl, Option.some.injEq] at e
 rw [LT _ i hl, e, ← hf, List.set_append_left _ _ (by rw [Cx]; exact h), Iy f L i h]
theorem EW (w : World) (B : Nat) (k n m : Int) (g1 k1 g2 k2 g3 k3 n1 n2 n3 : Nat) (St Fi : List Int) (Ed : List Aa) (HN : Hid (St.length = n1 ∧ Fi.length = n2 ∧ Ed.length = n3)) (hL : Hid (Dd B w g1 k1 g2 k2 g3 k3 St Fi Ed)) (h1 : n1 ≤ 4000000) (h2 : n2 ≤ 4000000) (h3 : n3 ≤ 4000000) :
 Calls prog 27 #[.int .i64 k, .agg #[.int .i64 n, .int .i64 m, .slice (some ⟨g1, 0, none⟩) n1 k1, .slice (some ⟨g2, 0, none⟩) n2 k2, .slice (some ⟨g3, 0, none⟩) n3 k3]] w fun e w' => e = .returned (.tuple #[]) ∧ Hid (Dd B w' g1 k1 g2 k2 g3 k3 (St.map (Dg k 0 n)) (Fi.map (Dg k 1 n)) (Ed.map (Ig k))) ∧ Hid (Ab w w' (fun j => j = g1 ∨ j = g2 ∨ j = g3)) := by
 obtain ⟨W0, hW0⟩ : ∃ X, w.alloc (.cells #[.int .i64 n, .int .i64 m, .slice (some ⟨g1, 0, none⟩) n1 k1, .slice (some ⟨g2, 0, none⟩) n2 k2, .slice (some ⟨g3, 0, none⟩) n3 k3] 25) = X := ⟨_, rfl⟩
 have HD : Hid (W0.heap[w.heap.size]? = some (.cells #[.int .i64 n, .int .i64 m, .slice (some ⟨g1, 0, none⟩) n1 k1, .slice (some ⟨g2, 0, none⟩) n2 k2, .slice (some ⟨g3, 0, none⟩) n3 k3] 25 (0, 0)) ∧ Below w.heap.size w W0) := A0 (by rw [← hW0]; exact ⟨World.alloc_heap_new _ _, (Below.refl _ _).alloc (Nat.le_refl _) _⟩)
 have HT0 := A0 (hL.out.on HD.out.2)
 have HW0 : Hid (Lt B W0 g1 k1 St ∧ Lt B W0 g2 k2 Fi ∧ Fo B W0 g3 k3 Ed) := A0 ⟨HT0.out.s, HT0.out.f, HT0.out.e⟩
 have HO0 : Hid (Ab w W0 (fun j => j = g1 ∨ j = g2 ∨ j = g3)) := A0 (Ab.ofBelow HD.out.2)
 have g1l := hL.out.s.lt
 have g2l := hL.out.f.lt
 have g3l := hL.out.e.lt
 have SK : Hid (∀ W, Ab W0 W (fun j => j = g1 ∨ j = g2 ∨ j = g3) → W.cell? ⟨w.heap.size, 0, none⟩ = some (.int .i64 n) ∧ W.cell? ⟨w.heap.size, 1, none⟩ = some (.int .i64 m) ∧ W.cell? ⟨w.heap.size, 2, none⟩ = some (.slice (some ⟨g1, 0, none⟩) n1 k1) ∧ W.cell? ⟨w.heap.size, 3, none⟩ = some (.slice (some ⟨g2, 0, none⟩) n2 k2) ∧ W.cell? ⟨w.heap.size, 4, none⟩ = some (.slice (some ⟨g3, 0, none⟩) n3 k3)) := A0 (fun W o => by
  have e := o.cellK HD.out.1 (by omega)
  exact ⟨A1 e rfl, A1 e rfl, A1 e rfl, A1 e rfl, A1 e rfl⟩)
 clear g1l g2l g3l HT0
 obtain ⟨y0, y1, y2, y3, y4⟩ := SK.out W0 ⟨rfl, rfl, rfl, Nat.le_refl _, fun _ _ _ => rfl⟩
 go_enter func27, ntmps27
 go_wp2_with fail
 go_loopw [10] (fun iv wr => ∃ i : Nat, i ≤ n1 ∧ iv = .int .i64 (i : Int) ∧ Hid (wr.ownsRow B 3 1 (.slice (some ⟨g1, 0, none⟩) (n1 + 1) k1) (n1 + 1) ((Bh (Dg k 0 n) St i ++ [-77]).map (Value.int .i64)) ∧ Ab W0 wr (fun j => j = g1 ∨ j = g2 ∨ j = g3) ∧ Ab W0 wr (fun j => j = g1))) (fun iv _ => n1 - (intOf iv).toNat)
 case atStart => exact ⟨0, Nat.zero_le _, rfl, A0 ⟨by rw [EQ, ← HN.out.1]; exact HW0.out.1.rw, ⟨rfl, rfl, rfl, Nat.le_refl _, fun _ _ _ => rfl⟩, ⟨rfl, rfl, rfl, Nat.le_refl _, fun _ _ _ => rfl⟩⟩⟩
 case round =>
  obtain ⟨i, hi, rfl, HY⟩ := hrel
  clear y0 y1 y2 y3 y4
  have HYO := A0 HY.out.1
  have HYB := A0 HY.out.2.1
  have HYC := A0 HY.out.2.2
  clear HY
  obtain ⟨y0, y1, y2, y3, y4⟩ := SK.out wr HYB.out
  by_cases hlt : i < n1
  · have l0 : (i : Int) < (n1 : Int) := by omega
    have l1 : (0 : Int) ≤ (i : Int) := by omega
    have iw1 : IntKind.i64.wrap ((i : Int) + 1) = (i : Int) + 1 := by rw [IntKind.wrap_i64]; omega
    have hlL : i < St.length := by have := HN.out.1; omega
    by_cases hk : k = 0
    · have HT : Hid ((((Bh (Dg k 0 n) St i ++ [-77]).map (Value.int .i64)).set i (.int .i64 (KF n St[i])) = (Bh (Dg k 0 n) St (i + 1) ++ [-77]).map (Value.int .i64))) := A0 (by
       have := IA (Dg k 0 n) St [-77] i hlL
       rw [show (Dg k 0 n) St[i] = KF n St[i] from if_pos hk] at this
       exact this)
      have HG := A0 (Iu (Dg k 0 n) St [-77] i hlL)
      have q2 := BS HYO.out HG.out
      generalize St[i] = x at HG HT q2
      subst hk
      go_upto_region 5 with fail
      clear y0 y1 y2 y3 y4
      have hmo : AJ 0 [vI 0 (.pointer (some ⟨w.heap.size, 2, none⟩)), vI 1 (.slice (some ⟨g1, 0, none⟩) n1 k1), vI 2 (.int .i64 (i : Int)), vI 3 (.pointer (some ⟨w.heap.size, 0, none⟩)), vI 4 (.int .i64 n), vI 5 (.int .i64 (IntKind.i64.wrap (n - 1))), vI 6 (.pointer (some ⟨w.heap.size, 2, none⟩)), vI 7 (.slice (some ⟨g1, 0, none⟩) n1 k1), vI 8 (.int .i64 (i : Int)), vI 9 (.pointer (some ⟨g1, i, none⟩)), vI 10 (.int .i64 x), vI 11 (.int .i64 (KF n x))] := ⟨A2 _ _, A2 _ _, A2 _ _, A2 _ _, A2 _ _, A2 _ _, A2 _ _, A2 _ _, A2 _ _, A2 _ _, A2 _ _, A2 _ _, trivial⟩
      refine Aj _ (by kernel_rfl) (by kernel_rfl) (by kernel_rfl) (by kernel_rfl) hmo ⟨?o0, ?o1, ?o2, ?o3, ?o4, ?o5, ?o6, ?o7, ?o8, ?o9, ?o10, ?o11, trivial⟩ ?fin
      case o0 =>
       intro At yy W hy hb d hd K hK
       obtain ⟨s3, s3'⟩ := AG (hb 3 rfl : _ = .pointer (some ⟨w.heap.size, 0, none⟩))
       clear hd hy hb
       go_simp
       exact Ak hK hmo d (if_pos rfl)
      case o1 =>
       intro At yy W hy hb d hd K hK
       obtain ⟨s15, s15'⟩ := Ao 0 15 .data hy hd rfl
       clear hd hy hb
       obtain ⟨y0, y1, y2, y3, y4⟩ := SK.out W (HYB.out.andNew (Ab.ofBelow (R := fun _ => False) d) (fun _ _ h => h.elim))
       go_simp
       exact Ak hK hmo d (if_pos rfl)
      case o2 =>
       intro At yy W hy hb d hd K hK
       obtain ⟨s4, s4'⟩ := AG (hb 4 rfl : _ = .int .i64 (i : Int))
       clear hd hy hb
       go_simp
       exact Ak hK hmo d (if_pos rfl)
      case o3 =>
       intro At yy W hy hb d hd K hK
       obtain ⟨s3, s3'⟩ := AG (hb 3 rfl : _ = .pointer (some ⟨w.heap.size, 0, none⟩))
       clear hd hy hb
       go_simp
       exact Ak hK hmo d (if_pos rfl)
      case o4 =>
       intro At yy W hy hb d hd K hK
       obtain ⟨s18, s18'⟩ := Ao 3 18 .data hy hd rfl
       clear hd hy hb
       obtain ⟨y0, y1, y2, y3, y4⟩ := SK.out W (HYB.out.andNew (Ab.ofBelow (R := fun _ => False) d) (fun _ _ h => h.elim))
       go_simp
       exact Ak hK hmo d (if_pos rfl)
      case o5 =>
       intro At yy W hy hb d hd K hK
       obtain ⟨s19, s19'⟩ := Ao 4 19 .data hy hd rfl
       clear hd hy hb
       go_simp
       exact Ak hK hmo d (if_pos rfl)
      case o6 =>
       intro At yy W hy hb d hd K hK
       obtain ⟨s3, s3'⟩ := AG (hb 3 rfl : _ = .pointer (some ⟨w.heap.size, 0, none⟩))
       clear hd hy hb
       go_simp
       exact Ak hK hmo d (if_pos rfl)
      case o7 =>
       intro At yy W hy hb d hd K hK
       obtain ⟨s21, s21'⟩ := Ao 6 21 .data hy hd rfl
       clear hd hy hb
       obtain ⟨y0, y1, y2, y3, y4⟩ := SK.out W (HYB.out.andNew (Ab.ofBelow (R := fun _ => False) d) (fun _ _ h => h.elim))
       go_simp
       exact Ak hK hmo d (if_pos rfl)
      case o8 =>
       intro At yy W hy hb d hd K hK
       obtain ⟨s4, s4'⟩ := AG (hb 4 rfl : _ = .int .i64 (i : Int))
       clear hd hy hb
       go_simp
       exact Ak hK hmo d (if_pos rfl)
      case o9 =>
       intro At yy W hy hb d hd K hK
       obtain ⟨s22, s22'⟩ := Ao 7 22 .data hy hd rfl
       obtain ⟨s23, s23'⟩ := Ao 8 23 .data hy hd rfl
       clear hd hy hb
       go_simp
       exact Ak hK hmo d (if_pos rfl)
      case o10 =>
       intro At yy W hy hb d hd K hK
       obtain ⟨s24, s24'⟩ := Ao 9 24 .data hy hd rfl
       clear hd hy hb
       have q0 := (d.cell (p := ⟨g1, i, none⟩) (World.block_lt_of_cell? wr _ q2)).trans q2
       go_simp
       exact Ak hK hmo d (if_pos rfl)
      case o11 =>
       intro At yy W hy hb d hd K hK
       obtain ⟨s20, s20'⟩ := Ao 5 20 .data hy hd rfl
       obtain ⟨s25, s25'⟩ := Ao 10 25 .data hy hd rfl
       clear hd hy hb
       go_simp
       exact Ak hK hmo d (if_pos rfl)
      case fin =>
       intro yy lo hi W hM
       show wpList _ _ _ [_, _] _ _
       have e0 := hM.v 0 (by simp) rfl rfl rfl
       have e1 := hM.v 1 (by simp) rfl rfl rfl
       have e2 := hM.v 2 (by simp) rfl rfl rfl
       have e3 := hM.v 3 (by simp) rfl rfl rfl
       have e4 := hM.v 4 (by simp) rfl rfl rfl
       have e5 := hM.v 5 (by simp) rfl rfl rfl
       have e6 := hM.v 6 (by simp) rfl rfl rfl
       have e7 := hM.v 7 (by simp) rfl rfl rfl
       have e8 := hM.v 8 (by simp) rfl rfl rfl
       have e9 := hM.v 9 (by simp) rfl rfl rfl
       have e10 := hM.v 10 (by simp) rfl rfl rfl
       have e11 := hM.v 11 (by simp) rfl rfl rfl
       have OW := A0 (A6 HYO.out hM.d)
       have OnW := A0 (HYB.out.andNew (Ab.ofBelow (R := fun _ => False) hM.d) (fun _ _ h => h.elim))
       have OnC := A0 (HYC.out.andNew (Ab.ofBelow (R := fun _ => False) hM.d) (fun _ _ h => h.elim))
       have z1 := BS OW.out HG.out
       have z2 := HH OW.out i
       have HV := A0 (If OW.out i (.int .i64 (KF n x)))
       rw [HT.out] at HV
       simp only [Aw, Act.put, List.take, List.length, List.setIfInBounds_toArray, List.set_cons_zero, List.set_cons_succ, e0, e1, e2, e3, e4, e5, e6, e7, e8, e9, e10, e11]
       clear hM hmo e0 e1 e2 e3 e4 e5 e6 e7 e8 e9 e10 e11
       go_wp2_with fail
       go_roundw
       case rel => exact ⟨i + 1, by omega, by go_num, A0 ⟨HV.out, OnW.out.andNew (Ah W g1 i (.int .i64 (KF n x))) (fun j _ hj => Or.inl hj), OnC.out.andNew (Ah W g1 i (.int .i64 (KF n x))) (fun j _ hj => hj)⟩⟩
       case measure => simp [intOf]; omega
    · have HT : Hid (Bh (Dg k 0 n) St (i + 1) = Bh (Dg k 0 n) St i) := A0 (by
       rw [show (Dg k 0 n) = id from funext fun _ => if_neg hk, Dw, Dw])
      have hk2 : (k == 0) = false := by simpa using hk
      go_wp2_with fail
      go_roundw
      case rel => exact ⟨i + 1, by omega, by go_num, A0 ⟨by rw [HT.out]; exact HYO.out, HYB.out, HYC.out⟩⟩
      case measure => simp [intOf]; omega
  · have l0 : ¬ (i : Int) < (n1 : Int) := by omega
    obtain rfl : i = n1 := by omega
    obtain ⟨W1, hW1⟩ : ∃ X, wr = X := ⟨_, rfl⟩
    rw [hW1] at HYO HYB HYC y0 y1 y2 y3 y4 ⊢
    have HW1 : Hid (Lt B W1 g1 k1 (St.map (Dg k 0 n)) ∧ Lt B W1 g2 k2 Fi ∧ Fo B W1 g3 k3 Ed ∧ Ab W0 W1 (fun j => j = g1 ∨ j = g2 ∨ j = g3)) := A0 ⟨⟨by rw [List.length_map]; exact hL.out.s.le, by have := HYO.out; rw [← HN.out.1, EP] at this; rw [List.length_map]; exact this⟩, HW0.out.2.1.only1 HYC.out (fun e => hL.out.n12 e.symm), HW0.out.2.2.only1 HYC.out (fun e => hL.out.n13 e.symm), HYB.out⟩
    clear hW1 HYO HYB HYC HW0
    go_wp2_with fail
    go_loopw [32] (fun iv wr => ∃ i : Nat, i ≤ n2 ∧ iv = .int .i64 (i : Int) ∧ Hid (wr.ownsRow B 3 1 (.slice (some ⟨g2, 0, none⟩) (n2 + 1) k2) (n2 + 1) ((Bh (Dg k 1 n) Fi i ++ [-77]).map (Value.int .i64)) ∧ Ab W0 wr (fun j => j = g1 ∨ j = g2 ∨ j = g3) ∧ Ab W1 wr (fun j => j = g2))) (fun iv _ => n2 - (intOf iv).toNat)
    case atStart => exact ⟨0, Nat.zero_le _, rfl, A0 ⟨by rw [EQ, ← HN.out.2.1]; exact HW1.out.2.1.rw, HW1.out.2.2.2, ⟨rfl, rfl, rfl, Nat.le_refl _, fun _ _ _ => rfl⟩⟩⟩
    case round =>
     obtain ⟨i, hi, rfl, HY⟩ := hrel
     clear y0 y1 y2 y3 y4
     have HYO := A0 HY.out.1
     have HYB := A0 HY.out.2.1
     have HYC := A0 HY.out.2.2
     clear HY
     obtain ⟨y0, y1, y2, y3, y4⟩ := SK.out wr HYB.out
     by_cases hlt : i < n2
     · have l0 : (i : Int) < (n2 : Int) := by omega
       have l1 : (0 : Int) ≤ (i : Int) := by omega
       have iw1 : IntKind.i64.wrap ((i : Int) + 1) = (i : Int) + 1 := by rw [IntKind.wrap_i64]; omega
       have hlL : i < Fi.length := by have := HN.out.2.1; omega
       by_cases hk : k = 1
       · have HT : Hid ((((Bh (Dg k 1 n) Fi i ++ [-77]).map (Value.int .i64)).set i (.int .i64 (KF n Fi[i])) = (Bh (Dg k 1 n) Fi (i + 1) ++ [-77]).map (Value.int .i64))) := A0 (by
          have := IA (Dg k 1 n) Fi [-77] i hlL
          rw [show (Dg k 1 n) Fi[i] = KF n Fi[i] from if_pos hk] at this
          exact this)
         have HG := A0 (Iu (Dg k 1 n) Fi [-77] i hlL)
         have q2 := BS HYO.out HG.out
         generalize Fi[i] = x at HG HT q2
         subst hk
         go_upto_region 11 with fail
         clear y0 y1 y2 y3 y4
         have hmo : AJ 0 [vI 0 (.pointer (some ⟨w.heap.size, 3, none⟩)), vI 1 (.slice (some ⟨g2, 0, none⟩) n2 k2), vI 2 (.int .i64 (i : Int)), vI 3 (.pointer (some ⟨w.heap.size, 0, none⟩)), vI 4 (.int .i64 n), vI 5 (.int .i64 (IntKind.i64.wrap (n - 1))), vI 6 (.pointer (some ⟨w.heap.size, 3, none⟩)), vI 7 (.slice (some ⟨g2, 0, none⟩) n2 k2), vI 8 (.int .i64 (i : Int)), vI 9 (.pointer (some ⟨g2, i, none⟩)), vI 10 (.int .i64 x), vI 11 (.int .i64 (KF n x))] := ⟨A2 _ _, A2 _ _, A2 _ _, A2 _ _, A2 _ _, A2 _ _, A2 _ _, A2 _ _, A2 _ _, A2 _ _, A2 _ _, A2 _ _, trivial⟩
         refine Aj _ (by kernel_rfl) (by kernel_rfl) (by kernel_rfl) (by kernel_rfl) hmo ⟨?o0, ?o1, ?o2, ?o3, ?o4, ?o5, ?o6, ?o7, ?o8, ?o9, ?o10, ?o11, trivial⟩ ?fin
         case o0 =>
          intro At yy W hy hb d hd K hK
          obtain ⟨s3, s3'⟩ := AG (hb 3 rfl : _ = .pointer (some ⟨w.heap.size, 0, none⟩))
          clear hd hy hb
          go_simp
          exact Ak hK hmo d (if_pos rfl)
         case o1 =>
          intro At yy W hy hb d hd K hK
          obtain ⟨s37, s37'⟩ := Ao 0 37 .data hy hd rfl
          clear hd hy hb
          obtain ⟨y0, y1, y2, y3, y4⟩ := SK.out W (HYB.out.andNew (Ab.ofBelow (R := fun _ => False) d) (fun _ _ h => h.elim))
          go_simp
          exact Ak hK hmo d (if_pos rfl)
         case o2 =>
          intro At yy W hy hb d hd K hK
          obtain ⟨s5, s5'⟩ := AG (hb 5 rfl : _ = .int .i64 (i : Int))
          clear hd hy hb
          go_simp
          exact Ak hK hmo d (if_pos rfl)
         case o3 =>
          intro At yy W hy hb d hd K hK
          obtain ⟨s3, s3'⟩ := AG (hb 3 rfl : _ = .pointer (some ⟨w.heap.size, 0, none⟩))
          clear hd hy hb
          go_simp
          exact Ak hK hmo d (if_pos rfl)
         case o4 =>
          intro At yy W hy hb d hd K hK
          obtain ⟨s40, s40'⟩ := Ao 3 40 .data hy hd rfl
          clear hd hy hb
          obtain ⟨y0, y1, y2, y3, y4⟩ := SK.out W (HYB.out.andNew (Ab.ofBelow (R := fun _ => False) d) (fun _ _ h => h.elim))
          go_simp
          exact Ak hK hmo d (if_pos rfl)
         case o5 =>
          intro At yy W hy hb d hd K hK
          obtain ⟨s41, s41'⟩ := Ao 4 41 .data hy hd rfl
          clear hd hy hb
          go_simp
          exact Ak hK hmo d (if_pos rfl)
         case o6 =>
          intro At yy W hy hb d hd K hK
          obtain ⟨s3, s3'⟩ := AG (hb 3 rfl : _ = .pointer (some ⟨w.heap.size, 0, none⟩))
          clear hd hy hb
          go_simp
          exact Ak hK hmo d (if_pos rfl)
         case o7 =>
          intro At yy W hy hb d hd K hK
          obtain ⟨s43, s43'⟩ := Ao 6 43 .data hy hd rfl
          clear hd hy hb
          obtain ⟨y0, y1, y2, y3, y4⟩ := SK.out W (HYB.out.andNew (Ab.ofBelow (R := fun _ => False) d) (fun _ _ h => h.elim))
          go_simp
          exact Ak hK hmo d (if_pos rfl)
         case o8 =>
          intro At yy W hy hb d hd K hK
          obtain ⟨s5, s5'⟩ := AG (hb 5 rfl : _ = .int .i64 (i : Int))
          clear hd hy hb
          go_simp
          exact Ak hK hmo d (if_pos rfl)
         case o9 =>
          intro At yy W hy hb d hd K hK
          obtain ⟨s44, s44'⟩ := Ao 7 44 .data hy hd rfl
          obtain ⟨s45, s45'⟩ := Ao 8 45 .data hy hd rfl
          clear hd hy hb
          go_simp
          exact Ak hK hmo d (if_pos rfl)
         case o10 =>
          intro At yy W hy hb d hd K hK
          obtain ⟨s46, s46'⟩ := Ao 9 46 .data hy hd rfl
          clear hd hy hb
          have q0 := (d.cell (p := ⟨g2, i, none⟩) (World.block_lt_of_cell? wr _ q2)).trans q2
          go_simp
          exact Ak hK hmo d (if_pos rfl)
         case o11 =>
          intro At yy W hy hb d hd K hK
          obtain ⟨s42, s42'⟩ := Ao 5 42 .data hy hd rfl
          obtain ⟨s47, s47'⟩ := Ao 10 47 .data hy hd rfl
          clear hd hy hb
          go_simp
          exact Ak hK hmo d (if_pos rfl)
         case fin =>
          intro yy lo hi W hM
          show wpList _ _ _ [_, _] _ _
          have e0 := hM.v 0 (by simp) rfl rfl rfl
          have e1 := hM.v 1 (by simp) rfl rfl rfl
          have e2 := hM.v 2 (by simp) rfl rfl rfl
          have e3 := hM.v 3 (by simp) rfl rfl rfl
          have e4 := hM.v 4 (by simp) rfl rfl rfl
          have e5 := hM.v 5 (by simp) rfl rfl rfl
          have e6 := hM.v 6 (by simp) rfl rfl rfl
          have e7 := hM.v 7 (by simp) rfl rfl rfl
          have e8 := hM.v 8 (by simp) rfl rfl rfl
          have e9 := hM.v 9 (by simp) rfl rfl rfl
          have e10 := hM.v 10 (by simp) rfl rfl rfl
          have e11 := hM.v 11 (by simp) rfl rfl rfl
          have OW := A0 (A6 HYO.out hM.d)
          have OnW := A0 (HYB.out.andNew (Ab.ofBelow (R := fun _ => False) hM.d) (fun _ _ h => h.elim))
          have OnC := A0 (HYC.out.andNew (Ab.ofBelow (R := fun _ => False) hM.d) (fun _ _ h => h.elim))
          have z1 := BS OW.out HG.out
          have z2 := HH OW.out i
          have HV := A0 (If OW.out i (.int .i64 (KF n x)))
          rw [HT.out] at HV
          simp only [Aw, Act.put, List.take, List.length, List.setIfInBounds_toArray, List.set_cons_zero, List.set_cons_succ, e0, e1, e2, e3, e4, e5, e6, e7, e8, e9, e10, e11]
          clear hM hmo e0 e1 e2 e3 e4 e5 e6 e7 e8 e9 e10 e11
          go_wp2_with fail
          go_roundw
          case rel => exact ⟨i + 1, by omega, by go_num, A0 ⟨HV.out, OnW.out.andNew (Ah W g2 i (.int .i64 (KF n x))) (fun j _ hj => Or.inr (Or.inl hj)), OnC.out.andNew (Ah W g2 i (.int .i64 (KF n x))) (fun j _ hj => hj)⟩⟩
          case measure => simp [intOf]; omega
       · have HT : Hid (Bh (Dg k 1 n) Fi (i + 1) = Bh (Dg k 1 n) Fi i) := A0 (by
          rw [show (Dg k 1 n) = id from funext fun _ => if_neg hk, Dw, Dw])
         have hk2 : (k == 1) = false := by simpa using hk
         go_wp2_with fail
         go_roundw
         case rel => exact ⟨i + 1, by omega, by go_num, A0 ⟨by rw [HT.out]; exact HYO.out, HYB.out, HYC.out⟩⟩
         case measure => simp [intOf]; omega
     · have l0 : ¬ (i : Int) < (n2 : Int) := by omega
       obtain rfl : i = n2 := by omega
       obtain ⟨W2, hW2⟩ : ∃ X, wr = X := ⟨_, rfl⟩
       rw [hW2] at HYO HYB HYC y0 y1 y2 y3 y4 ⊢
       have HW2 : Hid (Lt B W2 g1 k1 (St.map (Dg k 0 n)) ∧ Lt B W2 g2 k2 (Fi.map (Dg k 1 n)) ∧ Fo B W2 g3 k3 Ed ∧ Ab W0 W2 (fun j => j = g1 ∨ j = g2 ∨ j = g3)) := A0 ⟨HW1.out.1.only1 HYC.out hL.out.n12, ⟨by rw [List.length_map]; exact hL.out.f.le, by have := HYO.out; rw [← HN.out.2.1, EP] at this; rw [List.length_map]; exact this⟩, HW1.out.2.2.1.only1 HYC.out (fun e => hL.out.n23 e.symm), HYB.out⟩
       clear hW2 HYO HYB HYC HW1
       go_wp2_with fail
       go_loopw [54] (fun iv wr => ∃ i : Nat, i ≤ n3 ∧ iv = .int .i64 (i : Int) ∧ Hid (wr.ownsRow B 50 3 (.slice (some ⟨g3, 0, none⟩) (n3 + 1) k3) (n3 + 1) ((Bh (Ig k) Ed i ++ [(-77, 0, 0)]).flatMap Ae) ∧ Ab W0 wr (fun j => j = g1 ∨ j = g2 ∨ j = g3) ∧ Ab W2 wr (fun j => j = g3))) (fun iv _ => n3 - (intOf iv).toNat)
       case atStart => exact ⟨0, Nat.zero_le _, rfl, A0 ⟨by rw [EQ, ← HN.out.2.2]; exact HW2.out.2.2.1.rw, HW2.out.2.2.2, ⟨rfl, rfl, rfl, Nat.le_refl _, fun _ _ _ => rfl⟩⟩⟩
       case round =>
        obtain ⟨i, hi, rfl, HY⟩ := hrel
        clear y0 y1 y2 y3 y4
        have HYO := A0 HY.out.1
        have HYB := A0 HY.out.2.1
        have HYC := A0 HY.out.2.2
        clear HY
        obtain ⟨y0, y1, y2, y3, y4⟩ := SK.out wr HYB.out
        by_cases hlt : i < n3
        · have l0 : (i : Int) < (n3 : Int) := by omega
          have l1 : (0 : Int) ≤ (i : Int) := by omega
          have iw1 : IntKind.i64.wrap ((i : Int) + 1) = (i : Int) + 1 := by rw [IntKind.wrap_i64]; omega
          have hlL : i < Ed.length := by have := HN.out.2.2; omega
          by_cases hk : k = 2
          · have HT : Hid ((((Bh (Ig k) Ed i ++ [(-77, 0, 0)]).flatMap Ae).set (i * 3) (.int .i64 Ed[i].2.2)).set (i * 3 + 2) (.int .i64 Ed[i].1) = (Bh (Ig k) Ed (i + 1) ++ [(-77, 0, 0)]).flatMap Ae) := A0 (Kn hlL (if_pos hk))
            have HG0 := A0 (IG (Ig k) Ed i hlL).1
            have HG2 := A0 (IG (Ig k) Ed i hlL).2
            have q0 := BS HYO.out HG0.out
            have q2 := BS HYO.out HG2.out
            generalize Ed[i] = x at HG0 HG2 HT q0 q2
            subst hk
            obtain ⟨XS, hXS⟩ : ∃ X, (Bh (Ig 2) Ed i ++ [((-77 : Int), (0 : Int), (0 : Int))]).flatMap Ae = X := ⟨_, rfl⟩
            rw [hXS] at HYO HT HG0 HG2
            clear hXS q0 q2
            go_upto_region 17 with fail
            clear y0 y1 y2 y3 y4
            have hmo : AJ 0 [vI 0 (.pointer (some ⟨w.heap.size, 4, none⟩)), vI 1 (.slice (some ⟨g3, 0, none⟩) n3 k3), vI 2 (.int .i64 (i : Int)), vI 3 (.pointer (some ⟨w.heap.size, 4, none⟩)), vI 4 (.slice (some ⟨g3, 0, none⟩) n3 k3), vI 5 (.int .i64 (i : Int)), vI 6 (.pointer (some ⟨w.heap.size, 4, none⟩)), vI 7 (.slice (some ⟨g3, 0, none⟩) n3 k3), vI 8 (.int .i64 (i : Int)), vI 9 (.pointer (some ⟨g3, i * 3, none⟩)), vI 10 (.pointer (some ⟨g3, i * 3 + 2, none⟩)), vI 11 (.int .i64 x.2.2), vI 12 (.pointer (some ⟨w.heap.size, 4, none⟩)), vI 13 (.slice (some ⟨g3, 0, none⟩) n3 k3), vI 14 (.int .i64 (i : Int)), vI 15 (.pointer (some ⟨g3, i * 3, none⟩)), vI 16 (.pointer (some ⟨g3, i * 3, none⟩)), vI 17 (.int .i64 x.1), vI 18 (.pointer (some ⟨g3, i * 3, none⟩)), vI 19 (.pointer (some ⟨g3, i * 3, none⟩)), ⟨[], [], fun _ _ _ _ => True⟩, vI 21 (.pointer (some ⟨g3, i * 3, none⟩)), vI 22 (.pointer (some ⟨g3, i * 3 + 2, none⟩))] := ⟨A2 _ _, A2 _ _, A2 _ _, A2 _ _, A2 _ _, A2 _ _, A2 _ _, A2 _ _, A2 _ _, A2 _ _, A2 _ _, A2 _ _, A2 _ _, A2 _ _, A2 _ _, A2 _ _, A2 _ _, A2 _ _, A2 _ _, A2 _ _, (fun _ _ _ _ _ _ _ _ _ _ => trivial), A2 _ _, A2 _ _, trivial⟩
            refine Ht (JE wr B g3 k3 n3 i (.int .i64 x.2.2) XS) 20 _ (by kernel_rfl) (⟨⟨rfl, rfl, rfl, Nat.le_refl _, fun _ _ _ => rfl⟩, A6 HYO.out ⟨rfl, rfl, rfl, Nat.le_refl _, fun _ _ => rfl⟩⟩) (by kernel_rfl) (by kernel_rfl) (by kernel_rfl) (by kernel_rfl) hmo ⟨?o0, ?o1, ?o2, ?o3, ?o4, ?o5, ?o6, ?o7, ?o8, ?o9, ?o10, ?o11, ?o12, ?o13, ?o14, ?o15, ?o16, ?o17, ?o18, ?o19, ?o20, ?o21, ?o22, trivial⟩ ?fin
            case o0 =>
             intro At yy W bb hy hb hbb d hz hd K hK
             obtain ⟨s3, s3'⟩ := AG (hb 3 rfl : _ = .pointer (some ⟨w.heap.size, 0, none⟩))
             clear hd hy hb
             go_simp
             exact hK.out _ W (AB hmo d (Below.refl _ _)) (if_pos rfl)
            case o1 =>
             intro At yy W bb hy hb hbb d hz hd K hK
             obtain ⟨s59, s59'⟩ := Ao 0 59 .data hy hd rfl
             clear hd hy hb
             obtain ⟨y0, y1, y2, y3, y4⟩ := SK.out W (HYB.out.trans (Ek d))
             go_simp
             exact hK.out _ W (AB hmo d (Below.refl _ _)) (if_pos rfl)
            case o2 =>
             intro At yy W bb hy hb hbb d hz hd K hK
             obtain ⟨s6, s6'⟩ := AG (hb 6 rfl : _ = .int .i64 (i : Int))
             clear hd hy hb
             go_simp
             exact hK.out _ W (AB hmo d (Below.refl _ _)) (if_pos rfl)
            case o3 =>
             intro At yy W bb hy hb hbb d hz hd K hK
             obtain ⟨s3, s3'⟩ := AG (hb 3 rfl : _ = .pointer (some ⟨w.heap.size, 0, none⟩))
             clear hd hy hb
             go_simp
             exact hK.out _ W (AB hmo d (Below.refl _ _)) (if_pos rfl)
            case o4 =>
             intro At yy W bb hy hb hbb d hz hd K hK
             obtain ⟨s62, s62'⟩ := Ao 3 62 .data hy hd rfl
             clear hd hy hb
             obtain ⟨y0, y1, y2, y3, y4⟩ := SK.out W (HYB.out.trans (Ek d))
             go_simp
             exact hK.out _ W (AB hmo d (Below.refl _ _)) (if_pos rfl)
            case o5 =>
             intro At yy W bb hy hb hbb d hz hd K hK
             obtain ⟨s6, s6'⟩ := AG (hb 6 rfl : _ = .int .i64 (i : Int))
             clear hd hy hb
             go_simp
             exact hK.out _ W (AB hmo d (Below.refl _ _)) (if_pos rfl)
            case o6 =>
             intro At yy W bb hy hb hbb d hz hd K hK
             obtain ⟨s3, s3'⟩ := AG (hb 3 rfl : _ = .pointer (some ⟨w.heap.size, 0, none⟩))
             clear hd hy hb
             go_simp
             exact hK.out _ W (AB hmo d (Below.refl _ _)) (if_pos rfl)
            case o7 =>
             intro At yy W bb hy hb hbb d hz hd K hK
             obtain ⟨s65, s65'⟩ := Ao 6 65 .data hy hd rfl
             clear hd hy hb
             obtain ⟨y0, y1, y2, y3, y4⟩ := SK.out W (HYB.out.trans (Ek d))
             go_simp
             exact hK.out _ W (AB hmo d (Below.refl _ _)) (if_pos rfl)
            case o8 =>
             intro At yy W bb hy hb hbb d hz hd K hK
             obtain ⟨s6, s6'⟩ := AG (hb 6 rfl : _ = .int .i64 (i : Int))
             clear hd hy hb
             go_simp
             exact hK.out _ W (AB hmo d (Below.refl _ _)) (if_pos rfl)
            case o9 =>
             intro At yy W bb hy hb hbb d hz hd K hK
             obtain ⟨s66, s66'⟩ := Ao 7 66 .data hy hd rfl
             obtain ⟨s67, s67'⟩ := Ao 8 67 .data hy hd rfl
             clear hd hy hb
             go_simp
             exact hK.out _ W (AB hmo d (Below.refl _ _)) (if_pos rfl)
            case o10 =>
             intro At yy W bb hy hb hbb d hz hd K hK
             obtain ⟨s68, s68'⟩ := Ao 9 68 .data hy hd rfl
             clear hd hy hb
             go_simp
             exact hK.out _ W (AB hmo d (Below.refl _ _)) (if_pos rfl)
            case o11 =>
             intro At yy W bb hy hb hbb d hz hd K hK
             obtain ⟨s69, s69'⟩ := Ao 10 69 .data hy hd rfl
             clear hd hy hb
             have q0 := NC d HG2.out
             go_simp
             exact hK.out _ W (AB hmo d (Below.refl _ _)) (if_pos rfl)
            case o12 =>
             intro At yy W bb hy hb hbb d hz hd K hK
             obtain ⟨s3, s3'⟩ := AG (hb 3 rfl : _ = .pointer (some ⟨w.heap.size, 0, none⟩))
             clear hd hy hb
             go_simp
             exact hK.out _ W (AB hmo d (Below.refl _ _)) (if_pos rfl)
            case o13 =>
             intro At yy W bb hy hb hbb d hz hd K hK
             obtain ⟨s71, s71'⟩ := Ao 12 71 .data hy hd rfl
             clear hd hy hb
             obtain ⟨y0, y1, y2, y3, y4⟩ := SK.out W (HYB.out.trans (Ek d))
             go_simp
             exact hK.out _ W (AB hmo d (Below.refl _ _)) (if_pos rfl)
            case o14 =>
             intro At yy W bb hy hb hbb d hz hd K hK
             obtain ⟨s6, s6'⟩ := AG (hb 6 rfl : _ = .int .i64 (i : Int))
             clear hd hy hb
             go_simp
             exact hK.out _ W (AB hmo d (Below.refl _ _)) (if_pos rfl)
            case o15 =>
             intro At yy W bb hy hb hbb d hz hd K hK
             obtain ⟨s72, s72'⟩ := Ao 13 72 .data hy hd rfl
             obtain ⟨s73, s73'⟩ := Ao 14 73 .data hy hd rfl
             clear hd hy hb
             go_simp
             exact hK.out _ W (AB hmo d (Below.refl _ _)) (if_pos rfl)
            case o16 =>
             intro At yy W bb hy hb hbb d hz hd K hK
             obtain ⟨s74, s74'⟩ := Ao 15 74 .data hy hd rfl
             clear hd hy hb
             go_simp
             exact hK.out _ W (AB hmo d (Below.refl _ _)) (if_pos rfl)
            case o17 =>
             intro At yy W bb hy hb hbb d hz hd K hK
             obtain ⟨s75, s75'⟩ := Ao 16 75 .data hy hd rfl
             clear hd hy hb
             have hb0 := hbb (by kernel_rfl)
             subst hb0
             have q0 := JO d HG0.out
             go_simp
             exact hK.out _ W (AB hmo d (Below.refl _ _)) (if_pos rfl)
            case o18 =>
             intro At yy W bb hy hb hbb d hz hd K hK
             obtain ⟨s60, s60'⟩ := Ao 1 60 .data hy hd rfl
             obtain ⟨s61, s61'⟩ := Ao 2 61 .data hy hd rfl
             clear hd hy hb
             go_simp
             exact hK.out _ W (AB hmo d (Below.refl _ _)) (if_pos rfl)
            case o19 =>
             intro At yy W bb hy hb hbb d hz hd K hK
             obtain ⟨s77, s77'⟩ := Ao 18 77 .data hy hd rfl
             clear hd hy hb
             go_simp
             exact hK.out _ W (AB hmo d (Below.refl _ _)) (if_pos rfl)
            case o20 =>
             intro At yy W bb hy hb hbb d hz hd K hK
             obtain ⟨s70, s70'⟩ := Ao 11 70 .data hy hd rfl
             obtain ⟨s78, s78'⟩ := Ao 19 78 .data hy hd rfl
             clear hd hy hb
             have hb0 := hbb rfl
             subst hb0
             have z1 := JO d HG0.out
             have z2 := HH d.2 (i * 3)
             go_simp
             exact hK.out undef _ (G1 [] rfl (Oo d) (by simp) ⟨.inr (fun _ _ _ h => h), .inr (fun _ _ _ h => h), .inr (fun _ _ _ h => h), .inr (fun _ _ _ h => h), .inr (fun _ _ _ h => h), .inr (fun _ _ _ h => h), .inr (fun _ _ _ h => h), .inr (fun _ _ _ h => h), .inr (fun _ _ _ h => h), .inr (fun _ _ _ h => h), .inr (fun _ _ _ h => h), .inr (fun _ _ _ h => h), .inr (fun _ _ _ h => h), .inr (fun _ _ _ h => h), .inr (fun _ _ _ h => h), .inr (fun _ _ _ h => h), .inr (fun _ _ _ h => h), .inr (fun _ _ _ h => h), .inr (fun _ _ _ h => h), .inr (fun _ _ _ h => h), .inl (by simp), .inr (fun _ _ _ h => h), .inr (fun _ _ _ h => h), trivial⟩) trivial
            case o21 =>
             intro At yy W bb hy hb hbb d hz hd K hK
             obtain ⟨s63, s63'⟩ := Ao 4 63 .data hy hd rfl
             obtain ⟨s64, s64'⟩ := Ao 5 64 .data hy hd rfl
             clear hd hy hb
             go_simp
             exact hK.out _ W (AB hmo d (Below.refl _ _)) (if_pos rfl)
            case o22 =>
             intro At yy W bb hy hb hbb d hz hd K hK
             obtain ⟨s79, s79'⟩ := Ao 21 79 .data hy hd rfl
             clear hd hy hb
             go_simp
             exact hK.out _ W (AB hmo d (Below.refl _ _)) (if_pos rfl)
            case fin =>
             intro yy lo hi W hM
             show wpList _ _ _ [_] _ _
             have e0 := hM.v 0 (by simp) rfl rfl rfl
             have e1 := hM.v 1 (by simp) rfl rfl rfl
             have e2 := hM.v 2 (by simp) rfl rfl rfl
             have e3 := hM.v 3 (by simp) rfl rfl rfl
             have e4 := hM.v 4 (by simp) rfl rfl rfl
             have e5 := hM.v 5 (by simp) rfl rfl rfl
             have e6 := hM.v 6 (by simp) rfl rfl rfl
             have e7 := hM.v 7 (by simp) rfl rfl rfl
             have e8 := hM.v 8 (by simp) rfl rfl rfl
             have e9 := hM.v 9 (by simp) rfl rfl rfl
             have e10 := hM.v 10 (by simp) rfl rfl rfl
             have e11 := hM.v 11 (by simp) rfl rfl rfl
             have e12 := hM.v 12 (by simp) rfl rfl rfl
             have e13 := hM.v 13 (by simp) rfl rfl rfl
             have e14 := hM.v 14 (by simp) rfl rfl rfl
             have e15 := hM.v 15 (by simp) rfl rfl rfl
             have e16 := hM.v 16 (by simp) rfl rfl rfl
             have e17 := hM.v 17 (by simp) rfl rfl rfl
             have e18 := hM.v 18 (by simp) rfl rfl rfl
             have e19 := hM.v 19 (by simp) rfl rfl rfl
             have e21 := hM.v 21 (by simp) rfl rfl rfl
             have e22 := hM.v 22 (by simp) rfl rfl rfl
             have dJ := hM.d
             replace dJ : JE wr B g3 k3 n3 i (.int .i64 x.2.2) XS true W := dJ
             have OnW := A0 (HYB.out.trans (Ek dJ))
             have OnC := A0 (HYC.out.trans dJ.1)
             have z1 := NC dJ HG2.out
             have z2 := HH dJ.2 (i * 3 + 2)
             have HV := A0 (ID dJ.2 (i * 3 + 2) (.int .i64 x.1))
             replace HV : Hid ((W.setCell ⟨g3, i * 3 + 2, none⟩ (.int .i64 x.1)).ownsRow B 50 3 (.slice (some ⟨g3, 0, none⟩) (n3 + 1) k3) (n3 + 1) ((XS.set (i * 3) (.int .i64 x.2.2)).set (i * 3 + 2) (.int .i64 x.1))) := HV
             rw [HT.out] at HV
             simp only [Aw, Act.put, List.take, List.length, List.setIfInBounds_toArray, List.set_cons_zero, List.set_cons_succ, e0, e1, e2, e3, e4, e5, e6, e7, e8, e9, e10, e11, e12, e13, e14, e15, e16, e17, e18, e19, e21, e22]
             clear hM hmo dJ e0 e1 e2 e3 e4 e5 e6 e7 e8 e9 e10 e11 e12 e13 e14 e15 e16 e17 e18 e19 e21 e22
             go_wp2_with fail
             go_roundw
             case rel => exact ⟨i + 1, by omega, by go_num, A0 ⟨HV.out, OnW.out.andNew (Ah W g3 (i * 3 + 2) (.int .i64 x.1)) (fun j _ hj => Or.inr (Or.inr hj)), OnC.out.andNew (Ah W g3 (i * 3 + 2) (.int .i64 x.1)) (fun j _ hj => hj)⟩⟩
             case measure => simp [intOf]; omega
          · have HT : Hid (Bh (Ig k) Ed (i + 1) = Bh (Ig k) Ed i) := A0 (by
             rw [show (Ig k) = id from funext fun _ => if_neg hk, Dw, Dw])
            have hk2 : (k == 2) = false := by simpa using hk
            go_wp2_with fail
            go_roundw
            case rel => exact ⟨i + 1, by omega, by go_num, A0 ⟨by rw [HT.out]; exact HYO.out, HYB.out, HYC.out⟩⟩
            case measure => simp [intOf]; omega
        · have l0 : ¬ (i : Int) < (n3 : Int) := by omega
          obtain rfl : i = n3 := by omega
          have HEd : Hid (Fo B wr g3 k3 (Ed.map (Ig k))) := A0 ⟨by rw [List.length_map]; exact hL.out.e.le, by have := HYO.out; rw [← HN.out.2.2, EP] at this; rw [List.length_map]; exact this⟩
          have HSd := A0 (HW2.out.1.only1 HYC.out hL.out.n13)
          have HFd := A0 (HW2.out.2.1.only1 HYC.out hL.out.n23)
          go_wp2_with fail
          go_end0
          exact ⟨rfl, A0 ⟨HSd.out, HFd.out, HEd.out, hL.out.n12, hL.out.n13, hL.out.n23⟩, A0 (HO0.out.andNew HYB.out (fun j _ hj => hj))⟩
end Go.Proofs.YtchoopnjckcohaaGreat
namespace Go.Proofs.YtchoopnjckcohaaGreat
open Tryz
open Go.RowKit Go.Maps Go.Shelf
structure Kd (α : Type) where
 ty : Nat
 sz : Nat
 val : α → Value
 cs : α → List Value
 key : α → Lit
 ok : α → Prop
 kmk : ∀ a, ok a → keyOf prog ty (val a) = some (key a)
 inj : ∀ a b, ok a → ok b → key a = key b → a = b
 lit : ∀ a, WideAt.IsKeyLit (key a)
 len : ∀ a, (cs a).length = sz
 one : ∀ a, ∀ u ∈ cs a, u.oneCell' = true
 law : Keyed prog ty
section
variable {α : Type} (K : Kd α)
structure IP (D : DataW Unit) (l : List α) : Prop where
 tidy : Tidy D
 has : ∀ s, K.ok s → (Maps.has D (K.key s) = true ↔ s ∈ l)
 at_ : ∀ i (h : i < l.length) z, D.atKey (K.key l[i]) z = .lit (.int .i64 (i : Nat))
theorem IR : IP K (.map []) [] := ⟨tidy_empty, fun s _ => (by constructor <;> intro h <;> cases h), fun i h => (by simp at h)⟩
variable {K}
theorem IP.new {D : DataW Unit} {l : List α} {s : α} (h : IP K D l) (hok : ∀ x ∈ l, K.ok x) (hs : s ∉ l) (ho : K.ok s) : IP K (D.put (K.key s) (.lit (.int .i64 (l.length : Nat)))) (l ++ [s]) := by
 refine ⟨h.tidy.put (K.lit s) _, fun t ht => ?_, fun i hi z => ?_⟩
 · by_cases e : t = s
   · subst e; rw [has_put_same h.tidy.isMap (K.lit _)]; simp
   · rw [has_put_other (fun h => e (K.inj _ _ ht ho h)), h.has t ht]; simp [e]
 · by_cases e : i < l.length
   · rw [List.getElem_append_left e]
     have hm : l[i] ∈ l := List.getElem_mem e
     rw [atKey_put_other (fun h => hs (by rw [← K.inj _ _ (hok _ hm) ho h]; exact hm)), h.at_ i e z]
   · have : i = l.length := by simp at hi; omega
     subst this
     rw [List.getElem_append_right (Nat.le_refl _)]
     simp only [Nat.sub_self, List.getElem_cons_zero]
     rw [atKey_put_same h.tidy.isMap (K.lit _)]
variable (K)
variable {K}
end
theorem L7 : laidOutB prog = true := by kernel_rfl
theorem NQ : (57 : TypeId) < prog.types.size := of_decide_eq_true (by kernel_rfl)
theorem Oc : (match prog.underlying 57 with | some (.array _ _) | some (.struct _) => true | _ => false) = true := by rw [underlying57]
theorem KV : Keyed prog 57 := Keyed.of_law (deep_law_laid L7 (m := 2) (by omega) NQ (by kernel_rfl) Oc)
theorem MA : prog.keyType 57 = true := by kernel_rfl
theorem Nh : prog.cellsOf 57 = 2 := by kernel_rfl
theorem Nx : prog.cellsOf 3 = 1 := by kernel_rfl
theorem La {Q : Program} {k a : TypeId} (hu : Q.underlying k = some (.array 2 a)) (ua : Q.underlying a = some (.int .i64)) (ca : Q.cellsOf a = 1) (ck : Q.cellsOf k = 2) (hkt : Q.keyType k = true) (hk0 : k < Q.types.size) (p r : Int) (w1 : (Lit.int .i64 p).wf = true) (w2 : (Lit.int .i64 r).wf = true) : keyOf Q k (.agg #[.int .i64 p, .int .i64 r]) = some (.string (keyBytes [.int .i64 p, .int .i64 r])) := by
 obtain ⟨n, hn⟩ : ∃ n, Q.types.size = n + 1 := ⟨Q.types.size - 1, (Nat.sub_add_cancel (Nat.lt_of_le_of_lt (Nat.zero_le _) hk0)).symm⟩
 unfold keyOf
 rw [hu]
 simp only [hkt, Value.formed, hu, ck, Value.cells, hn, Program.keyLits]
 simp [ua, ca, w1, w2, List.range, List.range.loop]
abbrev Aq := Int × Int
def GV (s : Aq) : Value := .agg #[.int .i64 s.1, .int .i64 s.2]
def Bn (s : Aq) : List Value := [.int .i64 s.1, .int .i64 s.2]
def OX (s : Aq) : Lit := .string (keyBytes [.int .i64 s.1, .int .i64 s.2])
def DV (s : Aq) : Prop := (0 ≤ s.1 ∧ s.1 ≤ 8192) ∧ 0 ≤ s.2 ∧ s.2 ≤ 8192
theorem Jv (s : Aq) (h : DV s) : keyOf prog 57 (GV s) = some (OX s) :=
 La underlying57 underlying3 Nx Nh MA NQ s.1 s.2 (WalkArith.wf_i64 (by have := h.1; omega)) (WalkArith.wf_i64 (by have := h.2; omega))
theorem MZ (s t : Aq) (hs : DV s) (ht : DV t) (h : OX s = OX t) : s = t := by
 have := KV.inj (Jv s hs) (by rw [h]; exact Jv t ht)
 obtain ⟨p, r⟩ := s
 obtain ⟨p', r'⟩ := t
 simp only [GV, Value.agg.injEq, Array.mk.injEq, List.cons.injEq, Value.int.injEq, true_and, and_true] at this
 exact Prod.ext this.1 this.2
def I5 : Kd Aq where
 ty := 57
 sz := 2
 val := GV
 cs := Bn
 key := OX
 ok := DV
 kmk := Jv
 inj := MZ
 lit := fun _ => trivial
 len := fun _ => rfl
 one := fun s u hu => by
  simp only [Bn, List.mem_cons, List.not_mem_nil, or_false] at hu
  rcases hu with rfl | rfl <;> rfl
 law := KV
end Go.Proofs.YtchoopnjckcohaaGreat
namespace Go.Proofs.YtchoopnjckcohaaGreat
open Tryz
open Go.RowKit Go.Maps Go.Shelf
attribute [local go_sem] Oper.semAt_some
theorem Is {α : Type} (K : Kd α) (w : World) (mt : TypeId) (ht : prog.underlying mt = some (.map K.ty 3)) (b : Nat) (l : List α) (i : Nat) (hi : i < l.length) (D : DataW Unit) (hown : w.ownsMap prog K.ty (plainElem prog 3) b l.length D) (hp : IP K D l) (ho : K.ok l[i]) :
 (Instr.lookup mt (.map (some b)) (K.val l[i]) true).run prog w = .ok (.tuple #[.int .i64 (i : Nat), .bool true]) w := by
 obtain ⟨v, ps, hrun, hv⟩ := hown.look_ok K.law ht (z := .int .i64 0) (by kernel_rfl) (plainElem_int underlying3 (by decide)) (K.kmk _ ho)
 obtain ⟨c, rfl, hc, _⟩ := plainElem_int_inv underlying3 hv
 have e : D.atKey (K.key l[i]) (.lit (.int .i64 0)) = .lit (.int .i64 c) := congrArg Prod.fst hc
 rw [hp.at_ i hi] at e
 simp only [DataW.lit.injEq, Lit.int.injEq, true_and] at e
 rw [hrun, (hp.has _ ho).2 (List.getElem_mem hi), ← e]
theorem Em {α : Type} (K : Kd α) (w : World) (mt : TypeId) (ht : prog.underlying mt = some (.map K.ty 3)) (b : Nat) (l : List α) (s : α) (hs : s ∉ l) (D : DataW Unit) (hown : w.ownsMap prog K.ty (plainElem prog 3) b l.length D) (hp : IP K D l) (ho : K.ok s) :
 ∃ c : Int, (Instr.lookup mt (.map (some b)) (K.val s) true).run prog w = .ok (.tuple #[.int .i64 c, .bool false]) w := by
 obtain ⟨v, ps, hrun, hv⟩ := hown.look_ok K.law ht (z := .int .i64 0) (by kernel_rfl) (plainElem_int underlying3 (by decide)) (K.kmk _ ho)
 obtain ⟨c, rfl, hc, _⟩ := plainElem_int_inv underlying3 hv
 have : Maps.has D (K.key s) = false := by
  rw [Bool.eq_false_iff]; intro e; exact hs ((hp.has s ho).1 e)
 rw [this] at hrun
 exact ⟨c, hrun⟩
structure SS (D : Nat) (W : World) (b bm : Nat) (f : Value) (bud : Int) (vp ve vn : Value) (ps : List Aq) (es : List Aa) (nn : Nat) (xn : List Value) : Prop where
 bx : W.heap[b]? = some (.cells #[f, .int .i64 bud, .map (some bm), vp, ve, vn] 71 (0, 0))
 po : W.ownsRow D 57 2 vp ps.length (ps.flatMap Bn)
 mo : ∃ Dm, W.ownsMap prog 57 (plainElem prog 3) bm ps.length Dm ∧ IP I5 Dm ps
 eo : W.ownsRow D 50 3 ve es.length (es.flatMap Ae)
 no : W.ownsRow D 3 1 vn nn xn
 ok : ∀ x ∈ ps, DV x
 nd : ps.Nodup
theorem BZ {W W' : World} {k e : TypeId} {b n : Nat} {Dm : DataW Unit} {R : Nat → Prop} (o : W.ownsMap prog k (plainElem prog e) b n Dm) (h : Ab W W' R) (hn : ¬ R b) : W'.ownsMap prog k (plainElem prog e) b n Dm := by
 have hlt := o.lt
 obtain ⟨es, ck, h1, h2⟩ := o
 exact ⟨es, ck, (h.block b hlt hn).trans h1, h2⟩
theorem SS.onlyR {D : Nat} {W W' : World} {b bm : Nat} {f : Value} {bud : Int} {vp ve vn : Value} {ps : List Aq} {es : List Aa} {nn : Nat} {xn : List Value} {R : Nat → Prop} (h : SS D W b bm f bud vp ve vn ps es nn xn) (o : Ab W W' R) (h1 : ¬ R b) (h2 : ¬ R bm) (h3 : ∀ k, vp.ownBlock = some k → ¬ R k) (h4 : ∀ k, ve.ownBlock = some k → ¬ R k) (h5 : ∀ k, vn.ownBlock = some k → ¬ R k) : SS D W' b bm f bud vp ve vn ps es nn xn := by
 obtain ⟨Dm, hm, hp⟩ := h.mo
 exact ⟨o.cellK h.bx h1, A9 h.po o h3, ⟨Dm, BZ hm o h2, hp⟩, A9 h.eo o h4, A9 h.no o h5, h.ok, h.nd⟩
theorem SS.on {D : Nat} {W W' : World} {b bm : Nat} {f : Value} {bud : Int} {vp ve vn : Value} {ps : List Aq} {es : List Aa} {nn : Nat} {xn : List Value} (h : SS D W b bm f bud vp ve vn ps es nn xn) (d : Below W.heap.size W W') : SS D W' b bm f bud vp ve vn ps es nn xn :=
 h.onlyR (Ab.ofBelow (R := fun _ => False) d) id id (fun _ _ => id) (fun _ _ => id) (fun _ _ => id)
theorem NW (w : World) (s : Aq) : ∀ (j : Nat) (u : Value), ([Value.int .i64 s.1, Value.int .i64 s.2])[j]? = some u → (w.alloc (.cells #[Value.int .i64 s.1, Value.int .i64 s.2] 57)).cell? ((⟨w.heap.size, 0, none⟩ : Addr).add j) = some u := by
 intro j u hu
 rw [Addr.add_lit, Nat.zero_add]
 refine A1 (World.alloc_heap_new _ _) ?_
 rw [← hu]
 rw [List.getElem?_toArray]
theorem Cz (w : World) (D b bm : Nat) (f : Value) (bud : Int) (vp ve vn : Value) (ps : List Aq) (es : List Aa) (nn : Nat) (xn : List Value) (h : Hid (SS D w b bm f bud vp ve vn ps es nn xn)) : Calls prog 61 #[.pointer (some ⟨b, 0, none⟩)] w fun e w' => e = .returned (.bool (decide (65536 < es.length))) ∧ w' = w := by
 obtain ⟨ae, ce, hv⟩ := A8 h.out.eo
 have c4 : w.cell? ⟨b, 4, none⟩ = some (.slice ae es.length ce) := by rw [← hv]; exact A1 h.out.bx rfl
 clear hv
 have e1 : (decide ((es.length : Int) > 65536)) = decide (65536 < es.length) := by rw [decide_eq_decide]; omega
 go_enter func61, ntmps61
 go_wp2
 go_ret
 exact ⟨by first | rfl | (rw [← e1]; rfl) | (rw [e1]), rfl⟩
theorem K1 (i : Nat) (w : World) (D b bm : Nat) (f : Value) (bud : Int) (vp ve vn : Value) (ps : List Aq) (es : List Aa) (nn : Nat) (xn : List Value) (s : Aq) (h : Hid (SS D w b bm f bud vp ve vn ps es nn xn)) (hi : i < ps.length) (HS : Hid (s = ps[i])) :
 Calls prog 58 #[.pointer (some ⟨b, 0, none⟩), .agg #[.int .i64 s.1, .int .i64 s.2]] w fun e w' => e = .returned (.tuple #[.int .i64 (i : Int), .int .i64 0]) ∧ Below w.heap.size w w' := by
 obtain ⟨ap, cp, hv⟩ := A8 h.out.po
 have HV := A0 hv
 clear hv
 obtain ⟨X, hX⟩ : ∃ X, w.alloc (.cells #[Value.int .i64 s.1, Value.int .i64 s.2] 57) = X := ⟨_, rfl⟩
 have hA : Below w.heap.size w X := by rw [← hX]; exact (Below.refl _ _).alloc (Nat.le_refl _) _
 have hbx : X.heap[w.heap.size]? = some (.cells #[Value.int .i64 s.1, Value.int .i64 s.2] 57 (0, 0)) := by rw [← hX]; exact World.alloc_heap_new _ _
 have hSX := h.out.on hA
 obtain ⟨Dm, hm, hp⟩ := hSX.mo
 have c1 : X.cell? ⟨b, 1, none⟩ = some (.int .i64 bud) := A1 hSX.bx rfl
 have c2 : X.cell? ⟨b, 2, none⟩ = some (.map (some bm)) := A1 hSX.bx rfl
 have c3 : X.cell? ⟨b, 3, none⟩ = some (.slice ap ps.length cp) := by rw [← HV.out]; exact A1 hSX.bx rfl
 obtain ⟨x0, x1⟩ := IV hbx rfl rfl
 have hlook := Is I5 X.drew 69 underlying69 bm ps i hi Dm hm.drew hp (hSX.ok _ (List.getElem_mem hi))
 rw [← HS.out] at hlook
 have hlook' : (Instr.lookup 69 (.map (some bm)) (.agg #[.int .i64 s.1, .int .i64 s.2]) true).run prog X.drew = _ := hlook
 clear hm hp hlook hSX hbx
 go_enter func58, ntmps58
 go_wp2_with fail
 go_region
 go_wp2
 refine bodyPost_ret (results_tmp2 rfl _ _ _) rfl ?_
 exact ⟨rfl, hA.drew⟩
theorem FW (w : World) (D b bm : Nat) (f : Value) (bud : Int) (vp ve vn : Value) (ps : List Aq) (es : List Aa) (nn : Nat) (xn : List Value) (s : Aq) (h : Hid (SS D w b bm f bud vp ve vn ps es nn xn)) (hs : Hid (s ∉ ps)) (hok : Hid (DV s)) (er : Int) (he : (bud ≤ (ps.length : Int) ∧ er = 9) ∨ (¬ bud ≤ (ps.length : Int) ∧ 4096 ≤ ps.length ∧ er = 8)) :
 Calls prog 58 #[.pointer (some ⟨b, 0, none⟩), .agg #[.int .i64 s.1, .int .i64 s.2]] w fun e w' => e = .returned (.tuple #[.int .i64 0, .int .i64 er]) ∧ Below w.heap.size w w' := by
 obtain ⟨ap, cp, hv⟩ := A8 h.out.po
 have HV := A0 hv
 clear hv
 obtain ⟨X, hX⟩ : ∃ X, w.alloc (.cells #[Value.int .i64 s.1, Value.int .i64 s.2] 57) = X := ⟨_, rfl⟩
 have hA : Below w.heap.size w X := by rw [← hX]; exact (Below.refl _ _).alloc (Nat.le_refl _) _
 have hbx : X.heap[w.heap.size]? = some (.cells #[Value.int .i64 s.1, Value.int .i64 s.2] 57 (0, 0)) := by rw [← hX]; exact World.alloc_heap_new _ _
 have hSX := h.out.on hA
 obtain ⟨Dm, hm, hp⟩ := hSX.mo
 have c1 : X.cell? ⟨b, 1, none⟩ = some (.int .i64 bud) := A1 hSX.bx rfl
 have c2 : X.cell? ⟨b, 2, none⟩ = some (.map (some bm)) := A1 hSX.bx rfl
 have c3 : X.cell? ⟨b, 3, none⟩ = some (.slice ap ps.length cp) := by rw [← HV.out]; exact A1 hSX.bx rfl
 obtain ⟨x0, x1⟩ := IV hbx rfl rfl
 obtain ⟨c, hlook⟩ := Em I5 X.drew 69 underlying69 bm ps s hs.out Dm hm.drew hp hok.out
 have hlook' : (Instr.lookup 69 (.map (some bm)) (.agg #[.int .i64 s.1, .int .i64 s.2]) true).run prog X.drew = _ := hlook
 have HA := A0 hA
 clear hm hp hlook hSX hbx hA
 rcases he with ⟨h1, rfl⟩ | ⟨h1, h2, rfl⟩
 · have e1 : (ps.length : Int) ≥ bud := h1
   clear h1
   go_enter func58, ntmps58
   go_wp2_with fail
   go_region
   go_wp2
   refine bodyPost_ret (results_tmp2 rfl _ _ _) rfl ?_
   exact ⟨rfl, HA.out.drew⟩
 · have e1 : ¬ (ps.length : Int) ≥ bud := h1
   have e2 : (ps.length : Int) ≥ 4096 := by omega
   clear h1 h2
   go_enter func58, ntmps58
   go_wp2_with fail
   go_region
   go_wp2
   refine bodyPost_ret (results_tmp2 rfl _ _ _) rfl ?_
   exact ⟨rfl, HA.out.drew⟩
theorem JM : (prog.info? 57).map (fun i => (i.zero, i.size, i.bytes)) = some (some (.agg #[.int .i64 0, .int .i64 0]), 2, 16) := by kernel_rfl
theorem CT {W : World} {B n m sz : Nat} {e k x : TypeId} {v : Value} {xs : List Value} {bm : Nat} {Dm : DataW Unit} (h : W.ownsRow B e sz v n xs) (hm : W.ownsMap prog k (plainElem prog x) bm m Dm) : v.ownBlock ≠ some bm := by
 intro hk
 obtain ⟨es, ck, q1, _⟩ := hm
 rcases h.2 with ⟨e, _⟩ | ⟨g, cap, cur, e, _, hg, _⟩
 · rw [e] at hk; cases hk
 · rw [e] at hk
   obtain rfl : g = bm := by simpa [Value.ownBlock] using hk
   rw [hg] at q1; cases q1
theorem SS.put {D : Nat} {W : World} {b bm : Nat} {f : Value} {bud : Int} {vp ve vn : Value} {ps : List Aq} {es : List Aa} {nn : Nat} {xn : List Value} {w2 w4 : World} {v' : Value} {s : Aq} {Dm : DataW Unit} (h : SS D W b bm f bud vp ve vn ps es nn xn) (hbD : b < D) (hp : IP I5 Dm ps) (hm : W.ownsMap prog 57 (plainElem prog 3) bm ps.length Dm) (hs : s ∉ ps) (hok : DV s)
 (hm2 : w2.ownsMap prog 57 (plainElem prog 3) bm (ps.length + 1) (Dm.put (OX s) (.lit (.int .i64 (ps.length : Nat))))) (hg2 : W.grownBy w2 (some bm)) (hg4 : w2.grownBy w4 vp.ownBlock) (ho4 : w4.ownsRow D 57 2 v' (ps.length + 1) (ps.flatMap Bn ++ Bn s)) :
 SS D (w4.setCell ⟨b, 3, none⟩ v') b bm f bud v' ve vn (ps ++ [s]) es nn xn ∧ Ab W (w4.setCell ⟨b, 3, none⟩ v') (fun k => k = b ∨ k = bm ∨ vp.ownBlock = some k) := by
 have hblt : b < W.heap.size := (Array.getElem?_eq_some_iff.1 h.bx).1
 have hbb : b ≠ bm := by
  rintro rfl
  obtain ⟨es, ck, q1, _⟩ := hm
  rw [h.bx] at q1; cases q1
 have hvb : some b ≠ vp.ownBlock := fun e => by have := (h.po.lt b e.symm).1; omega
 have hvm : some bm ≠ vp.ownBlock := fun e => CT h.po hm e.symm
 have hm4 := hm2.kept hg4 hvm
 have hb4 : w4.heap[b]? = some (.cells #[f, .int .i64 bud, .map (some bm), vp, ve, vn] 71 (0, 0)) := (hg4.block b (Nat.lt_of_lt_of_le hblt hg2.size) hvb).trans ((hg2.block b hblt (by simp; omega)).trans h.bx)
 have o1 : Ab W w2 (fun k => k = b ∨ k = bm ∨ vp.ownBlock = some k) := Ab.grown hg2 (fun k hk => .inr (.inl (by cases hk; rfl)))
 have o2 : Ab W w4 (fun k => k = bm ∨ vp.ownBlock = some k) := (Ab.grown hg2 (R := fun k => k = bm ∨ vp.ownBlock = some k) (fun k hk => .inl (by cases hk; rfl))).trans (Ab.grown hg4 (fun k hk => .inr hk))
 have o3 := Ah w4 b 3 v'
 have he4 : w4.ownsRow D 50 3 ve es.length (es.flatMap Ae) := A9 h.eo o2 (fun k hk e => by
  rcases e with rfl | e
  · exact CT h.eo hm hk
  · exact Ai h.po h.eo (by decide) e hk)
 have hn4 : w4.ownsRow D 3 1 vn nn xn := A9 h.no o2 (fun k hk e => by
  rcases e with rfl | e
  · exact CT h.no hm hk
  · exact Ai h.po h.no (by decide) e hk)
 refine ⟨⟨?_, ?_, ⟨Dm.put (OX s) (.lit (.int .i64 (ps.length : Nat))), ?_, ?_⟩, ?_, ?_, ?_, ?_⟩, ?_⟩
 · have := heap_setCell_same w4 b 3 _ 71 v' hb4
   simpa using this
 · rw [List.length_append, List.length_singleton, List.flatMap_append, List.flatMap_singleton]
   exact A9 ho4 o3 (fun k hk e => by have := (ho4.lt k hk).1; omega)
 · rw [List.length_append, List.length_singleton]
   obtain ⟨es, ck, h1, h2⟩ := hm4
   exact ⟨es, ck, (o3.block bm (Array.getElem?_eq_some_iff.1 h1).1 (by omega)).trans h1, h2⟩
 · exact hp.new h.ok hs hok
 · exact A9 he4 o3 (fun k hk e => by have := (he4.lt k hk).1; omega)
 · exact A9 hn4 o3 (fun k hk e => by have := (hn4.lt k hk).1; omega)
 · intro x hx
   rcases List.mem_append.1 hx with hx | hx
   · exact h.ok x hx
   · simp at hx; subst hx; exact hok
 · rw [List.nodup_append]
   exact ⟨h.nd, by simp, fun a ha b hb he => by simp at hb; subst hb; subst he; exact hs ha⟩
 · exact (o1.trans (Ab.grown hg4 (fun k hk => .inr (.inr hk)))).andNew o3 (fun i _ e => .inl e)
theorem Ky (w : World) (D b bm : Nat) (f : Value) (bud : Int) (vp ve vn : Value) (ps : List Aq) (es : List Aa) (nn : Nat) (xn : List Value) (s : Aq) (h : Hid (SS D w b bm f bud vp ve vn ps es nn xn)) (hs : Hid (s ∉ ps)) (hok : Hid (DV s)) (hbD : Hid (b < D ∧ D ≤ w.heap.size)) (e1 : ¬ (ps.length : Int) ≥ bud) (hl : ps.length < 4096) :
 Calls prog 58 #[.pointer (some ⟨b, 0, none⟩), .agg #[.int .i64 s.1, .int .i64 s.2]] w fun e w' => e = .returned (.tuple #[.int .i64 (ps.length : Int), .int .i64 0]) ∧ ∃ vp', SS D w' b bm f bud vp' ve vn (ps ++ [s]) es nn xn ∧ Ab w w' (fun k => k = b ∨ k = bm ∨ vp.ownBlock = some k) ∧ ∀ k, vp'.ownBlock = some k → vp.ownBlock = some k ∨ w.heap.size ≤ k := by
 obtain ⟨i0, hi, hz0, hz1, hz2⟩ := AA JM
 obtain ⟨ap, cp, hv⟩ := A8 h.out.po
 have HV := A0 hv
 obtain ⟨X, hX⟩ : ∃ X, w.alloc (.cells #[Value.int .i64 s.1, Value.int .i64 s.2] 57) = X := ⟨_, rfl⟩
 have hA : Below w.heap.size w X := by rw [← hX]; exact (Below.refl _ _).alloc (Nat.le_refl _) _
 have hzX : X.heap.size = w.heap.size + 1 := by rw [← hX]; simp
 have hbx : X.heap[w.heap.size]? = some (.cells #[Value.int .i64 s.1, Value.int .i64 s.2] 57 (0, 0)) := by rw [← hX]; exact World.alloc_heap_new _ _
 have hSX := h.out.on hA
 obtain ⟨Dm, hm, hp⟩ := hSX.mo
 have hblt : b < w.heap.size := (Array.getElem?_eq_some_iff.1 h.out.bx).1
 have hbb : b ≠ bm := by
  rintro rfl
  obtain ⟨es, ck, q1, _⟩ := hm
  rw [hSX.bx] at q1; cases q1
 have hbmlt : bm < w.heap.size := by obtain ⟨_, q, _⟩ := h.out.mo; exact q.lt
 have hvb : ∀ k, vp.ownBlock = some k → D ≤ k ∧ k < w.heap.size := fun k hk => h.out.po.lt k hk
 have c1 : X.cell? ⟨b, 1, none⟩ = some (.int .i64 bud) := A1 hSX.bx rfl
 have c2 : X.cell? ⟨b, 2, none⟩ = some (.map (some bm)) := A1 hSX.bx rfl
 have c3 : X.cell? ⟨b, 3, none⟩ = some (.slice ap ps.length cp) := by rw [← hv]; exact A1 hSX.bx rfl
 obtain ⟨x0, x1⟩ := IV hbx rfl rfl
 have e2 : ¬ (ps.length : Int) ≥ 4096 := by omega
 have hkey := Jv s hok.out
 obtain ⟨c, hlook⟩ := Em I5 X.drew 69 underlying69 bm ps s hs.out Dm hm.drew hp hok.out
 have hlook' : (Instr.lookup 69 (.map (some bm)) (.agg #[.int .i64 s.1, .int .i64 s.2]) true).run prog X.drew = _ := hlook
 obtain ⟨w5, hrun5, hm5, hg5⟩ := World.ownsMap.update (w := X.drew.drew) (t := 69) (e := 3) (show X.drew.drew.ownsMap prog 57 (plainElem prog 3) bm ps.length Dm from hm) KV underlying69 (by unfold maxLen; omega) (val := .int .i64 (ps.length : Nat)) hkey (plainElem_int underlying3 (WalkArith.wf_i64 (by omega)))
 have hrun5' : (Instr.mapUpdate 69 (.map (some bm)) (.agg #[.int .i64 s.1, .int .i64 s.2]) (.int .i64 (ps.length : Nat))).run prog X.drew.drew = .ok () w5 := hrun5
 have hgX : X.grownBy w5 (some bm) := ⟨hg5.os, hg5.tape, hg5.output, hg5.size, hg5.block⟩
 have hs5 : X.heap.size ≤ w5.heap.size := hgX.size
 have hb5 : w5.heap[b]? = some (.cells #[f, .int .i64 bud, .map (some bm), vp, ve, vn] 71 (0, 0)) := (hgX.block b (by omega) (by simp; omega)).trans hSX.bx
 have hx5 : w5.heap[w.heap.size]? = some (.cells #[Value.int .i64 s.1, Value.int .i64 s.2] 57 (0, 0)) := (hgX.block _ (by omega) (by simp; omega)).trans hbx
 have c05 : w5.cell? ⟨b, 3, none⟩ = some (.slice ap ps.length cp) := by rw [← hv]; exact A1 hb5 rfl
 obtain ⟨y0, y1⟩ := IV hx5 rfl rfl
 have hov : w5.ownsRow D 57 2 (.slice ap ps.length cp) ps.length (ps.flatMap Bn) := by
  rw [← hv]
  exact A9 (R := fun k => k = bm) hSX.po (Ab.grown hgX (fun k hk => by cases hk; rfl)) (fun k hk e => by subst e; exact CT hSX.po hm hk)
 have hDs : b < D ∧ D ≤ w.heap.size := hbD.out
 have HS6 := A0 (fun (w6 : World) (hg : (w5.alloc (.cells #[Value.int .i64 s.1, Value.int .i64 s.2] 57)).drew.grownBy w6 (Value.slice ap ps.length cp).ownBlock) => show (w6.cell? ⟨b, 3, none⟩ = some (.slice ap ps.length cp) ∧ w6.cell? ⟨w.heap.size, 0, none⟩ = some (.int .i64 s.1) ∧ w6.cell? ⟨w.heap.size, 1, none⟩ = some (.int .i64 s.2)) ∧ w6.frozen? ⟨b, 3, none⟩ = false by
  rw [← hv] at hg
  have q1 : w6.heap[b]? = some (.cells #[f, .int .i64 bud, .map (some bm), vp, ve, vn] 71 (0, 0)) := (hg.block b (by simp; omega) (fun e => by have := (hvb b e.symm).1; omega)).trans ((Below.heap_alloc _ _ b (by omega)).trans hb5)
  have q2 : w6.heap[w.heap.size]? = some (.cells #[Value.int .i64 s.1, Value.int .i64 s.2] 57 (0, 0)) := (hg.block _ (by simp; omega) (fun e => by have := (hvb _ e.symm).2; omega)).trans ((Below.heap_alloc _ _ _ (by omega)).trans hx5)
  exact ⟨⟨by rw [← hv]; exact A1 q1 rfl, A1 q2 rfl, A1 q2 rfl⟩, by simp [World.frozen?, q1]⟩)
 have hbw5 : b < w5.heap.size := by omega
 have hDw5 : D ≤ w5.heap.size + 1 := by omega
 have HX := A0 (And.intro hm (And.intro hp (And.intro hm5 (And.intro hgX (And.intro hSX (And.intro hA (And.intro hov (And.intro hDs (And.intro hzX hs5)))))))))
 clear hm hp hlook hrun5 hg5 hgX hm5 hb5 hSX hA hv hbx hx5 hov hDs hbb hzX hs5 hvb hbmlt
 go_enter func58, ntmps58
 go_wp2_with fail
 go_region
 go_wp2_with fail
 go_region
 go_wp2_with fail
 have hov := HX.out.2.2.2.2.2.2.1
 have cA5 : (w5.alloc (.cells #[Value.int .i64 s.1, Value.int .i64 s.2] 57)).cell? ⟨b, 3, none⟩ = some (.slice ap ps.length cp) := (World.cell?_of_block (a := ⟨b, 3, none⟩) (Below.heap_alloc _ _ b (by omega))).trans c05
 go_region_law (refine step_append_lies _ (by rfl) _ _ _ (by rfl) D 57 i0 _ 2 16 underlying29 hi hz0 hz1 hz2 rfl (by omega) (.slice ap ps.length cp) ps.length (ps.flatMap Bn) (by rfl) (by exact hov.alloc _) ⟨w5.heap.size, 0, none⟩ 1 1 ([Value.int .i64 s.1, Value.int .i64 s.2]) (by rfl) (by rfl) (by exact NW w5 s) (I5.one s) (by omega) (by unfold maxLen; omega) (by omega) (by simp; omega) (w5.heap.size + 1) (by simp) ?_; intro gg cap2 w6 hown6 hgr6 hat hlt; have S6 := (HS6.out w6 hgr6).1; have F6 := (HS6.out w6 hgr6).2; have C6 := S6.1; have HF := A0 (And.intro hown6 (And.intro hgr6 hat)); clear hown6 hgr6 hat)
 all_goals
  go_wp2
  refine bodyPost_ret (results_tmp2 rfl _ _ _) rfl ?_
  obtain ⟨ho, hgr, hat⟩ := HF.out
  obtain ⟨hm, hp, hm5, hgX, hSX, hA, _, hDs, hzX, hs5⟩ := HX.out
  have hgr2 : w5.grownBy w6 vp.ownBlock := by rw [HV.out]; exact (World.grownBy_alloc w5 (.cells #[Value.int .i64 s.1, Value.int .i64 s.2] 57) _).trans ⟨hgr.os, hgr.tape, hgr.output, hgr.size, hgr.block⟩
  obtain ⟨p1, p3⟩ := SS.put hSX hDs.1 hp hm hs.out hok.out hm5 hgX hgr2 ho
  refine ⟨rfl, _, p1, (Ab.ofBelow hA).andNew p3 (fun _ _ e => e), ?_⟩
  intro k hk
  rcases hat with e | e
  · exact .inl (by rw [HV.out, e]; exact hk)
  · right
    simp [Value.ownBlock] at hk
    omega
theorem I9 (w : World) (D b bm : Nat) (f : Value) (bud : Int) (vp ve vn : Value) (ps : List Aq) (es : List Aa) (nn : Nat) (xn : List Value) (h : Hid (SS D w b bm f bud vp ve vn ps es nn xn)) : Calls prog 60 #[.pointer (some ⟨b, 0, none⟩)] w fun e w' => e = .returned (.bool (decide (65536 < es.length ∧ 4096 < bud))) ∧ w' = w := by
 have c1 : w.cell? ⟨b, 1, none⟩ = some (.int .i64 bud) := A1 h.out.bx rfl
 by_cases e1 : 65536 < es.length
 · have T := Cz w D b bm f bud vp ve vn ps es nn xn h
   rw [decide_eq_true e1] at T
   have hE := A0 e1
   clear e1
   go_enter func60, ntmps60
   go_wp2_with (go_at_call 61; refine T.mono ?_; rintro e W ⟨rfl, rfl⟩)
   go_ret
   refine ⟨?_, rfl⟩
   simp [hE.out]
 · have T := Cz w D b bm f bud vp ve vn ps es nn xn h
   rw [decide_eq_false e1] at T
   have hE := A0 e1
   clear e1
   go_enter func60, ntmps60
   go_wp2_with (go_at_call 61; refine T.mono ?_; rintro e W ⟨rfl, rfl⟩)
   go_ret
   refine ⟨?_, rfl⟩
   simp [hE.out]
end Go.Proofs.YtchoopnjckcohaaGreat
namespace Go.Proofs.YtchoopnjckcohaaGreat
open Tryz
open Go.RowKit
def M7 (n gf : Nat) (lb : Array Value) (E : List Value) (Kp : World → World → Prop) (w : World) : Prop :=
 ∀ (l : Nat) (J : Nat → World → Prop) (Jx : World → Prop) (W : World), Below w.heap.size w W → (∀ k A A', J k A → Below A.heap.size A A' → J k A') → (∀ A A', Jx A → Below A.heap.size A A' → Jx A') →
  (∀ (k : Nat) (W1 : World) (hk : k < E.length), J k W1 → YieldAt Fence.wide (n - 1) prog l #[E[k]] W1 fun e W' => (e = .returned (.bool true) ∧ J (k + 1) W' ∧ Kp W1 W') ∨ (e = .returned (.bool false) ∧ Jx W')) →
  J 0 W → CallsIn Fence.wide n prog gf (#[.func (.yield l) #[] #[]] ++ lb) W fun e W' => (∃ v, e = .returned v) ∧ (J E.length W' ∨ Jx W')
def LP (L : Nat) (Kp : World → World → Prop) (I : Nat → World → Prop) (Ix : World → Prop) (k : Nat) (W : World) : Exit → Act → World → Prop
 | .normal, _, W' => (W'.heap[L]? = W.heap[L]? ∧ W'.heap[L + 1]? = W.heap[L + 1]?) ∧ Kp W W' ∧ I k W'
 | .ret, _, W' => (W'.heap[L]? = W.heap[L]? ∧ W'.heap[L + 1]? = W.heap[L + 1]?) ∧ Ix W'
 | _, _, _ => False
theorem DY {n : Nat} {g : Operand} {t : Tmp} {assign body : Code} {Q : Exit → Act → World → Prop} {a : Act} {w w0 : World} {gf : Nat} {lb : Array Value} {E : List Value} {Kp : World → World → Prop}
 (h1 : 1 ≤ n) (hg : a.eval g = .func (.func gf) #[] lb) (eg : ∀ args w, (callFunc gf args).run prog w = .ok (.enter gf args) w) (hseq : M7 (n - 1) gf lb E Kp w0)
 (hKt : ∀ {A B C : World}, Kp A B → Kp B C → Kp A C) (hKn : ∀ (A B : World), w.heap.size ≤ A.heap.size → Below A.heap.size A B → Kp A B) (hKb : ∀ (W : World) (r r' : Loop), W.heap[w.heap.size + 1]? = some (.loop r) → Kp W (W.putObj (w.heap.size + 1) (.loop r'))) (hb0 : Below w0.heap.size w0 w)
 (I : Nat → World → Prop) (Ix : World → Prop) (hI : ∀ k A A', I k A → Below A.heap.size A A' → I k A') (hIp : ∀ k (A : World) (r r' : Loop), I k A → A.heap[w.heap.size + 1]? = some (.loop r) → I k (A.putObj (w.heap.size + 1) (.loop r'))) (hX : ∀ A A', Ix A → Below A.heap.size A A' → Ix A') (hXp : ∀ (A : World) (r r' : Loop), Ix A → A.heap[w.heap.size + 1]? = some (.loop r) → Ix (A.putObj (w.heap.size + 1) (.loop r'))) (h0 : I 0 w)
 (Ax : Value → Act → World → Prop) (hAp : ∀ x a' (A : World) (r r' : Loop), Ax x a' A → A.heap[w.heap.size + 1]? = some (.loop r) → Ax x a' (A.putObj (w.heap.size + 1) (.loop r')))
 (hassign : ∀ (l : Nat) (x : Value) (hx : x ∈ E) (W : World) (K : Act → World → Prop), (∀ a' W', Below W.heap.size W W' → Ax x a' W' → K a' W') → assign.wpIn (Fence.wide.inRound l) (n - 1 - 1) prog (Exit.then K (fun _ _ _ => False)) { tmps := (#[t].zip #[x]).foldl (fun t (p, v) => t.setIfInBounds p v) a.tmps, defers := [] } W)
 (hbody : ∀ (l k : Nat) (a' : Act) (W : World) (hk : k < E.length), I k W → Ax E[k] a' W → W.heap[w.heap.size]? = some (.deferred (some [])) → (∃ r, W.heap[w.heap.size + 1]? = some (.loop r)) → body.wpIn (Fence.wide.inRound l) (n - 1 - 1) prog (LP w.heap.size Kp I Ix (k + 1) W) a' W)
 (hdone : ∀ (D : Nat) (W : World), w.heap.size ≤ D → I E.length W → W.heap[D]? = some (.deferred (some [])) → Q .normal { a with defers := { target := .collected D, args := #[] } :: a.defers } W)
 (hstop : ∀ (D : Nat) (W : World), w.heap.size ≤ D → Ix W → W.heap[D]? = some (.deferred (some [])) → Code.ret.wpIn Fence.wide n prog Q { a with defers := { target := .collected D, args := #[] } :: a.defers } W) :
 (Code.rangeFunc g #[t] assign body).wpIn Fence.wide n prog Q a w := by
 refine wpIn_rangeFunc fun fn hfn => ?_
 obtain ⟨rec, hrec⟩ : ∃ rec : LoopState → Option Code → Loop, rec = fun st pe => { state := st, pending := pe, fn, tmps := a.tmps, params := #[t], assign, body, defers := w.heap.size } := ⟨_, rfl⟩
 obtain ⟨Wl, hWl⟩ : ∃ Wl, (w.alloc (.deferred (some []))).alloc (.loop (rec .ready none)) = Wl := ⟨_, rfl⟩
 have hLl : Wl.heap[w.heap.size + 1]? = some (.loop (rec .ready none)) := by
  rw [← hWl]; have := World.alloc_heap_new (w.alloc (.deferred (some []))) (.loop (rec .ready none)); rwa [World.size_alloc] at this
 have hDl : Wl.heap[w.heap.size]? = some (.deferred (some [])) := by
  rw [← hWl]; exact (Below.heap_alloc _ _ _ (by simp)).trans (World.alloc_heap_new w _)
 have hIl : I 0 Wl := by rw [← hWl]; exact hI _ _ _ (hI _ _ _ h0 ((Below.refl _ _).alloc (Nat.le_refl _) _)) ((Below.refl _ _).alloc (Nat.le_refl _) _)
 have hbl : Below w0.heap.size w0 Wl := by
  rw [← hWl]; exact hb0.trans ((((Below.refl _ w).alloc (Nat.le_refl _) _).alloc (by simp) _).mono hb0.size)
 refine ⟨w.heap.size + 1, [{ target := .collected w.heap.size, args := #[] }], Wl, { target := .fn (.func gf) lb, args := #[.func (.yield (w.heap.size + 1)) #[] #[]] }, Wl, gf,
  #[.func (.yield (w.heap.size + 1)) #[] #[]] ++ lb, Wl, by rw [← hWl, hrec]; exact run_enterLoop_outer _ _ _ _ _, by simp only [resolve, hg]; simp [go_sem], fun f' hf' => trivial, by simp [invoke, go_sem, eg], fun _ => h1, ?_⟩
 refine (hseq (w.heap.size + 1) (fun k W => I k W ∧ W.heap[w.heap.size + 1]? = some (.loop (rec .ready none)) ∧ W.heap[w.heap.size]? = some (.deferred (some []))) (fun W => Ix W ∧ W.heap[w.heap.size + 1]? = some (.loop (rec .done (some .ret))) ∧ W.heap[w.heap.size]? = some (.deferred (some []))) Wl hbl ?_ ?_ ?_ ⟨hIl, hLl, hDl⟩).mono ?_
 · rintro k A A' ⟨hi, hl, hd⟩ hb
   exact ⟨hI _ _ _ hi hb, (hb.block _ (Array.getElem?_eq_some_iff.1 hl).1).trans hl, (hb.block _ (Array.getElem?_eq_some_iff.1 hd).1).trans hd⟩
 · rintro A A' ⟨hi, hl, hd⟩ hb
   exact ⟨hX _ _ hi hb, (hb.block _ (Array.getElem?_eq_some_iff.1 hl).1).trans hl, (hb.block _ (Array.getElem?_eq_some_iff.1 hd).1).trans hd⟩
 · rintro k W hk ⟨hi, hl, hd⟩
   have hy := run_yield (P := prog) (args := #[E[k]]) hl (by rw [hrec]; rfl)
   rw [hrec] at hy
   refine ⟨fn, _, assign, body, hy, roundIn_of_wpIn hfn (hassign _ E[k] (List.getElem_mem hk) W _ ?_)⟩
   intro a' Wa hba hax
   have hla : Wa.heap[w.heap.size + 1]? = some (.loop (rec .ready none)) := (hba.block _ (Array.getElem?_eq_some_iff.1 hl).1).trans hl
   have hda : Wa.heap[w.heap.size]? = some (.deferred (some [])) := (hba.block _ (Array.getElem?_eq_some_iff.1 hd).1).trans hd
   have hkn : Kp W Wa := hKn _ _ (by have := (Array.getElem?_eq_some_iff.1 hl).1; omega) hba
   have hlt : w.heap.size + 1 < Wa.heap.size := (Array.getElem?_eq_some_iff.1 hla).1
   refine ⟨_, run_beginRound hla (by rw [hrec]), ?_⟩
   obtain ⟨busy, hbusy⟩ : ∃ busy : Loop, busy = { rec .ready none with state := .busy } := ⟨_, rfl⟩
   have hl2 : (Wa.putObj (w.heap.size + 1) (.loop busy)).heap[w.heap.size + 1]? = some (.loop busy) := World.putObj_heap_same hlt
   have hd2 : (Wa.putObj (w.heap.size + 1) (.loop busy)).heap[w.heap.size]? = some (.deferred (some [])) := (World.putObj_heap_other (by omega)).trans hda
   have hkp : Kp Wa (Wa.putObj (w.heap.size + 1) (.loop busy)) := hKb _ _ _ hla
   rw [← hbusy]
   refine wpIn_mono (hbody _ k a' _ hk (hIp _ _ _ _ (hI _ _ _ hi hba) hla) (hAp _ _ _ _ _ hax hla) hd2 ⟨_, hl2⟩) ?_
   rintro e a3 W3 hp
   cases e with
   | normal =>
    obtain ⟨hk3, hkp3, hi3⟩ := hp
    have hl3 := hk3.2.trans hl2
    have hr3 := run_endRound (P := prog) none hl3
    rw [hbusy, hrec] at hr3
    refine ⟨_, _, hr3, .inl ⟨rfl, ⟨hIp _ _ _ _ hi3 hl3, ?_, (World.putObj_heap_other (by omega)).trans (hk3.1.trans hd2)⟩, hKt hkn (hKt (hKt hkp hkp3) (hKb _ _ _ hl3))⟩⟩
    rw [hrec]
    exact World.putObj_heap_same (Array.getElem?_eq_some_iff.1 hl3).1
   | ret =>
    obtain ⟨hk3, hi3⟩ := hp
    have hl3 := hk3.2.trans hl2
    have hr3 := run_endRound (P := prog) (some .ret) hl3
    rw [hbusy, hrec] at hr3
    refine ⟨_, _, hr3, .inr ⟨rfl, hXp _ _ _ hi3 hl3, ?_, (World.putObj_heap_other (by omega)).trans (hk3.1.trans hd2)⟩⟩
    rw [hrec]
    exact World.putObj_heap_same (Array.getElem?_eq_some_iff.1 hl3).1
   | exit id => exact hp.elim
   | goto t => exact hp.elim
   | panic ch => exact hp.elim
   | outgrown => exact hp.elim
 · rintro e W2 ⟨⟨v, rfl⟩, ⟨hi, hl, hd⟩ | ⟨hi, hl, hd⟩⟩
   · exact ⟨none, _, by have := run_endLoop (P := prog) hl (by rw [hrec]; simp); rw [hrec] at this; exact this, hdone _ _ (Nat.le_refl _) (hIp _ _ _ _ hi hl) ((World.putObj_heap_other (by omega)).trans hd)⟩
   · exact ⟨some .ret, _, by have := run_endLoop (P := prog) hl (by rw [hrec]; simp); rw [hrec] at this; exact this, hstop _ _ (Nat.le_refl _) (hXp _ _ _ hi hl) ((World.putObj_heap_other (by omega)).trans hd)⟩
end Go.Proofs.YtchoopnjckcohaaGreat
namespace Go.Proofs.YtchoopnjckcohaaGreat
open Tryz
open Go.RowKit Go.Maps Go.Shelf
attribute [local go_sem] Oper.semAt_some
theorem OB (w : World) (B m R p s n k : Nat) (aE : Option Addr) (cE g : Nat) (Ed : List Aa) (hn : Ed.length = n) (hA : Hid (Fs B w m R Ed aE n cE g)) (hS : Hid (Fc Ed)) (hF : Hid (∀ e ∈ Ed, 0 ≤ e.2.1 ∧ e.2.1 < (m : Int))) (hs : s < m) (hk : p * m + s = k) (hkR : k < R) (hR : R ≤ 524288) (hl : n ≤ 4194304) :
 Calls prog 41 #[.agg #[.int .i64 (m : Int), .slice aE n cE, .slice (some ⟨g, 0, none⟩) (R + 1) (R + 1)], .int .i64 (p : Int), .int .i64 (s : Int)] w fun e w' => ∃ a c, e = .returned (.slice a (Ar Ed p (s : Int)).length c) ∧ Hid (BB w a (B5 (Ar Ed p (s : Int))) ∧ (Ar Ed p (s : Int)).length ≤ c ∧ Below w.heap.size w w' ∧ ∀ ga o, a = some ⟨ga, o, none⟩ → ∃ o', aE = some ⟨ga, o', none⟩) := by
 obtain ⟨W0, hW0⟩ : ∃ W0, w.alloc (.cells #[.int .i64 (m : Int), .slice aE n cE, .slice (some ⟨g, 0, none⟩) (R + 1) (R + 1)] 67) = W0 := ⟨_, rfl⟩
 have HD : Hid (Below w.heap.size w W0) := A0 (by rw [← hW0]; exact (Below.refl _ _).alloc (Nat.le_refl _) _)
 have b0 : W0.heap[w.heap.size]? = some (.cells #[.int .i64 (m : Int), .slice aE n cE, .slice (some ⟨g, 0, none⟩) (R + 1) (R + 1)] 67 (0, 0)) := by rw [← hW0]; exact World.alloc_heap_new _ _
 obtain ⟨k0, k1, k2⟩ := Jt b0 rfl rfl rfl
 have HM := A0 (hA.out.fi.below HD.out hA.out.fi.lt)
 have r0 := HM.out.at k (by omega)
 have r1 := HM.out.at (k + 1) (by omega)
 have u0 := CF (kE m Ed) k
 have u1 := CF (kE m Ed) (k + 1)
 have u2 : AN (kE m Ed) k ≤ AN (kE m Ed) (k + 1) := by rw [DM]; omega
 rw [FE, hn] at u0 u1
 have HL := A0 (Eo (Es := Ed) (lo := AN (kE m Ed) k) (hi := AN (kE m Ed) (k + 1)) (by rw [hn]; exact u1))
 have HC := A0 (JH hA.out.ow)
 have HO : Hid (BB w aE (B5 Ed)) := A0 (AM (c := cE) (by rw [Bw, hn]; exact hA.out.ow))
 have HR : Hid (∀ g', aE = some ⟨g', 0, none⟩ → BB w (some ⟨g', AN (kE m Ed) k, none⟩) (B5 (En Ed (AN (kE m Ed) k) (AN (kE m Ed) (k + 1))))) := A0 (fun g' e => by
  have q := HO.out
  rw [e] at q
  have q2 := Mm q (AN (kE m Ed) k) (AN (kE m Ed) (k + 1))
  rw [Nat.zero_add] at q2
  exact q2)
 rw [Ms hS.out hF.out hs hk] at HL HR
 generalize Ar Ed p (s : Int) = F at HL HR ⊢
 generalize AN (kE m Ed) k = lo at *
 generalize AN (kE m Ed) (k + 1) = hi at *
 have epm : (p : Int) * (m : Int) = ((p * m : Nat) : Int) := by simp
 have e1 : IntKind.i64.wrap ((p : Int) * (m : Int)) = (p : Int) * (m : Int) := by rw [epm, IntKind.wrap_i64]; omega
 have e2 : IntKind.i64.wrap ((p : Int) * (m : Int) + (s : Int)) = (k : Int) := by rw [epm, IntKind.wrap_i64]; omega
 have e3 : IntKind.i64.wrap ((k : Int) + 1) = (k : Int) + 1 := by rw [IntKind.wrap_i64]; omega
 have v0 : (0 : Int) ≤ (k : Int) := by omega
 have v1 : (k : Int) < (R : Int) + 1 := by omega
 have v2 : (k : Int) + 1 < (R : Int) + 1 := by omega
 have v3 : (lo : Int) ≤ (hi : Int) := by omega
 have v5 : (k : Int) ≤ 524288 := by omega
 have v6 : (0 : Int) ≤ (lo : Int) := by omega
 clear b0 hA hS hF HO HM epm hk hn
 rcases HC.out with ⟨rfl, rfl, rfl⟩ | ⟨gE, rfl, hc, -⟩
 · obtain rfl : lo = 0 := by omega
   obtain rfl : hi = 0 := by omega
   have hn : F = [] := List.eq_nil_of_length_eq_zero (by have := HL.out; omega)
   subst hn
   clear HR HL HC u0 u1 u2
   go_enter func41, ntmps41
   go_upto_region 2 with fail
   refine Al 13 #[true, true, true, true, true, true, true, true, true, true, true, true, true, false, false] (by kernel_rfl) (by kernel_rfl) ?_
   simp only [List.take_succ_cons, List.take_zero, List.drop_succ_cons, List.drop_zero]
   repeat (go_big_quiet_step (fail))
   refine wpQuiet_nil ?_
   intro wz hzz
   obtain ⟨nq, rfl⟩ := hzz
   go_wp2_with fail
   refine bodyPost_ret (results_tmp rfl _ _ _) rfl ?_
   exact ⟨none, 0, rfl, A0 ⟨fun j hj => absurd hj (Nat.not_lt_zero _), Nat.le_refl _, Au HD.out nq, fun _ _ e => by cases e⟩⟩
 · have v4 : (hi : Int) ≤ (cE : Int) := by omega
   have HR2 := A0 (HR.out gE rfl)
   clear HR HC
   go_enter func41, ntmps41
   go_upto_region 2 with fail
   refine Al 13 #[true, true, true, true, true, true, true, true, true, true, true, true, true, false, false] (by kernel_rfl) (by kernel_rfl) ?_
   simp only [List.take_succ_cons, List.take_zero, List.drop_succ_cons, List.drop_zero]
   repeat (go_big_quiet_step (fail))
   refine wpQuiet_nil ?_
   intro wz hzz
   obtain ⟨nq, rfl⟩ := hzz
   go_wp2_with fail
   · rename cE = lo => hkl
     subst hkl
     refine bodyPost_ret (results_tmp rfl _ _ _) rfl ?_
     have hn : F = [] := List.eq_nil_of_length_eq_zero (by have := HL.out; omega)
     refine ⟨some ⟨gE, 0, none⟩, 0, by rw [HL.out]; rfl, A0 ⟨by rw [hn]; intro j hj; exact absurd hj (Nat.not_lt_zero _), by rw [hn]; exact Nat.le_refl _, Au HD.out nq, fun _ _ e => by cases e; first | rfl | exact ⟨0, rfl⟩⟩⟩
   · refine bodyPost_ret (results_tmp rfl _ _ _) rfl ?_
     exact ⟨some ⟨gE, lo, none⟩, cE - lo, by rw [HL.out]; rfl, A0 ⟨HR2.out, by rw [HL.out]; omega, Au HD.out nq, fun _ _ e => by cases e; first | rfl | exact ⟨0, rfl⟩⟩⟩
def Az (X Y : List Int) : List Aq := X.flatMap fun p => Y.map fun q => (p, q)
theorem Dl (X Y : List Int) : (Az X Y).length = X.length * Y.length := by
 unfold Az
 induction X with
 | nil => simp
 | cons x X ih => rw [List.flatMap_cons, List.length_append, ih, List.length_map, List.length_cons, Nat.add_mul, Nat.one_mul, Nat.add_comm]
theorem Ho (X Y : List Int) : ∀ (i j : Nat) (hi : i < X.length) (hj : j < Y.length) (h : i * Y.length + j < (Az X Y).length), (Az X Y)[i * Y.length + j] = (X[i], Y[j]) := by
 induction X with
 | nil => intro i j hi; simp at hi
 | cons x X ih =>
  intro i j hi hj h
  have e : Az (x :: X) Y = Y.map (fun q => (x, q)) ++ Az X Y := rfl
  cases i with
  | zero =>
   simp only [e, Nat.zero_mul, Nat.zero_add, List.getElem_cons_zero]
   rw [List.getElem_append_left (by simpa using hj)]
   simp
  | succ i =>
   have hi' : i < X.length := by simpa using hi
   have hlt : i * Y.length + j < (Az X Y).length := by
    rw [Dl]
    have := Nat.mul_le_mul_right Y.length (show i + 1 ≤ X.length by omega)
    rw [Nat.add_mul, Nat.one_mul] at this
    omega
   have q := ih i j hi' hj hlt
   have ee : (i + 1) * Y.length + j = Y.length + (i * Y.length + j) := by rw [Nat.add_mul, Nat.one_mul]; omega
   simp only [e, ee, List.getElem_cons_succ]
   rw [List.getElem_append_right (by simp)]
   simpa using q
structure Bu (Sf : Nat → Prop) (A B : World) : Prop where
 size : A.heap.size ≤ B.heap.size
 blk : ∀ k, k < A.heap.size → Sf k → B.heap[k]? = A.heap[k]?
theorem Bu.trans {Sf : Nat → Prop} {A B C : World} (h : Bu Sf A B) (k : Bu Sf B C) : Bu Sf A C :=
 ⟨Nat.le_trans h.size k.size, fun i hi hs => (k.blk i (Nat.lt_of_lt_of_le hi h.size) hs).trans (h.blk i hi hs)⟩
theorem Bu.ofBelow {Sf : Nat → Prop} {A B : World} (d : Below A.heap.size A B) : Bu Sf A B := ⟨d.size, fun k hk _ => d.block k hk⟩
theorem Bu.ofOnly {Sf R : Nat → Prop} {A B : World} (d : Ab A B R) (h : ∀ k, Sf k → ¬ R k) : Bu Sf A B := ⟨d.size, fun k hk hs => d.block k hk (h k hs)⟩
theorem Bu.cellK {Sf : Nat → Prop} {A B : World} (h : Bu Sf A B) {k : Nat} {o : Obj} (hk : A.heap[k]? = some o) (hs : Sf k) : B.heap[k]? = some o := (h.blk k (Array.getElem?_eq_some_iff.1 hk).1 hs).trans hk
theorem FI {Sf : Nat → Prop} {A A' : World} {B : Nat} {e : TypeId} {sz n : Nat} {v : Value} {xs : List Value} (h : A.ownsRow B e sz v n xs) (k : Bu Sf A A') (hs : ∀ i, v.ownBlock = some i → Sf i) : A'.ownsRow B e sz v n xs := by
 refine ⟨h.1, ?_⟩
 have hlt := h.lt
 rcases h.2 with h2 | ⟨g, cap, cur, rfl, hb, hg, rest⟩
 · exact .inl h2
 · exact .inr ⟨g, cap, cur, rfl, hb, (k.blk g (hlt g rfl).2 (hs g rfl)).trans hg, rest⟩
structure Gd (Sf : Nat → Prop) (W : World) (bx B m R : Nat) (Ed : List Aa) (aE : Option Addr) (cE g : Nat) : Prop where
 hb : W.heap[bx]? = some (.cells #[.int .i64 (m : Int), .slice aE Ed.length cE, .slice (some ⟨g, 0, none⟩) (R + 1) (R + 1)] 67 (0, 0))
 rw : Fs B W m R Ed aE Ed.length cE g
 sx : Sf bx
 sg : Sf g
 se : ∀ i o, aE = some ⟨i, o, none⟩ → Sf i
theorem Gd.kp {Sf : Nat → Prop} {W W' : World} {bx B m R : Nat} {Ed : List Aa} {aE : Option Addr} {cE g : Nat} (h : Gd Sf W bx B m R Ed aE cE g) (k : Bu Sf W W') : Gd Sf W' bx B m R Ed aE cE g := by
 refine ⟨k.cellK h.hb h.sx, ⟨FI h.rw.ow k (fun i hi => ?_), ?_, h.rw.ge⟩, h.sx, h.sg, h.se⟩
 · rcases h.rw.ow.2 with ⟨e, _⟩ | ⟨g', cap, cur, e, _⟩
   · rw [e] at hi; cases hi
   · rw [e] at hi
     obtain rfl : g' = i := by simpa [Value.ownBlock] using hi
     cases e
     exact h.se _ _ rfl
 · obtain ⟨cur, q1, q2⟩ := h.rw.fi
   exact ⟨cur, k.cellK q1 h.sg, q2⟩
structure P0 (Sf : Nat → Prop) (W : World) (b1 b2 fb sb B1 B2 m R1 R2 : Nat) (E1 E2 : List Aa) (a1 a2 : Option Addr) (c1 c2 g1 g2 p q s : Nat) : Prop where
 r1 : Gd Sf W b1 B1 m R1 E1 a1 c1 g1
 r2 : Gd Sf W b2 B2 m R2 E2 a2 c2 g2
 fx : W.heap[fb]? = some (.cells #[.int .i64 (p : Int), .int .i64 (q : Int)] 57 (0, 0))
 sx : W.heap[sb]? = some (.cells #[.int .i64 (s : Int)] 3 (0, 0))
 sf : Sf fb
 ss : Sf sb
theorem P0.kp {Sf : Nat → Prop} {W W' : World} {b1 b2 fb sb B1 B2 m R1 R2 : Nat} {E1 E2 : List Aa} {a1 a2 : Option Addr} {c1 c2 g1 g2 p q s : Nat} (h : P0 Sf W b1 b2 fb sb B1 B2 m R1 R2 E1 E2 a1 a2 c1 c2 g1 g2 p q s) (k : Bu Sf W W') : P0 Sf W' b1 b2 fb sb B1 B2 m R1 R2 E1 E2 a1 a2 c1 c2 g1 g2 p q s :=
 ⟨h.r1.kp k, h.r2.kp k, k.cellK h.fx h.sf, k.cellK h.sx h.ss, h.sf, h.ss⟩
structure My (m R p s : Nat) (Ed : List Aa) : Prop where
 ss : Fc Ed
 ok : ∀ e ∈ Ed, 0 ≤ e.2.1 ∧ e.2.1 < (m : Int)
 hs : s < m
 hk : p * m + s < R
 hR : R ≤ 524288
 hl : Ed.length ≤ 4194304
theorem Jr {Sf : Nat → Prop} {W : World} {bx B m R p s : Nat} {Ed : List Aa} {aE : Option Addr} {cE g : Nat} (h : Gd Sf W bx B m R Ed aE cE g) (q : My m R p s Ed) :
 Calls prog 41 #[.agg #[.int .i64 (m : Int), .slice aE Ed.length cE, .slice (some ⟨g, 0, none⟩) (R + 1) (R + 1)], .int .i64 (p : Int), .int .i64 (s : Int)] W fun e w' => ∃ a c, e = .returned (.slice a (B5 (Ar Ed p (s : Int))).length c) ∧ Hid ((∀ W', Bu Sf W W' → BB W' a (B5 (Ar Ed p (s : Int)))) ∧ Below W.heap.size W w') := by
 refine (OB W B m R p s Ed.length (p * m + s) aE cE g Ed rfl (A0 h.rw) (A0 q.ss) (A0 q.ok) q.hs rfl q.hk q.hR q.hl).mono ?_
 rintro e w' ⟨a, c, rfl, H⟩
 refine ⟨a, c, by rw [Bw], A0 ⟨fun W' k j hj => ?_, H.out.2.2.1⟩⟩
 obtain ⟨g', o', e', cc⟩ := H.out.1 j hj
 obtain ⟨o2, e2⟩ := H.out.2.2.2 g' o' e'
 exact ⟨g', o', e', (World.cell?_of_block (a := ⟨g', o' + j, none⟩) (k.blk g' (World.block_lt_of_cell? W _ cc) (h.se _ _ e2))).trans cc⟩
theorem Ny (n : Nat) (Sf : Nat → Prop) (w : World) (b1 b2 fb sb B1 B2 m R1 R2 : Nat) (E1 E2 : List Aa) (a1 a2 : Option Addr) (c1 c2 g1 g2 p q s : Nat) (h : Hid (P0 Sf w b1 b2 fb sb B1 B2 m R1 R2 E1 E2 a1 a2 c1 c2 g1 g2 p q s)) (q1 : Hid (My m R1 p s E1)) (q2 : Hid (My m R2 q s E2)) :
 M7 n 70 #[.pointer (some ⟨b1, 0, none⟩), .pointer (some ⟨fb, 0, none⟩), .pointer (some ⟨sb, 0, none⟩), .pointer (some ⟨b2, 0, none⟩)] ((Az (B5 (Ar E1 p (s : Int))) (B5 (Ar E2 q (s : Int)))).map GV) (Bu Sf) w := by
 intro l J Jx W hW hJ hJx hY h0
 have HJ := A0 hJ
 have HJx := A0 hJx
 have HY := A0 hY
 have HT := A0 (h.out.kp (Bu.ofBelow (Sf := Sf) hW))
 have T1 := Jr HT.out.r1 q1.out
 generalize hX : B5 (Ar E1 p (s : Int)) = X at *
 have T2 := fun (wr : World) (k : Bu Sf W wr) => Jr (HT.out.r2.kp k) q2.out
 generalize hYl : B5 (Ar E2 q (s : Int)) = Y at *
 have HT2 := A0 T2
 have hXl : X.length ≤ 4194304 := by
  have := q1.out.hl
  rw [← hX, Bw]
  exact Nat.le_trans (List.length_filter_le _ _) this
 have hYl2 : Y.length ≤ 4194304 := by
  have := q2.out.hl
  rw [← hYl, Bw]
  exact Nat.le_trans (List.length_filter_le _ _) this
 have HC := A0 (fun (wr : World) (k : Bu Sf W wr) => HT.out.kp k)
 have x1 := HT.out.r1.hb
 obtain ⟨k0, k1, k2⟩ := Jt HT.out.r1.hb rfl rfl rfl
 have k3 : W.cell? ⟨fb, 0, none⟩ = some (.int .i64 (p : Int)) := A1 HT.out.fx rfl
 have k5 : W.cell? ⟨sb, 0, none⟩ = some (.int .i64 (s : Int)) := A1 HT.out.sx rfl
 clear hJ hJx hY hW h hX hYl T2 x1 q1 q2
 refine callsIn_of_wp func70 rfl trivial ?_ rfl
 simp only [ntmps70, List.size_toArray, List.length_cons, List.length_nil, Nat.reduceAdd, Nat.reduceSub, Array.replicate_succ, Array.replicate_zero, List.push_toArray, List.append_toArray, List.nil_append, List.cons_append]
 gi_wp2
 refine ⟨trivial, (fun h => by cases h), (callsIn_wide.2 T1).mono ?_⟩
 rintro e W1 ⟨ax, cx, rfl, H1⟩
 have HX := A0 H1.out.1
 have hK1 : Bu Sf W W1 := Bu.ofBelow H1.out.2
 have hJ1 := HJ.out 0 W W1 h0 H1.out.2
 clear T1 k0 k1 k2 k3 k5 h0 H1
 gi_wp2
 gi_loopw [16] (fun i wr => ∃ (k : Nat), k ≤ X.length ∧ i = .int .i64 k ∧ Bu Sf W wr ∧ J (k * Y.length) wr) (fun i _ => X.length - (intOf i).toNat)
 case atStart => exact ⟨0, Nat.zero_le _, rfl, hK1, by rw [Nat.zero_mul]; exact hJ1⟩
 case round =>
  clear hK1 hJ1
  obtain ⟨k, hk, rfl, hkp, hJk⟩ := hrel
  by_cases hlt : k < X.length
  · obtain ⟨gx, ox, rfl, cx'⟩ := HX.out wr hkp k hlt
    have HT3 := A0 (HC.out wr hkp)
    obtain ⟨k0, k1, k2⟩ := Jt HT3.out.r2.hb rfl rfl rfl
    have k3 : wr.cell? ⟨fb, 1, none⟩ = some (.int .i64 (q : Int)) := A1 HT3.out.fx rfl
    have k5 : wr.cell? ⟨sb, 0, none⟩ = some (.int .i64 (s : Int)) := A1 HT3.out.sx rfl
    have T3 := HT2.out wr hkp
    generalize hx : X[k] = x at *
    have hlt' : (k : Int) < (X.length : Int) := by omega
    gi_wp2
    refine ⟨trivial, (fun h => by cases h), (callsIn_wide.2 T3).mono ?_⟩
    rintro e W2 ⟨ay, cy, rfl, H2⟩
    have HYr := A0 H2.out.1
    have hK2 : Bu Sf wr W2 := Bu.ofBelow H2.out.2
    have hJ2 := HJ.out _ wr W2 hJk H2.out.2
    clear T3 k0 k1 k2 k3 k5 hJk H2 cx' HT3
    gi_wp2
    gi_loopw [26] (fun i wi => ∃ (j : Nat), j ≤ Y.length ∧ i = .int .i64 j ∧ Bu Sf wr wi ∧ J (k * Y.length + j) wi) (fun i _ => Y.length - (intOf i).toNat)
    case atStart => exact ⟨0, Nat.zero_le _, rfl, hK2, hJ2⟩
    case round =>
     clear hK2 hJ2
     obtain ⟨j, hj, rfl, hkq, hJj⟩ := hrel
     by_cases hlj : j < Y.length
     · obtain ⟨gy, oy, rfl, cy'⟩ := HYr.out _ hkq j hlj
       have hcl : k * Y.length + j < (Az X Y).length := by
        rw [Dl]
        have := Nat.mul_le_mul_right Y.length (show k + 1 ≤ X.length by omega)
        rw [Nat.add_mul, Nat.one_mul] at this
        omega
       have hv : ((Az X Y).map GV)[k * Y.length + j]'(by rw [List.length_map]; exact hcl) = .agg #[.int .i64 x, .int .i64 Y[j]] := by
        rw [List.getElem_map, Ho X Y k j hlt hlj hcl, hx]; rfl
       obtain ⟨fn, tmps, assign, body, hyy, hR⟩ := HY.out (k * Y.length + j) _ (by rw [List.length_map]; exact hcl) hJj
       rw [hv] at hyy
       clear hv
       generalize hy : Y[j] = y at *
       have hlj' : (j : Int) < (Y.length : Int) := by omega
       gi_wp2
       refine ⟨(fun h => by cases h), hR.mono ?_⟩
       rintro e W3 (⟨rfl, hJ3, hk3⟩ | ⟨rfl, hx3⟩)
       · gi_wp2
         go_roundw
         case rel => exact ⟨j + 1, by omega, by go_num, hkq.trans hk3, hJ3⟩
         case measure => simp [intOf]; omega
       · gi_wp2
         refine bodyPost_ret (results_none rfl _ _ _) rfl ?_
         exact ⟨⟨_, rfl⟩, .inr hx3⟩
     · have hlj' : ¬ (j : Int) < (Y.length : Int) := by omega
       obtain rfl : j = Y.length := by omega
       gi_wp2
       go_roundw
       case rel => exact ⟨k + 1, by omega, by go_num, hkp.trans hkq, by rw [Nat.add_mul, Nat.one_mul]; exact hJj⟩
       case measure => simp [intOf]; omega
  · have hlt' : ¬ (k : Int) < (X.length : Int) := by omega
    obtain rfl : k = X.length := by omega
    gi_wp2
    go_end0
    exact ⟨⟨_, rfl⟩, .inl (by simpa [Dl] using hJk)⟩
theorem L8 (p q s : Int) (b1 b2 : Nat) (w : World) :
 Calls prog 69 #[.agg #[.int .i64 p, .int .i64 q], .int .i64 s, .pointer (some ⟨b1, 0, none⟩), .pointer (some ⟨b2, 0, none⟩)] w fun e w' => e = .returned (.func (.func 70) #[] #[.pointer (some ⟨b1, 0, none⟩), .pointer (some ⟨w.heap.size, 0, none⟩), .pointer (some ⟨w.heap.size + 1, 0, none⟩), .pointer (some ⟨b2, 0, none⟩)]) ∧ w' = (w.alloc (.cells #[.int .i64 p, .int .i64 q] 57)).alloc (.cells #[.int .i64 s] 3) := by
 go_enter func69, ntmps69
 go_wp2
 go_ret
 exact ⟨rfl, rfl⟩
theorem N0 (x0 x1 x2 y0 y1 y2 : Value) (w : World) :
 Calls prog 51 #[.agg #[x0, x1, x2], .agg #[y0, y1, y2]] w fun e w' => e = .returned (.func (.func 69) #[] #[.pointer (some ⟨w.heap.size, 0, none⟩), .pointer (some ⟨w.heap.size + 1, 0, none⟩)]) ∧ w' = (w.alloc (.cells #[x0, x1, x2] 67)).alloc (.cells #[y0, y1, y2] 67) := by
 go_enter func51, ntmps51
 go_wp2
 go_ret
 exact ⟨rfl, rfl⟩
open Go.Proofs
section
variable {P : Program} {ops : Array Oper} {Q : Exit → Act → World → Prop} {l n : Nat} {md : Region.Mode}
theorem Jl {o : Oper} {a : Act} {w : World} {K : Act → World → Prop} (hd : ∀ c, o.op ≠ .defer c) (h : o.wp P a w K Q) : o.wpIn (Fence.wide.inRound l) n P a w K Q := by
 refine ⟨fun f _ => trivial, ?_⟩
 rw [Oper.semAt_eq _ _ _ hd]
 unfold Oper.wp at h
 generalize (execOp a.eval o).run P w = r at h ⊢
 cases r with
 | ok x w' =>
  cases x <;> simp only [Oper.upon, Oper.uponIn] at h ⊢ <;>
   first
    | exact h
    | exact h.elim
    | exact ⟨fun e => (by cases e), (CallsIn.inRound l (callsIn_wide.2 h)).mono (fun e w'' he => by cases e <;> exact he)⟩
    | exact ⟨fun e => (by cases e), fun c cs _ => let ⟨v, w'', r, s⟩ := h c cs; ⟨v, w'', r, stepsIn_wide.2 s⟩⟩
 | halt x w' => cases x <;> simp only [Oper.upon, Oper.uponIn] at h ⊢ <;> exact h
theorem Hh (hd : ∀ (i : Nat) (o : Oper), ops[i]? = some o → ∀ c, o.op ≠ .defer c) (hQ : ¬ LetsOut Q) : ∀ (fuel : Nat) (listed : Array Bool) (a : Act) (w : World), wpAny P md ops Q fuel listed a w → wpAnyIn (Fence.wide.inRound l) n P md ops Q fuel listed a w := by
 intro fuel
 induction fuel with
 | zero => exact fun _ _ _ h => h
 | succ fuel ih =>
  intro listed a w h
  refine ⟨h.1, fun i hi => ?_⟩
  have h2 := h.2 i hi
  unfold wpOp at h2
  unfold wpOpIn
  cases ho : ops[i]? with
  | none => rw [ho] at h2; exact ih _ _ _ h2
  | some o =>
   rw [ho] at h2
   simp only at h2 ⊢
   by_cases hw : Region.wanted o (yielded ops a.tmps) = true
   · rw [if_pos hw] at h2 ⊢
     rcases h2 with h2 | ⟨_, h2⟩
     · exact Oper.wpIn_mono (fun a w => ih _ a w) (Jl (hd i o ho) h2)
     · exact absurd h2 hQ
   · rw [if_neg hw] at h2 ⊢
     exact ⟨fun f _ => trivial, ih _ _ _ h2⟩
def JG (K : Act → World → Prop) : Exit → Act → World → Prop
 | .normal, a, w => K a w
 | _, _, _ => False
theorem Ci {id : Nat} {a : Act} {w : World} (hm : P.follows .mixedOrders = true) (hd : ∀ (i : Nat) (o : Oper), ops[i]? = some o → ∀ c, o.op ≠ .defer c) (h : wpAny P .any ops (JG (Q .normal)) ops.size (Array.replicate ops.size false) a w.drew) : (Code.region id ops true).wpIn (Fence.wide.inRound l) n P Q a w := by
 refine wpIn_mono (Q := JG (Q .normal)) (wpIn_region_any hm (Hh hd (fun ⟨_, _, h⟩ => h) _ _ _ _ h)) ?_
 intro e a w h
 cases e with
 | normal => exact h
 | _ => exact h.elim
end
theorem Io (W : World) (B n : Nat) (v : Value) (L : List Int) (hn : n = L.length) (hv : W.ownsRow B 3 1 v n (L.map (Value.int .i64))) (hl : n ≤ 4194304) :
 Calls prog 87 #[v] W fun e w' => ∃ v', e = .returned v' ∧ w'.ownsRow B 3 1 v' (Lib.compact L).length ((Lib.compact L).map (Value.int .i64)) ∧ W.grownBy w' v.ownBlock ∧ ((v = .slice none 0 0 ∧ v' = .slice none 0 0) ∨ ∃ g cap k, v = .slice (some ⟨g, 0, none⟩) n cap ∧ v' = .slice (some ⟨g, 0, none⟩) k cap) := by
 rcases hv.2 with ⟨ev, e0⟩ | ⟨g, cap, cur, rfl, _⟩
 · subst ev e0
   obtain rfl : L = [] := List.eq_nil_of_length_eq_zero hn.symm
   refine (Tryz.slices_Compact_int_empty none 0 W).mono ?_
   rintro e w' ⟨rfl, rfl⟩
   have : Lib.compact ([] : List Int) = [] := List.eq_nil_of_length_eq_zero (Nat.le_zero.1 (BI _))
   rw [this]
   exact ⟨_, rfl, hv, ⟨rfl, rfl, rfl, Nat.le_refl _, fun _ _ _ => rfl⟩, .inl ⟨rfl, rfl⟩⟩
 · refine (CU W B g cap n L hn hv hl).mono ?_
   rintro e w' ⟨rfl, a, b⟩
   exact ⟨_, rfl, a, b, .inr ⟨g, cap, _, rfl, rfl⟩⟩
theorem Mz {w wr : World} {B n : Nat} {vL vc : Value} {k : Nat} {xs ys : List Value} (h : (vL = .slice none 0 0 ∧ n = 0) ∨ ∃ g cap cur, vL = .slice (some ⟨g, 0, none⟩) n cap ∧ B ≤ g ∧ w.heap[g]? = some (.cells cur 3 (0, 0)) ∧ n ≤ cap ∧ cap ≤ maxLen ∧ cur.size = cap * 1 ∧ cur.toList.take (n * 1) = xs)
 (hb : (vL = .slice none 0 0 ∧ vc = .slice none 0 0) ∨ ∃ g cap k, vL = .slice (some ⟨g, 0, none⟩) n cap ∧ vc = .slice (some ⟨g, 0, none⟩) k cap) (hc : wr.ownsRow B 3 1 vc k ys) : ∃ zs, wr.ownsRow B 3 1 vL n zs := by
 rcases h with ⟨e1, e2⟩ | ⟨g, cap, cur, e1, h1, _, h3, h4, _, _⟩
 · exact ⟨[], by simp [e2], .inl ⟨e1, e2⟩⟩
 · rcases hb with ⟨e, _⟩ | ⟨g', cap', k', e2, e3⟩
   · rw [e1] at e; cases e
   · rw [e1] at e2
     cases e2
     rcases hc.2 with ⟨e4, _⟩ | ⟨g2, cap2, cur2, e4, q1, q2, q3, q4, q5, _⟩
     · rw [e3] at e4; cases e4
     · rw [e3] at e4
       cases e4
       refine ⟨cur2.toList.take (n * 1), ?_, .inr ⟨g, cap, cur2, e1, h1, q2, h3, h4, q5, rfl⟩⟩
       rw [List.length_take, Array.length_toList, q5]
       omega
theorem F0 {ops : Array Oper} {rest : List Oper} {o : Oper} {a : Act} {Q : Exit → Act → World → Prop} {w : World} (hgd : o.guard = none) (s x : Operand)
 (ho : o.op = .call { callee := .builtin .append, args := #[s, x], argTypes := #[23, 23] }) (B : Nat) (v : Value) (X : List Aa) (hs : a.eval s = v) (hown : w.ownsRow B 50 3 v X.length (X.flatMap Ae)) (p : Nat) (y : Aa) (hx : a.eval x = .slice (some ⟨p, 0, none⟩) 1 1) (hp : w.heap[p]? = some (.cells #[.int .i64 y.1, .int .i64 y.2.1, .int .i64 y.2.2] 50 (0, 0))) (hl : X.length ≤ 16777216) (hB : B ≤ w.heap.size)
 (h : ∀ v' w', Hid (w'.ownsRow B 50 3 v' (X ++ [y]).length ((X ++ [y]).flatMap Ae)) → Hid (Ab w w' (fun k => v.ownBlock = some k)) → Hid (v'.ownBlock = v.ownBlock ∨ v'.ownBlock = some w.heap.size) → wpList prog ops Q rest (a.put o.dst v') w') : wpList prog ops Q (o :: rest) a w := by
 obtain ⟨i5, hi5, hz50, hz51, hz52⟩ := AA DQ
 refine wpList_append_own_at _ hgd s x 23 ho B 50 i5 _ 3 24 underlying23 hi5 hz50 hz51 hz52 rfl (by omega) v X.length (X.flatMap Ae) hs hown ⟨p, 0, none⟩ 1 1 (Ae y) hx rfl (Dc hp) (by simp [Ae, Value.oneCell']) (by unfold maxLen; omega) (by omega) (by omega) ?_
 intro v2 w2 h2 hgr _ hn
 exact h v2 w2 (A0 (by rw [List.flatMap_append, List.length_append]; simpa using h2)) (A0 (AL hgr)) (A0 hn)
structure MK (w : World) (B : Nat) (E : List Aa) (p s : Int) (C : List Int) (i : Nat) (vE vL vc v : Value) (wr : World) : Prop where
 ed : wr.ownsRow B 50 3 v (Bm E p s (C.take i)).length ((Bm E p s (C.take i)).flatMap Ae)
 en : wr.ownsRow B 3 1 vc C.length (C.map (Value.int .i64))
 on : Ab w wr (fun k => vE.ownBlock = some k ∨ vL.ownBlock = some k)
 at' : ∀ k, v.ownBlock = some k → vE.ownBlock = some k ∨ w.heap.size ≤ k
theorem KH {w wr w5 : World} {B i : Nat} {E : List Aa} {p s : Int} {C : List Int} {vE vL vc v v5 : Value} {cs : Array Value} (h : MK w B E p s C i vE vL vc v wr) (hi : i < C.length) (ho : w5.ownsRow B 50 3 v5 (Bm E p s (C.take i) ++ [(p, s, C[i])]).length ((Bm E p s (C.take i) ++ [(p, s, C[i])]).flatMap Ae)) (oo : Ab (wr.alloc (.cells cs 50)) w5 (fun k => v.ownBlock = some k)) (ha : v5.ownBlock = v.ownBlock ∨ v5.ownBlock = some (wr.alloc (.cells cs 50)).heap.size) : MK w B E p s C (i + 1) vE vL vc v5 w5 := by
 have d1 : Below wr.heap.size wr (wr.alloc (.cells cs 50)) := (Below.refl _ _).alloc (Nat.le_refl _) _
 have e1 := A6 h.ed d1
 have c1 := A6 h.en d1
 have hsz := h.on.size
 refine ⟨by rw [GL _ _ _ _ _ hi]; exact ho, A9 c1 oo (fun k hk hk2 => Ai e1 c1 (by decide) hk2 hk), ?_, ?_⟩
 · refine (h.on.trans (Ab.ofBelow d1)).andNew oo (fun k hk e => ?_)
   rcases h.at' k e with q | q
   · exact .inl q
   · omega
 · intro k hk
   rcases ha with q | q
   · exact h.at' k (q ▸ hk)
   · right
     rw [q] at hk
     simp at hk
     omega
theorem IK (w : World) (B : Nat) (vE vL : Value) (E : List Aa) (p s : Int) (n : Nat) (L : List Int) (hn : n = L.length) (hE : Hid (w.ownsRow B 50 3 vE E.length (E.flatMap Ae))) (hL : Hid (w.ownsRow B 3 1 vL n (L.map (Value.int .i64)))) (hB : B ≤ w.heap.size) (hl : n ≤ 4194304) (hl2 : E.length ≤ 4194304) :
 Calls prog 75 #[vE, .int .i64 p, .int .i64 s, vL] w fun e w' => ∃ v', e = .returned v' ∧ Hid (w'.ownsRow B 50 3 v' (Bm E p s (A5 L)).length ((Bm E p s (A5 L)).flatMap Ae) ∧ (∃ xs, w'.ownsRow B 3 1 vL n xs) ∧ Ab w w' (fun k => vE.ownBlock = some k ∨ vL.ownBlock = some k) ∧ ∀ k, v'.ownBlock = some k → vE.ownBlock = some k ∨ w.heap.size ≤ k) := by
 have TS := I6 w B n vL L hn hL.out hl
 obtain ⟨C, hC⟩ : ∃ C, A5 L = C := ⟨_, rfl⟩
 have hCl : C.length ≤ 4194304 := by rw [← hC]; have := B9 L; omega
 rw [hC]
 have HC := A0 hC
 clear hC
 go_enter func75, ntmps75
 go_wp2_with (go_at_call 86; refine TS.mono ?_; rintro e w1 ⟨rfl, o1, g1⟩)
 have HO := A0 (And.intro o1 g1)
 clear TS o1 g1
 have TC := Io w1 B n vL (BJ L) (by rw [Cd]; exact hn) HO.out.1 hl
 rw [show Lib.compact (BJ L) = A5 L from rfl, HC.out] at TC
 go_wp2_with (go_at_call 87; refine TC.mono ?_; rintro e w2 ⟨v2, rfl, o2, g2, b2'⟩; have b2 := A0 b2'; clear b2'; obtain ⟨ac, cc, rfl⟩ := A8 o2)
 have H0 : Hid (MK w B E p s C 0 vE vL (.slice ac C.length cc) vE w2) := A0 (by
  have e1 := A9 hE.out (AL HO.out.2) (fun k hk hk2 => Ai hE.out hL.out (by decide) hk hk2)
  have e2 := A9 e1 (AL g2) (fun k hk hk2 => Ai e1 HO.out.1 (by decide) hk hk2)
  have d1 : Ab w w1 (fun k => vE.ownBlock = some k ∨ vL.ownBlock = some k) := Ab.grown HO.out.2 (fun k hk => .inr hk)
  have d2 : Ab w1 w2 (fun k => vE.ownBlock = some k ∨ vL.ownBlock = some k) := Ab.grown g2 (fun k hk => .inr hk)
  have z : Bm E p s (C.take 0) = E := by simp [Bm]
  exact ⟨by rw [z]; exact e2, o2, d1.trans d2, fun k hk => .inl hk⟩)
 have HLr := A0 (And.intro hL.out.2 hn)
 clear TC HO o2 g2 hL hE hn HC
 go_loopw [0, 16] (fun ev iv wr => ∃ i : Nat, i ≤ C.length ∧ iv = .int .i64 (i : Int) ∧ Hid (MK w B E p s C i vE vL (.slice ac C.length cc) ev wr)) (fun _ iv _ => C.length - (intOf iv).toNat)
 case atStart => exact ⟨0, Nat.zero_le _, rfl, H0⟩
 case round =>
  obtain ⟨i, hi, rfl, HY⟩ := hrel
  clear H0
  by_cases hil : i < C.length
  · have i0 : (0 : Int) ≤ (i : Int) := by omega
    have i1 : (i : Int) < (C.length : Int) := by omega
    obtain ⟨g, o, rfl, q⟩ := AM HY.out.en i hil
    have hbw : B ≤ wr.heap.size := Nat.le_trans hB HY.out.on.size
    have hll : (Bm E p s (C.take i)).length ≤ 16777216 := by rw [Ep, List.length_take]; omega
    obtain ⟨x, hx⟩ : ∃ x, C[i] = x := ⟨_, rfl⟩
    rw [hx] at q
    have HX := A0 hx
    clear hx
    go_wp2_with (at_builtin; refine F0 rfl _ _ rfl B u0 (Bm E p s (C.take i)) rfl (A6 HY.out.ed ((Below.refl _ _).alloc (Nat.le_refl _) _)) wr.heap.size (p, s, x) rfl (World.alloc_heap_new _ _) hll (by rw [World.size_alloc]; omega) ?_; intro v5 w5 HO5 HG5 HA5)
    refine ⟨⟨i + 1, by omega, by go_num, A0 (KH HY.out hil (by rw [HX.out]; exact HO5.out) HG5.out HA5.out)⟩, by simp [intOf]; omega⟩
  · obtain rfl : i = C.length := by omega
    have i1 : ¬ (C.length : Int) < (C.length : Int) := by omega
    go_wp2_with fail
    refine bodyPost_ret (results_tmp rfl _ _ _) rfl ?_
    have z := HY.out.ed
    rw [List.take_length] at z
    exact ⟨_, rfl, A0 ⟨z, Mz HLr.out.1 b2.out HY.out.en, HY.out.on, HY.out.at'⟩⟩
def Af (bud : Int) (fl : Bool) : List Aq → List Aq → List Int → Int × List Aq × List Int
 | ps, [], ns => (0, ps, ns)
 | ps, t :: ts, ns => if t ∈ ps then Af bud fl ps ts (if fl then ns else ns ++ [(ps.idxOf t : Int)]) else if bud ≤ (ps.length : Int) then (9, ps, ns) else if 4096 ≤ ps.length then (8, ps, ns) else Af bud fl (ps ++ [t]) ts (if fl then ns else ns ++ [(ps.length : Int)])
def C7 (X Y : List Int) (p q : Int) : List Aq := X.map (fun x => (x, q)) ++ Y.map (fun y => (p, y))
theorem El (X Y : List Int) (p q : Int) : (C7 X Y p q).length = X.length + Y.length := by simp [C7]
theorem Nk (X Y : List Int) (p q : Int) (k : Nat) (hk : k < X.length) (h : k < (C7 X Y p q).length) : (C7 X Y p q)[k] = (X[k], q) := by
 simp [C7, List.getElem_append_left, hk]
theorem MJ (X Y : List Int) (p q : Int) (j : Nat) (hj : j < Y.length) (h : X.length + j < (C7 X Y p q).length) : (C7 X Y p q)[X.length + j] = (p, Y[j]) := by
 simp [C7, List.getElem_append_right]
theorem Nb (n : Nat) (Sf : Nat → Prop) (w : World) (b1 b2 fb sb B1 B2 m R1 R2 : Nat) (E1 E2 : List Aa) (a1 a2 : Option Addr) (c1 c2 g1 g2 p q s : Nat) (h : Hid (P0 Sf w b1 b2 fb sb B1 B2 m R1 R2 E1 E2 a1 a2 c1 c2 g1 g2 p q s)) (q1 : Hid (My m R1 p s E1)) (q2 : Hid (My m R2 q s E2)) :
 M7 n 40 #[.pointer (some ⟨b1, 0, none⟩), .pointer (some ⟨fb, 0, none⟩), .pointer (some ⟨sb, 0, none⟩), .pointer (some ⟨b2, 0, none⟩)] ((C7 (B5 (Ar E1 p (s : Int))) (B5 (Ar E2 q (s : Int))) (p : Int) (q : Int)).map GV) (Bu Sf) w := by
 intro l J Jx W hW hJ hJx hY h0
 have HJ := A0 hJ
 have HJx := A0 hJx
 have HY := A0 hY
 have HT := A0 (h.out.kp (Bu.ofBelow (Sf := Sf) hW))
 have T1 := Jr HT.out.r1 q1.out
 generalize hX : B5 (Ar E1 p (s : Int)) = X at *
 have T2 := fun (wr : World) (k : Bu Sf W wr) => Jr (HT.out.r2.kp k) q2.out
 generalize hYl : B5 (Ar E2 q (s : Int)) = Y at *
 have HT2 := A0 T2
 have hXl : X.length ≤ 4194304 := by
  have := q1.out.hl
  rw [← hX, Bw]
  exact Nat.le_trans (List.length_filter_le _ _) this
 have hYl2 : Y.length ≤ 4194304 := by
  have := q2.out.hl
  rw [← hYl, Bw]
  exact Nat.le_trans (List.length_filter_le _ _) this
 have HC := A0 (fun (wr : World) (k : Bu Sf W wr) => HT.out.kp k)
 have x1 := HT.out.r1.hb
 obtain ⟨k0, k1, k2⟩ := Jt HT.out.r1.hb rfl rfl rfl
 have k3 : W.cell? ⟨fb, 0, none⟩ = some (.int .i64 (p : Int)) := A1 HT.out.fx rfl
 have k5 : W.cell? ⟨sb, 0, none⟩ = some (.int .i64 (s : Int)) := A1 HT.out.sx rfl
 clear hJ hJx hY hW h hX hYl T2 x1 q1 q2
 refine callsIn_of_wp func40 rfl trivial ?_ rfl
 simp only [ntmps40, List.size_toArray, List.length_cons, List.length_nil, Nat.reduceAdd, Nat.reduceSub, Array.replicate_succ, Array.replicate_zero, List.push_toArray, List.append_toArray, List.nil_append, List.cons_append]
 gi_wp2
 refine ⟨trivial, (fun h => by cases h), (callsIn_wide.2 T1).mono ?_⟩
 rintro e W1 ⟨ax, cx, rfl, H1⟩
 have HX := A0 H1.out.1
 have hK1 : Bu Sf W W1 := Bu.ofBelow H1.out.2
 have hJ1 := HJ.out 0 W W1 h0 H1.out.2
 clear T1 k0 k1 k2 k3 k5 h0 H1
 gi_wp2
 gi_loopw [16] (fun i wr => ∃ (k : Nat), k ≤ X.length ∧ i = .int .i64 k ∧ Bu Sf W wr ∧ J k wr) (fun i _ => X.length - (intOf i).toNat)
 case atStart => exact ⟨0, Nat.zero_le _, rfl, hK1, hJ1⟩
 case round =>
  clear hK1 hJ1
  obtain ⟨k, hk, rfl, hkp, hJk⟩ := hrel
  by_cases hlt : k < X.length
  · obtain ⟨gx, ox, rfl, cx'⟩ := HX.out wr hkp k hlt
    have HT3 := A0 (HC.out wr hkp)
    have k3 : wr.cell? ⟨fb, 1, none⟩ = some (.int .i64 (q : Int)) := A1 HT3.out.fx rfl
    have hcl : k < (C7 X Y (p : Int) (q : Int)).length := by rw [El]; omega
    have hv : ((C7 X Y (p : Int) (q : Int)).map GV)[k]'(by rw [List.length_map]; exact hcl) = .agg #[.int .i64 X[k], .int .i64 (q : Int)] := by
     rw [List.getElem_map, Nk X Y _ _ k hlt hcl]; rfl
    obtain ⟨fn, tmps, assign, body, hyy, hR⟩ := HY.out k _ (by rw [List.length_map]; exact hcl) hJk
    rw [hv] at hyy
    clear hv
    generalize hx : X[k] = x at *
    have hlt' : (k : Int) < (X.length : Int) := by omega
    gi_wp2
    refine ⟨(fun h => by cases h), hR.mono ?_⟩
    rintro e W3 (⟨rfl, hJ3, hk3⟩ | ⟨rfl, hx3⟩)
    · gi_wp2
      go_roundw
      case rel => exact ⟨k + 1, by omega, by go_num, hkp.trans hk3, hJ3⟩
      case measure => simp [intOf]; omega
    · gi_wp2
      refine bodyPost_ret (results_none rfl _ _ _) rfl ?_
      exact ⟨⟨_, rfl⟩, .inr hx3⟩
  · have hlt' : ¬ (k : Int) < (X.length : Int) := by omega
    obtain rfl : k = X.length := by omega
    have HT3 := A0 (HC.out wr hkp)
    obtain ⟨k0, k1, k2⟩ := Jt HT3.out.r2.hb rfl rfl rfl
    have k3 : wr.cell? ⟨fb, 1, none⟩ = some (.int .i64 (q : Int)) := A1 HT3.out.fx rfl
    have k5 : wr.cell? ⟨sb, 0, none⟩ = some (.int .i64 (s : Int)) := A1 HT3.out.sx rfl
    have T3 := HT2.out wr hkp
    gi_wp2
    refine ⟨trivial, (fun h => by cases h), (callsIn_wide.2 T3).mono ?_⟩
    rintro e W2 ⟨ay, cy, rfl, H2⟩
    have HYr := A0 H2.out.1
    have hK2 : Bu Sf wr W2 := Bu.ofBelow H2.out.2
    have hJ2 := HJ.out _ wr W2 hJk H2.out.2
    clear T3 k0 k1 k2 k3 k5 hJk H2 HT3
    gi_wp2
    gi_loopw [34] (fun i wi => ∃ (j : Nat), j ≤ Y.length ∧ i = .int .i64 j ∧ Bu Sf wr wi ∧ J (X.length + j) wi) (fun i _ => Y.length - (intOf i).toNat)
    case atStart => exact ⟨0, Nat.zero_le _, rfl, hK2, hJ2⟩
    case round =>
     clear hK2 hJ2
     obtain ⟨j, hj, rfl, hkq, hJj⟩ := hrel
     by_cases hlj : j < Y.length
     · obtain ⟨gy, oy, rfl, cy'⟩ := HYr.out _ hkq j hlj
       have HT4 := A0 (HC.out _ (hkp.trans hkq))
       have k4 := A1 (j := 0) HT4.out.fx rfl
       have hcl : X.length + j < (C7 X Y (p : Int) (q : Int)).length := by rw [El]; omega
       have hv : ((C7 X Y (p : Int) (q : Int)).map GV)[X.length + j]'(by rw [List.length_map]; exact hcl) = .agg #[.int .i64 (p : Int), .int .i64 Y[j]] := by
        rw [List.getElem_map, MJ X Y _ _ j hlj hcl]; rfl
       obtain ⟨fn, tmps, assign, body, hyy, hR⟩ := HY.out (X.length + j) _ (by rw [List.length_map]; exact hcl) hJj
       rw [hv] at hyy
       clear hv
       generalize hy : Y[j] = y at *
       have hlj' : (j : Int) < (Y.length : Int) := by omega
       gi_wp2
       refine ⟨(fun h => by cases h), hR.mono ?_⟩
       rintro e W3 (⟨rfl, hJ3, hk3⟩ | ⟨rfl, hx3⟩)
       · gi_wp2
         go_roundw
         case rel => exact ⟨j + 1, by omega, by go_num, hkq.trans hk3, hJ3⟩
         case measure => simp [intOf]; omega
       · gi_wp2
         refine bodyPost_ret (results_none rfl _ _ _) rfl ?_
         exact ⟨⟨_, rfl⟩, .inr hx3⟩
     · have hlj' : ¬ (j : Int) < (Y.length : Int) := by omega
       obtain rfl : j = Y.length := by omega
       gi_wp2
       go_end0
       exact ⟨⟨_, rfl⟩, .inl (by rw [El]; exact hJj)⟩
theorem Lq (p q s : Int) (b1 b2 : Nat) (w : World) :
 Calls prog 39 #[.agg #[.int .i64 p, .int .i64 q], .int .i64 s, .pointer (some ⟨b1, 0, none⟩), .pointer (some ⟨b2, 0, none⟩)] w fun e w' => e = .returned (.func (.func 40) #[] #[.pointer (some ⟨b1, 0, none⟩), .pointer (some ⟨w.heap.size, 0, none⟩), .pointer (some ⟨w.heap.size + 1, 0, none⟩), .pointer (some ⟨b2, 0, none⟩)]) ∧ w' = (w.alloc (.cells #[.int .i64 p, .int .i64 q] 57)).alloc (.cells #[.int .i64 s] 3) := by
 go_enter func39, ntmps39
 go_wp2
 go_ret
 exact ⟨rfl, rfl⟩
theorem MX (x0 x1 x2 y0 y1 y2 : Value) (w : World) :
 Calls prog 22 #[.agg #[x0, x1, x2], .agg #[y0, y1, y2]] w fun e w' => e = .returned (.func (.func 39) #[] #[.pointer (some ⟨w.heap.size, 0, none⟩), .pointer (some ⟨w.heap.size + 1, 0, none⟩)]) ∧ w' = (w.alloc (.cells #[x0, x1, x2] 67)).alloc (.cells #[y0, y1, y2] 67) := by
 go_enter func22, ntmps22
 go_wp2
 go_ret
 exact ⟨rfl, rfl⟩
end Go.Proofs.YtchoopnjckcohaaGreat
