import Derived.Test.YtchoopnjckcohaaGreatDoorQab
import Derived.Maps.AppendAt
set_option maxRecDepth 100000
set_option maxHeartbeats 40000000
namespace Go.Proofs.YtchoopnjckcohaaGreatDoor
open Go.RowKit Go.Maps
attribute [local go_sem] Oper.semAt_some
theorem symOrder_any (w : World) (x : EdT) (y : Int) :
 Calls Tryz.prog 165 #[.agg #[.int .i64 x.1, .int .i64 x.2.1, .int .i64 x.2.2], .int .i64 y] w fun e w' => e = .returned (.int .i64 (Lib.compareInt x.2.1 y)) ∧ Below w.heap.size w w' := by
 obtain ⟨x0, x1, x2⟩ := x
 simp only
 obtain ⟨W0, hW0⟩ : ∃ W0, w.alloc (.cells #[.int .i64 x0, .int .i64 x1, .int .i64 x2] 61) = W0 := ⟨_, rfl⟩
 have HD : Hid (Below w.heap.size w W0) := hide (by rw [← hW0]; exact (Below.refl _ _).alloc (Nat.le_refl _) _)
 have b0 : W0.heap[w.heap.size]? = some (.cells #[.int .i64 x0, .int .i64 x1, .int .i64 x2] 61 (0, 0)) := by rw [← hW0]; exact World.alloc_heap_new _ _
 have c1 : W0.cell? ⟨w.heap.size, 1, none⟩ = some (.int .i64 x1) := cell_of b0 rfl
 clear b0
 go_enter Tryz.func165, Tryz.ntmps165
 go_wp2_with (go_at_call 145; refine (cmpi_any _ _ _).mono ?_; rintro e w1 ⟨rfl, rfl⟩)
 go_ret
 exact ⟨rfl, HD.out⟩
def fnd (L : List EdT) (k : Nat) (y : Int) : Bool := match L[k]? with
 | some x => Lib.compareInt x.2.1 y == 0
 | none => false
theorem cmp_lt (x y : Int) : Lib.compareInt x y < 0 ↔ x < y := by
 rcases cmp_pos x y with ⟨h, e⟩ | ⟨h, e⟩ | ⟨h, e⟩ <;> rw [e] <;> omega
theorem search_any (w : World) (ao : Option Addr) (L : List EdT) (c : Nat) (y : Int) (hr : Hid (RdE w ao L)) (hl : L.length ≤ 4194304) (hS : Hid (∀ i j (hi : i < L.length) (hj : j < L.length), i ≤ j → L[i].2.1 ≤ L[j].2.1)) :
 Calls Tryz.prog 166 #[.slice ao L.length c, .int .i64 y, .func (.func 165) #[] #[]] w fun e w' => ∃ k : Nat, e = .returned (.tuple #[.int .i64 k, .bool (fnd L k y)]) ∧ k ≤ L.length ∧ (∀ t (h : t < L.length), L[t].2.1 < y ↔ t < k) ∧ Below w.heap.size w w' := by
 go_enter Tryz.func166, Tryz.ntmps166
 go_wp2
 go_loopw [9, 10] (fun iv jv wr => ∃ i j : Nat, i ≤ j ∧ j ≤ L.length ∧ iv = .int .i64 i ∧ jv = .int .i64 j ∧ Hid ((∀ t (h : t < L.length), t < i → L[t].2.1 < y) ∧ (∀ t (h : t < L.length), j ≤ t → y ≤ L[t].2.1) ∧ Below w.heap.size w wr)) (fun iv jv _ => (intOf jv).toNat - (intOf iv).toNat)
 case atStart => exact ⟨0, L.length, Nat.zero_le _, Nat.le_refl _, rfl, rfl, hide ⟨fun t _ h => absurd h (Nat.not_lt_zero t), fun t h h2 => absurd h (by omega), Below.refl _ _⟩⟩
 case round =>
  obtain ⟨i, j, hij, hjl, rfl, rfl, HI⟩ := hrel
  by_cases hlt : i < j
  · have l0 : (i : Int) < (j : Int) := by omega
    have l1 : (0 : Int) ≤ (i : Int) := by omega
    have l2 : (j : Int) ≤ 4194304 := by omega
    go_upto_region 5 with fail
    obtain ⟨h, hh⟩ : ∃ h : Nat, ((i : Int) + (j : Int)) / 2 = (h : Int) := ⟨(i + j) / 2, by omega⟩
    rw [hh]
    have hb : i ≤ h ∧ h < j := by omega
    clear hh
    have h0 : (0 : Int) ≤ (h : Int) := by omega
    have h1 : (h : Int) < (L.length : Int) := by omega
    have h2 : (h : Int) ≤ 4194304 := by omega
    have hhl : h < L.length := by omega
    obtain ⟨g, o, rfl, q0, q1, q2⟩ := (hr.out.on HI.out.2.2) h hhl
    obtain ⟨x, hx⟩ : ∃ x, L[h] = x := ⟨_, rfl⟩
    rw [hx] at q0 q1 q2
    obtain ⟨x0, x1, x2⟩ := x
    have T := symOrder_any wr (x0, x1, x2) y
    simp only at T q0 q1 q2
    have HX := hide (show L[h].2.1 = x1 by rw [hx])
    clear hx
    have HC := hide (cmp_lt x1 y)
    generalize Lib.compareInt x1 y = cv at T HC
    by_cases hc : cv < 0
    · go_wp2_with (go_at_call 165; refine T.mono ?_; rintro e w2 ⟨rfl, d2⟩)
      refine ⟨⟨h + 1, j, by omega, hjl, by go_num, rfl, hide ⟨fun t ht hti => ?_, HI.out.2.1, HI.out.2.2.trans (d2.mono HI.out.2.2.size)⟩⟩, by simp [intOf]; omega⟩
      have e1 := hS.out t h ht hhl (by omega)
      have e2 := HC.out.1 hc
      rw [HX.out] at e1
      omega
    · go_wp2_with (go_at_call 165; refine T.mono ?_; rintro e w2 ⟨rfl, d2⟩)
      refine ⟨⟨i, h, by omega, by omega, rfl, rfl, hide ⟨HI.out.1, fun t ht hti => ?_, HI.out.2.2.trans (d2.mono HI.out.2.2.size)⟩⟩, by simp [intOf]; omega⟩
      have e1 := hS.out h t hhl ht hti
      have e2 : ¬ x1 < y := fun q => by have := HC.out.2 q; omega
      rw [HX.out] at e1
      omega
  · obtain rfl : i = j := by omega
    have l0 : ¬ (i : Int) < (i : Int) := by omega
    by_cases hi : i < L.length
    · have l1 : (i : Int) < (L.length : Int) := by omega
      have l2 : (0 : Int) ≤ (i : Int) := by omega
      obtain ⟨g, o, rfl, q0, q1, q2⟩ := (hr.out.on HI.out.2.2) i hi
      obtain ⟨x, hx⟩ : ∃ x, L[i] = x := ⟨_, rfl⟩
      rw [hx] at q0 q1 q2
      obtain ⟨x0, x1, x2⟩ := x
      have T := symOrder_any wr (x0, x1, x2) y
      simp only at T q0 q1 q2
      have HX : Hid (fnd L i y = (Lib.compareInt x1 y == 0)) := hide (by unfold fnd; rw [List.getElem?_eq_getElem hi, hx])
      clear hx
      go_wp2_with (go_at_call 165; refine T.mono ?_; rintro e w2 ⟨rfl, d2⟩)
      go_ret2
      exact ⟨i, by rw [HX.out]; rfl, hjl, fun t ht => ⟨fun q => Nat.lt_of_not_le fun z => by have := HI.out.2.1 t ht z; omega, HI.out.1 t ht⟩, HI.out.2.2.trans (d2.mono HI.out.2.2.size)⟩
    · have l1 : ¬ (i : Int) < (L.length : Int) := by omega
      have HX : Hid (fnd L i y = false) := hide (by unfold fnd; rw [List.getElem?_eq_none (by omega)])
      go_wp2_with fail
      go_ret2
      exact ⟨i, by rw [HX.out]; rfl, hjl, fun t ht => ⟨fun q => Nat.lt_of_not_le fun z => by have := HI.out.2.1 t ht z; omega, HI.out.1 t ht⟩, HI.out.2.2⟩
end Go.Proofs.YtchoopnjckcohaaGreatDoor
namespace Go.Proofs.YtchoopnjckcohaaGreatDoor
open Go.RowKit Go.Maps
theorem lessC_at {Es : List EdT} (hS : SsE Es) (c i : Nat) (h : i < Es.length) : Es[i].1 < (c : Int) ↔ i < lessC Es c := by
 have := pre_count (fun e : EdT => decide (e.1 < (c : Int))) Es (hS.imp fun {a b} hab hb => by
  rw [ltE_iff] at hab
  rw [decide_eq_true_eq] at hb ⊢
  omega) i h
 unfold lessC
 rw [← this, decide_eq_true_eq]
theorem part_from {Es : List EdT} (hS : SsE Es) {p t : Nat} (h : t < (subL Es (lessC Es p) (lessC Es (p + 1))).length) : (subL Es (lessC Es p) (lessC Es (p + 1)))[t].1 = (p : Int) := by
 obtain ⟨h2, e⟩ := subL_get t h
 rw [subL_len (lessC_le _ _)] at h
 have a1 := lessC_at hS p _ h2
 have a2 := lessC_at hS (p + 1) _ h2
 rw [e]
 have b1 : ¬ Es[lessC Es p + t].1 < (p : Int) := fun q => by have := a1.1 q; omega
 have b2 := a2.2 (by omega)
 omega
theorem part_up {Es : List EdT} (hS : SsE Es) {p : Nat} : ∀ i j (hi : i < (subL Es (lessC Es p) (lessC Es (p + 1))).length) (hj : j < (subL Es (lessC Es p) (lessC Es (p + 1))).length), i ≤ j → (subL Es (lessC Es p) (lessC Es (p + 1)))[i].2.1 ≤ (subL Es (lessC Es p) (lessC Es (p + 1)))[j].2.1 := fun i j hi hj hij => by
 rcases Nat.eq_or_lt_of_le hij with rfl | hlt
 · exact Int.le_refl _
 · have h := (List.pairwise_iff_getElem.1 (subL_ss hS _ _)) i j hi hj hlt
   have e1 := part_from hS hi
   have e2 := part_from hS hj
   rw [ltE_iff] at h
   omega
theorem from_eq {Es : List EdT} (hS : SsE Es) {p k z : Nat} {y : Int} {L : List EdT} (hL : subL Es (lessC Es p) (lessC Es (p + 1)) = L)
 (hk : ∀ t (h : t < L.length), L[t].2.1 < y ↔ t < k) (hkz : k ≤ z) (hm : ∀ t (h : t < L.length), k ≤ t → t < z → L[t].2.1 = y) (he : ∀ h : z < L.length, L[z].2.1 ≠ y) : subL L k z = fromL Es p y := by
 subst hL
 refine ss_eq _ _ (subL_ss (subL_ss hS _ _) _ _) (fromL_ss hS _ _) fun x => ⟨fun hx => ?_, fun hx => ?_⟩
 · obtain ⟨t, ht, rfl⟩ := List.getElem_of_mem hx
   obtain ⟨h2, e⟩ := subL_get t ht
   have hz : t < z - k := by
    have : (subL (subL Es (lessC Es p) (lessC Es (p + 1))) k z).length ≤ z - k := by unfold subL; exact List.length_take_le _ _
    omega
   rw [e, fromL_iff]
   exact ⟨List.mem_of_mem_drop (List.mem_of_mem_take (List.getElem_mem h2)), part_from hS h2, hm _ h2 (by omega) (by omega)⟩
 · rw [fromL_iff] at hx
   obtain ⟨hx, h1, h2⟩ := hx
   obtain ⟨i, hi, rfl⟩ := List.getElem_of_mem hx
   have a1 := lessC_at hS p i hi
   have a2 := lessC_at hS (p + 1) i hi
   have b1 : lessC Es p ≤ i := Nat.le_of_not_lt fun q => by have := a1.2 q; omega
   have b2 := a2.1 (by omega)
   obtain ⟨t, rfl⟩ : ∃ t, i = lessC Es p + t := ⟨i - lessC Es p, by omega⟩
   have ht : t < (subL Es (lessC Es p) (lessC Es (p + 1))).length := by rw [subL_len (lessC_le _ _)]; omega
   obtain ⟨h3, e⟩ := subL_get t ht
   rw [← e] at h2 ⊢
   have k1 : k ≤ t := Nat.le_of_not_lt fun q => by have := (hk t ht).2 q; omega
   have z1 : t < z := Nat.lt_of_not_le fun q => by
    have hzl : z < (subL Es (lessC Es p) (lessC Es (p + 1))).length := by omega
    have q1 := he hzl
    have q2 := part_up hS z t hzl ht q
    have q3 : ¬ (subL Es (lessC Es p) (lessC Es (p + 1)))[z].2.1 < y := fun q4 => by have := (hk z hzl).1 q4; omega
    omega
   generalize subL Es (lessC Es p) (lessC Es (p + 1)) = L at *
   have hl2 : t - k < (subL L k z).length := by unfold subL; rw [List.length_take, List.length_drop]; omega
   obtain ⟨h4, e4⟩ := subL_get (t - k) hl2
   have : L[t] = (subL L k z)[t - k] := by
    rw [e4]
    congr 1
    omega
   rw [this]
   exact List.getElem_mem hl2
end Go.Proofs.YtchoopnjckcohaaGreatDoor
namespace Go.Proofs.YtchoopnjckcohaaGreatDoor
open Go.RowKit Go.Maps Go.Shelf
attribute [local go_sem] Oper.semAt_some
def kE (m : Nat) (L : List EdT) : List EdT := L.map fun e => (e.1 * (m : Int) + e.2.1, 0, e.2.2)
def toL (L : List EdT) : List Int := L.map fun e => e.2.2
theorem kE_len (m : Nat) (L : List EdT) : (kE m L).length = L.length := by simp [kE]
theorem set3 (w : World) (b : Nat) (v0 v1 v2 u0 u1 u2 : Value) (t : TypeId) (h : w.heap[b]? = some (.cells #[v0, v1, v2] t (0, 0))) : (((w.setCell ⟨b, 0, none⟩ u0).setCell ⟨b, 1, none⟩ u1).setCell ⟨b, 2, none⟩ u2).heap[b]? = some (.cells #[u0, u1, u2] t (0, 0)) :=
 heap_setCell_same _ _ 2 _ t _ (heap_setCell_same _ _ 1 _ t _ (heap_setCell_same _ _ 0 _ t _ h))
theorem nr_step {W1 w5 : World} {B i cE d5 : Nat} {aE z5 : Option Addr} {Ed : List EdT} {p s x3 : Int} (hT : Ed.take (i + 1) = Ed.take i ++ [(p, s, x3)]) (ho : w5.ownsRow B 3 1 (.slice z5 (i + 1) d5) (i + 1) ((toL (Ed.take i)).map (Value.int .i64) ++ [.int .i64 x3])) (hg : (W1.alloc (.cells #[.int .i64 x3] 3)).grownBy w5 (Value.slice aE i cE).ownBlock) : w5.ownsRow B 3 1 (.slice z5 (i + 1) d5) (i + 1) ((toL (Ed.take (i + 1))).map (Value.int .i64)) ∧ Only W1 w5 (fun k => (Value.slice aE i cE).ownBlock = some k) := by
 refine ⟨?_, ?_⟩
 · rw [hT]
   unfold toL at ho ⊢
   rw [List.map_append, List.map_append]
   exact ho
 · exact ⟨hg.os, hg.tape, hg.output, by have := hg.size; rw [World.size_alloc] at this; omega, fun x hx hn => (hg.block x (by rw [World.size_alloc]; omega) (fun e => hn e.symm)).trans (Below.heap_alloc _ _ _ hx)⟩
theorem nr_box {W1 w5 : World} {B b n : Nat} {v : Value} {xs : List Value} {o : Obj} (hR : W1.ownsRow B 3 1 v n xs) (o1 : Only W1 w5 (fun k => v.ownBlock = some k)) (hb : W1.heap[b]? = some o) (hlt : b < B) : w5.heap[b]? = some o :=
 (o1.block _ (Array.getElem?_eq_some_iff.1 hb).1 (fun h => by have := (hR.lt _ h).1; omega)).trans hb
theorem row_tag {W : World} {B k n sz : Nat} {e t : TypeId} {v : Value} {xs : List Value} {cs : Array Value} {fr : Nat × Nat} (h : W.ownsRow B e sz v n xs) (hb : W.heap[k]? = some (.cells cs t fr)) (hne : t ≠ e) (hk : v.ownBlock = some k) : False := by
 rcases h.2 with ⟨hv, _⟩ | ⟨g', cap', cur', hv, _, hgc, _⟩
 · subst hv
   cases hk
 · subst hv
   have e2 : g' = k := by simpa [Value.ownBlock] using hk
   subst e2
   rw [hgc] at hb
   cases hb
   exact hne rfl
structure RwA (B : Nat) (w : World) (m R : Nat) (Ed : List EdT) (aE : Option Addr) (n cE g : Nat) : Prop where
 ow : w.ownsRow B 3 1 (.slice aE n cE) n ((toL Ed).map (Value.int .i64))
 fi : Mrw w g 3 (R + 1) (fun c => .int .i64 ((lessC (kE m Ed) c : Nat) : Int)) (R + 1)
 ge : B ≤ g
theorem newRows_any (w : World) (N m : Nat) (a1 a2 a3 : Option Addr) (l1 l2 c1 c2 c3 : Nat) (Ed : List EdT) (hN : N ≤ 4096) (hm : m ≤ 128) (hE : Hid (RdE w a3 Ed)) (hl : Ed.length ≤ 4194304) (hF : Hid (∀ e ∈ Ed, (0 ≤ e.1 ∧ e.1 < (N : Int)) ∧ 0 ≤ e.2.1 ∧ e.2.1 < (m : Int))) :
 Calls Tryz.prog 89 #[.agg #[.int .i64 (N : Int), .int .i64 (m : Int), .slice a1 l1 c1, .slice a2 l2 c2, .slice a3 Ed.length c3]] w fun e w' => ∃ aE cE g, e = .returned (.agg #[.int .i64 (m : Int), .slice aE Ed.length cE, .slice (some ⟨g, 0, none⟩) (N * m + 1) (N * m + 1)]) ∧ Hid (RwA w.heap.size w' m (N * m) Ed aE Ed.length cE g) ∧ Below w.heap.size w w' := by
 obtain ⟨n3, en⟩ : ∃ n, Ed.length = n := ⟨_, rfl⟩
 obtain ⟨R, hR⟩ : ∃ R, N * m = R := ⟨_, rfl⟩
 rw [en, hR]
 rw [en] at hl
 have hRl : R ≤ 524288 := by rw [← hR]; exact Nat.le_trans (Nat.mul_le_mul hN hm) (by decide)
 have HN3 := hide en
 have HRR := hide hR
 obtain ⟨i9, hi9, hz90, hz91, hz92⟩ := info_parts info3
 obtain ⟨M, hM⟩ : ∃ M, M = madeCells (Value.int .i64 0).cells ((((R : Nat) : Int) + 1).toNat * i9.size) := ⟨_, rfl⟩
 have hmk : ∀ W : World, (Instr.makeSlice 22 (.int .i64 ((R : Int) + 1)) (.int .i64 ((R : Int) + 1))).run Tryz.prog W = .ok (.slice (some ⟨W.heap.size, 0, none⟩) (R + 1) (R + 1)) (W.alloc (.cells M 3)) := fun W => by
  have h := run_make (P := Tryz.prog) W 22 3 i9 (.int .i64 0) Tryz.underlying22 hi9 hz90 .i64 .i64 ((R : Int) + 1) ((R : Int) + 1) (by omega) (by omega) (by rw [hz92]; omega) (by omega)
  rw [← hM] at h
  rw [h]
  have : ((R : Int) + 1).toNat = R + 1 := by omega
  rw [this]
 have hwr : IntKind.i64.wrap ((R : Int) + 1) = (R : Int) + 1 := by rw [IntKind.wrap_i64]; omega
 have hmk : ∀ W : World, (Instr.makeSlice 22 (.int .i64 (IntKind.i64.wrap ((R : Int) + 1))) (.int .i64 (IntKind.i64.wrap ((R : Int) + 1)))).run Tryz.prog W = .ok (.slice (some ⟨W.heap.size, 0, none⟩) (R + 1) (R + 1)) (W.alloc (.cells M 3)) := by rw [hwr]; exact hmk
 clear hwr
 have hmul : IntKind.i64.wrap ((N : Int) * (m : Int)) = (R : Int) := by
  have : (N : Int) * (m : Int) = (R : Int) := by rw [← hR]; simp
  rw [this, IntKind.wrap_i64]
  omega
 have HM := hide (And.intro hM hz91)
 have HI := hide (And.intro hi9 (And.intro hz90 (And.intro hz91 hz92)))
 clear hM hi9 hz90 hz91 hz92 en hR
 obtain ⟨W0, hW0⟩ : ∃ W0, (w.alloc (.cells #[.int .i64 (N : Int), .int .i64 (m : Int), .slice a1 l1 c1, .slice a2 l2 c2, .slice a3 n3 c3] 25)).alloc (.cells #[.int .i64 0, .slice none 0 0, .slice none 0 0] 93) = W0 := ⟨_, rfl⟩
 have HD := hide (box3 w #[.int .i64 (N : Int), .int .i64 (m : Int), .slice a1 l1 c1, .slice a2 l2 c2, .slice a3 n3 c3] #[.int .i64 0, .slice none 0 0, .slice none 0 0] 25 93)
 rw [hW0] at HD
 have B0 := HD.out.2.1
 obtain ⟨k0, k1⟩ := zd2 B0 rfl rfl
 clear B0
 go_enter Tryz.func89, Tryz.ntmps89
 go_upto_region 1 with fail
 go_cut [3] from 3 to 16 (fun p3 W => ∃ b g, p3 = .pointer (some ⟨b, 0, none⟩) ∧ Hid (W.heap[b]? = some (.cells #[.int .i64 (m : Int), .slice none 0 0, .slice (some ⟨g, 0, none⟩) (R + 1) (R + 1)] 93 (0, 0)) ∧ W.heap[g]? = some (.cells M 3 (0, 0)) ∧ b ≠ g ∧ W0.heap.size ≤ b ∧ W0.heap.size ≤ g ∧ Below W0.heap.size W0 W))
 case first =>
  go_region_held3 (fun W2 => W2.cell? ⟨w.heap.size, 0, none⟩ = some (.int .i64 (N : Int)) ∧ W2.cell? ⟨w.heap.size, 1, none⟩ = some (.int .i64 (m : Int)))
   (first | go_keep | assumption)
   (fail)
  · go_wp2_with fail
    go_meet
    refine ⟨W0.heap.size + 1, W0.heap.size, rfl, hide ?_⟩
    have q := box3 W0 M #[.int .i64 (m : Int), .slice none 0 0, .slice (some ⟨W0.heap.size, 0, none⟩) (R + 1) (R + 1)] 3 93
    exact ⟨q.2.2.1, q.2.1, by omega, by omega, by omega, q.1.drew⟩
  · go_wp2_with fail
    go_meet
    refine ⟨W0.heap.size, W0.heap.size + 1, rfl, hide ?_⟩
    have q := box3 W0 #[.int .i64 (m : Int), .slice none 0 0, .slice (some ⟨W0.heap.size + 1, 0, none⟩) (R + 1) (R + 1)] M 93 3
    exact ⟨q.2.1, q.2.2.1, by omega, by omega, by omega, q.1.drew⟩
 case rest =>
  obtain ⟨b, g, rfl, HX⟩ := hcut
  rename World => wx
  clear hmk k0 k1 hmul
  have y4 : wx.cell? ⟨w.heap.size, 4, none⟩ = some (.slice a3 n3 c3) := cell_of (blk_on HD.out.2.1 HX.out.2.2.2.2.2) rfl
  have m0 : Mrw wx g 3 (R + 1) (fun c => .int .i64 ((cntAt (kE m (Ed.take 0)) c : Nat) : Int)) (R + 1) := by
   refine ⟨M, HX.out.2.1, by rw [HM.out.1, HM.out.2, size_madeCells]; omega, fun j hj => ?_⟩
   rw [HM.out.1, HM.out.2]
   rw [← Array.getElem?_toList, show (Value.int .i64 0).cells = #[Value.int .i64 0] from rfl, toList_madeCells_one, List.getElem?_replicate, if_pos (by omega)]
   simp [cntAt, kE]
  have HP : Hid (b ≠ g ∧ W0.heap.size ≤ b ∧ W0.heap.size ≤ g ∧ b < wx.heap.size ∧ g < wx.heap.size ∧ W0.heap.size = w.heap.size + 2) := hide ⟨HX.out.2.2.1, HX.out.2.2.2.1, HX.out.2.2.2.2.1, (Array.getElem?_eq_some_iff.1 HX.out.1).1, (Array.getElem?_eq_some_iff.1 HX.out.2.1).1, HD.out.2.2.2⟩
  have H0 : Hid (wx.ownsRow wx.heap.size 3 1 (.slice none 0 0) 0 ((toL (Ed.take 0)).map (Value.int .i64)) ∧ Mrw wx g 3 (R + 1) (fun c => .int .i64 ((cntAt (kE m (Ed.take 0)) c : Nat) : Int)) (R + 1) ∧ wx.heap[b]? = some (.cells #[.int .i64 (m : Int), .slice none 0 0, .slice (some ⟨g, 0, none⟩) (R + 1) (R + 1)] 93 (0, 0)) ∧ Below W0.heap.size W0 wx ∧ wx.heap.size ≤ wx.heap.size) := hide ⟨World.ownsRow_nil _ _ _ _, m0, HX.out.1, HX.out.2.2.2.2.2, Nat.le_refl _⟩
  clear m0 HX
  go_wp2_with fail
  clear y4
  go_loopw [20] (fun iv wr => ∃ i : Nat, i ≤ n3 ∧ iv = .int .i64 (i : Int) ∧ ∃ aE cE, Hid (wr.ownsRow wx.heap.size 3 1 (.slice aE i cE) i ((toL (Ed.take i)).map (Value.int .i64)) ∧ Mrw wr g 3 (R + 1) (fun c => .int .i64 ((cntAt (kE m (Ed.take i)) c : Nat) : Int)) (R + 1) ∧ wr.heap[b]? = some (.cells #[.int .i64 (m : Int), .slice aE i cE, .slice (some ⟨g, 0, none⟩) (R + 1) (R + 1)] 93 (0, 0)) ∧ Below W0.heap.size W0 wr ∧ wx.heap.size ≤ wr.heap.size)) (fun iv _ => n3 - (intOf iv).toNat)
  case atStart => exact ⟨0, Nat.zero_le _, rfl, none, 0, H0⟩
  case round =>
   obtain ⟨i, hi, rfl, aE, cE, HY⟩ := hrel
   clear H0
   by_cases hil : i < n3
   · have i0 : (0 : Int) ≤ (i : Int) := by omega
     have i1 : (i : Int) < (n3 : Int) := by omega
     have hjl : i < Ed.length := by have := HN3.out; omega
     obtain ⟨ge, o, ea, q1, q2, q3⟩ := (hE.out.on (HD.out.1.trans (HY.out.2.2.2.1.mono HD.out.1.size))) i hjl
     subst ea
     have HTk := hide (List.take_succ_eq_append_getElem hjl)
     have HN := hide (hF.out Ed[i] (List.getElem_mem hjl))
     obtain ⟨x, hx⟩ : ∃ x, Ed[i] = x := ⟨_, rfl⟩
     rw [hx] at q1 q2 q3 HTk HN
     clear hx
     obtain ⟨x1, x2, x3⟩ := x
     obtain ⟨p, hp⟩ := Int.eq_ofNat_of_zero_le HN.out.1.1
     obtain ⟨s, hs⟩ := Int.eq_ofNat_of_zero_le HN.out.2.1
     have hp : x1 = (p : Int) := hp
     have hs : x2 = (s : Int) := hs
     subst hp hs
     have hp1 : p < N := by have := HN.out.1.2; simp only at this; omega
     have hs1 : s < m := by have := HN.out.2.2; simp only at this; omega
     obtain ⟨k, hk⟩ : ∃ k, p * m + s = k := ⟨_, rfl⟩
     have hkR : k < R := by
      rw [← hk, ← HRR.out]
      have : (p + 1) * m ≤ N * m := Nat.mul_le_mul_right _ hp1
      rw [Nat.add_mul, Nat.one_mul] at this
      omega
     have epm : (p : Int) * (m : Int) = ((p * m : Nat) : Int) := by simp
     have e1 : IntKind.i64.wrap ((p : Int) * (m : Int)) = (p : Int) * (m : Int) := by rw [epm, IntKind.wrap_i64]; omega
     have e2 : IntKind.i64.wrap ((p : Int) * (m : Int) + (s : Int)) = (k : Int) := by rw [epm, IntKind.wrap_i64]; omega
     clear epm
     have e3 : IntKind.i64.wrap ((k : Int) + 1) = (k : Int) + 1 := by rw [IntKind.wrap_i64]; omega
     have HKK := hide hk
     clear hk
     obtain ⟨W1, hW1⟩ : ∃ W1, wr.alloc (.cells #[.int .i64 (p : Int), .int .i64 (s : Int), .int .i64 x3] 61) = W1 := ⟨_, rfl⟩
     have HW : Hid (W1.heap[wr.heap.size]? = some (.cells #[.int .i64 (p : Int), .int .i64 (s : Int), .int .i64 x3] 61 (0, 0)) ∧ Below wr.heap.size wr W1 ∧ W1.heap.size = wr.heap.size + 1) := hide (by rw [← hW1]; exact ⟨World.alloc_heap_new _ _, (Below.refl _ _).alloc (Nat.le_refl _) _, by simp⟩)
     have y2 : W1.cell? ⟨wr.heap.size, 2, none⟩ = some (.int .i64 x3) := cell_of HW.out.1 rfl
     have b1 : W1.cell? ⟨b, 1, none⟩ = some (.slice aE i cE) := cell_of (blk_on HY.out.2.2.1 HW.out.2.1) rfl
     have HR1 := hide (own_below HY.out.1 HW.out.2.1)
     have hwx := HY.out.2.2.2.2
     have hw1 := HW.out.2.1.size
     obtain ⟨hi9, hz90, hz91, hz92⟩ := HI.out
     go_upto_region 6 with (at_builtin; refine wpList_append_own_at _ rfl _ _ 22 rfl wx.heap.size 3 i9 _ 1 8 Tryz.underlying22 hi9 hz90 hz91 hz92 rfl (by omega) (.slice aE i cE) i ((toL (Ed.take i)).map (Value.int .i64)) rfl (HR1.out.alloc _) ⟨W1.heap.size, 0, none⟩ 1 1 [.int .i64 x3] rfl rfl (World.news_of_block (cs := #[.int .i64 x3]) (t := 3) (fr := (0, 0)) (heap_alloc_new W1 _)) (by simp [Value.oneCell']) (by unfold maxLen; omega) (by omega) (by rw [World.size_alloc]; omega) ?_; intro v5 w5 ho hg hn5 hl5; obtain ⟨z5, d5, e5⟩ := own_slice ho; subst e5; have HG : Hid (w5.ownsRow wx.heap.size 3 1 (.slice z5 (i + 1) d5) (i + 1) ((toL (Ed.take (i + 1))).map (Value.int .i64)) ∧ Only W1 w5 (fun k => (Value.slice aE i cE).ownBlock = some k)) := hide (nr_step HTk.out ho hg); have Bb5 : Hid (w5.heap[b]? = some (.cells #[.int .i64 (m : Int), .slice aE i cE, .slice (some ⟨g, 0, none⟩) (R + 1) (R + 1)] 93 (0, 0))) := hide (nr_box HR1.out HG.out.2 (blk_on HY.out.2.2.1 HW.out.2.1) HP.out.2.2.2.1); have cb5 : w5.cell? ⟨b, 1, none⟩ = some (.slice aE i cE) := cell_of Bb5.out rfl; have fb5 : w5.frozen? ⟨b, 1, none⟩ = false := fz_of Bb5.out; clear ho hg hn5 hl5)
     obtain ⟨w6, hw6⟩ : ∃ W, w5.setCell ⟨b, 1, none⟩ (.slice z5 (i + 1) d5) = W := ⟨_, rfl⟩
     rw [hw6]
     have H6 : Hid (w6.ownsRow wx.heap.size 3 1 (.slice z5 (i + 1) d5) (i + 1) ((toL (Ed.take (i + 1))).map (Value.int .i64)) ∧ Mrw w6 g 3 (R + 1) (fun c => .int .i64 ((cntAt (kE m (Ed.take i)) c : Nat) : Int)) (R + 1) ∧ w6.heap[b]? = some (.cells #[.int .i64 (m : Int), .slice z5 (i + 1) d5, .slice (some ⟨g, 0, none⟩) (R + 1) (R + 1)] 93 (0, 0)) ∧ Below W0.heap.size W0 w6 ∧ wx.heap.size ≤ w6.heap.size ∧ w6.heap[wr.heap.size]? = some (.cells #[.int .i64 (p : Int), .int .i64 (s : Int), .int .i64 x3] 61 (0, 0))) := hide (by
      have hR := HR1.out
      have lo : ∀ k, (Value.slice aE i cE).ownBlock = some k → wx.heap.size ≤ k := fun k hk => (hR.lt k hk).1
      have o1 := HG.out.2
      have o2 : Only w5 w6 (fun k => k = b) := by rw [← hw6]; exact only_set _ _ _ _
      have pp := HP.out
      have Be := (o1.block _ (Array.getElem?_eq_some_iff.1 HW.out.1).1 (fun h => row_tag hR HW.out.1 (by decide) h)).trans HW.out.1
      have Mg := ((HY.out.2.1.below HW.out.2.1 HY.out.2.1.lt).only o1 (fun h => by have := lo _ h; omega)).only o2 (fun h => pp.1 h.symm)
      have d1 := HY.out.2.2.2.1.trans (HW.out.2.1.mono HY.out.2.2.2.1.size)
      have d5' := d1.trans (o1.toBelow d1.size (fun k hk => by have := lo _ hk; have := pp.2.2.2.2.2; have := HY.out.2.2.2.1.size; omega))
      exact ⟨row_only HG.out.1 o2 (fun k hk e => by have := (HG.out.1.lt k hk).1; omega), Mg, by rw [← hw6]; exact heap_setCell_same _ _ 1 _ 93 _ Bb5.out, d5'.trans (o2.toBelow d5'.size (fun k hk => by rw [hk]; exact pp.2.1)), Nat.le_trans hwx (Nat.le_trans HW.out.2.1.size (Nat.le_trans o1.size o2.size)), (o2.block _ (Array.getElem?_eq_some_iff.1 Be).1 (by have := HY.out.2.2.2.2; omega)).trans Be⟩)
     clear hw6 HG Bb5 cb5 fb5 HR1 HW y2 b1 hi9 hz90 hz91 hz92 hW1 hw1 hwx
     have b2 : w6.cell? ⟨b, 2, none⟩ = some (.slice (some ⟨g, 0, none⟩) (R + 1) (R + 1)) := cell_of H6.out.2.2.1 rfl
     obtain ⟨y0, y1⟩ := zd2 H6.out.2.2.2.2.2 rfl rfl
     have z1 : w6.cell? ⟨w.heap.size, 1, none⟩ = some (.int .i64 (m : Int)) := cell_of (blk_on HD.out.2.1 H6.out.2.2.2.1) rfl
     have r0 := H6.out.2.1.at (k + 1) (by omega)
     have r1 := H6.out.2.1.fz (k + 1)
     have hc := Nat.le_trans (cntAt_le (kE m (Ed.take i)) (k + 1)) (by rw [kE_len, List.length_take]; omega : (kE m (Ed.take i)).length ≤ i)
     obtain ⟨cn, hcn⟩ : ∃ cn, cntAt (kE m (Ed.take i)) (k + 1) = cn := ⟨_, rfl⟩
     simp only [hcn] at r0 hc
     have HC := hide hcn
     clear hcn
     have j4 : (k : Int) + 1 < (R : Int) + 1 := by omega
     have j5 : (0 : Int) ≤ (k : Int) + 1 := by omega
     have j6 : IntKind.i64.wrap ((cn : Int) + 1) = (cn : Int) + 1 := by rw [IntKind.wrap_i64]; omega
     have J : Hid ((w6.setCell ⟨g, k + 1, none⟩ (.int .i64 ((cn : Int) + 1))).ownsRow wx.heap.size 3 1 (.slice z5 (i + 1) d5) (i + 1) ((toL (Ed.take (i + 1))).map (Value.int .i64)) ∧ Mrw (w6.setCell ⟨g, k + 1, none⟩ (.int .i64 ((cn : Int) + 1))) g 3 (R + 1) (fun c => .int .i64 ((cntAt (kE m (Ed.take (i + 1))) c : Nat) : Int)) (R + 1) ∧ (w6.setCell ⟨g, k + 1, none⟩ (.int .i64 ((cn : Int) + 1))).heap[b]? = some (.cells #[.int .i64 (m : Int), .slice z5 (i + 1) d5, .slice (some ⟨g, 0, none⟩) (R + 1) (R + 1)] 93 (0, 0)) ∧ Below W0.heap.size W0 (w6.setCell ⟨g, k + 1, none⟩ (.int .i64 ((cn : Int) + 1))) ∧ wx.heap.size ≤ (w6.setCell ⟨g, k + 1, none⟩ (.int .i64 ((cn : Int) + 1))).heap.size) := hide (by
      have o := only_set w6 g (k + 1) (.int .i64 ((cn : Int) + 1))
      have pp := HP.out
      refine ⟨row_only H6.out.1 o (fun q hq e => by have := (H6.out.1.lt q hq).1; omega), (H6.out.2.1.upd (k + 1) _).congr fun c hc => ?_, (o.block b (Array.getElem?_eq_some_iff.1 H6.out.2.2.1).1 (fun e => pp.1 e)).trans H6.out.2.2.1, H6.out.2.2.2.1.trans (o.toBelow H6.out.2.2.2.1.size (fun q hq => by rw [hq]; exact pp.2.2.1)), Nat.le_trans H6.out.2.2.2.2.1 o.size⟩
      rw [HTk.out, show kE m (Ed.take i ++ [((p : Int), (s : Int), x3)]) = kE m (Ed.take i) ++ [((p : Int) * (m : Int) + (s : Int), 0, x3)] by simp [kE], cntAt_snoc]
      have ek : (p : Int) * (m : Int) + (s : Int) = (k : Int) := by rw [← HKK.out]; simp
      simp only [ek]
      by_cases e : c = k + 1
      · subst e
        rw [if_pos rfl, if_pos (by simp), HC.out]
        rfl
      · rw [if_neg e, if_neg (by omega)]
        rfl)
     clear H6 HTk
     go_wp2_with fail
     refine ⟨⟨i + 1, by omega, by go_num, z5, d5, J⟩, by simp [intOf]; omega⟩
   · obtain rfl : n3 = i := by omega
     have i1 : ¬ (n3 : Int) < (n3 : Int) := by omega
     obtain ⟨y0, y1⟩ := zd2 (blk_on HD.out.2.1 HY.out.2.2.2.1) rfl rfl
     have hmul : IntKind.i64.wrap ((N : Int) * (m : Int)) = (R : Int) := by
      have : (N : Int) * (m : Int) = (R : Int) := by rw [← HRR.out]; simp
      rw [this, IntKind.wrap_i64]
      omega
     have HZ : Hid (wr.ownsRow wx.heap.size 3 1 (.slice aE n3 cE) n3 ((toL Ed).map (Value.int .i64)) ∧ Mrw wr g 3 (R + 1) (firstV (kE m Ed) 0) (R + 1) ∧ wr.heap[b]? = some (.cells #[.int .i64 (m : Int), .slice aE n3 cE, .slice (some ⟨g, 0, none⟩) (R + 1) (R + 1)] 93 (0, 0)) ∧ Below W0.heap.size W0 wr ∧ wx.heap.size ≤ wr.heap.size) := hide (by
      have t := HY.out
      rw [List.take_of_length_le (by have := HN3.out; omega)] at t
      refine ⟨t.1, t.2.1.congr (fun c _ => ?_), t.2.2⟩
      unfold firstV
      by_cases e : c ≤ 0
      · obtain rfl : c = 0 := by omega
        have q := lessC_zero (kE m Ed) (fun e he => by
         obtain ⟨x, hx, rfl⟩ := List.mem_map.1 he
         have := hF.out x hx
         have h2 : 0 ≤ x.1 * (m : Int) := Int.mul_nonneg this.1.1 (by omega)
         show 0 ≤ x.1 * (m : Int) + x.2.1
         omega)
        rw [if_pos e, q.1, q.2]
      · rw [if_neg e])
     clear HY
     go_upto_region 8 with fail
     go_wp2_with fail
     clear y0 y1 hmul
     go_loopw [52] (fun iv wr => ∃ p : Nat, p ≤ R ∧ iv = .int .i64 (p : Int) ∧ Hid (wr.ownsRow wx.heap.size 3 1 (.slice aE n3 cE) n3 ((toL Ed).map (Value.int .i64)) ∧ Mrw wr g 3 (R + 1) (firstV (kE m Ed) p) (R + 1) ∧ wr.heap[b]? = some (.cells #[.int .i64 (m : Int), .slice aE n3 cE, .slice (some ⟨g, 0, none⟩) (R + 1) (R + 1)] 93 (0, 0)) ∧ Below W0.heap.size W0 wr ∧ wx.heap.size ≤ wr.heap.size)) (fun iv _ => R - (intOf iv).toNat)
     case atStart => exact ⟨0, Nat.zero_le _, rfl, HZ⟩
     case round =>
      obtain ⟨p, hp, rfl, HQ⟩ := hrel
      clear HZ
      by_cases hlt : p < R
      · have j0 : (0 : Int) ≤ (p : Int) := by omega
        have j1 : (p : Int) < (R : Int) := by omega
        have j2 : (p : Int) < (R : Int) + 1 := by omega
        have j3 : (p : Int) + 1 < (R : Int) + 1 := by omega
        have j4 : (0 : Int) ≤ (p : Int) + 1 := by omega
        have r0 := HQ.out.2.1.at p (by omega)
        have r1 := HQ.out.2.1.at (p + 1) (by omega)
        have r2 := HQ.out.2.1.fz (p + 1)
        have y5 : wr.cell? ⟨b, 2, none⟩ = some (.slice (some ⟨g, 0, none⟩) (R + 1) (R + 1)) := cell_of HQ.out.2.2.1 rfl
        unfold firstV at r0 r1
        rw [if_pos (Nat.le_refl _)] at r0
        rw [if_neg (by omega)] at r1
        have u0 := lessC_le (kE m Ed) p
        have u1 := cntAt_le (kE m Ed) (p + 1)
        rw [kE_len, HN3.out] at u0 u1
        have HS := hide (lessC_succ (kE m Ed) p)
        generalize lessC (kE m Ed) p = s at r0 u0 HS
        generalize cntAt (kE m Ed) (p + 1) = c at r1 u1 HS
        have v0 : (s : Int) ≤ 4194304 := by omega
        have v1 : (c : Int) ≤ 4194304 := by omega
        have v2 : (0 : Int) ≤ (s : Int) := by omega
        have v3 : (0 : Int) ≤ (c : Int) := by omega
        go_upto_region 11 with fail
        refine wp_region_phase 12 #[true, true, true, true, true, true, true, true, true, true, true, true, false, false] (by kernel_rfl) (by kernel_rfl) ?_
        simp only [List.take_succ_cons, List.take_zero, List.drop_succ_cons, List.drop_zero]
        repeat (go_big_quiet_step (fail))
        refine wpQuiet_nil ?_
        intro wz hzz
        obtain ⟨nq, rfl⟩ := hzz
        have J : Hid (((wr.drewN nq).setCell ⟨g, p + 1, none⟩ (.int .i64 ((c : Int) + (s : Int)))).ownsRow wx.heap.size 3 1 (.slice aE n3 cE) n3 ((toL Ed).map (Value.int .i64)) ∧ Mrw ((wr.drewN nq).setCell ⟨g, p + 1, none⟩ (.int .i64 ((c : Int) + (s : Int)))) g 3 (R + 1) (firstV (kE m Ed) (p + 1)) (R + 1) ∧ ((wr.drewN nq).setCell ⟨g, p + 1, none⟩ (.int .i64 ((c : Int) + (s : Int)))).heap[b]? = some (.cells #[.int .i64 (m : Int), .slice aE n3 cE, .slice (some ⟨g, 0, none⟩) (R + 1) (R + 1)] 93 (0, 0)) ∧ Below W0.heap.size W0 ((wr.drewN nq).setCell ⟨g, p + 1, none⟩ (.int .i64 ((c : Int) + (s : Int)))) ∧ wx.heap.size ≤ ((wr.drewN nq).setCell ⟨g, p + 1, none⟩ (.int .i64 ((c : Int) + (s : Int)))).heap.size) := hide (by
         have o := only_set (wr.drewN nq) g (p + 1) (.int .i64 ((c : Int) + (s : Int)))
         have pp := HP.out
         have hb1 : (wr.drewN nq).heap[b]? = some (.cells #[.int .i64 (m : Int), .slice aE n3 cE, .slice (some ⟨g, 0, none⟩) (R + 1) (R + 1)] 93 (0, 0)) := HQ.out.2.2.1
         have mq : Mrw (wr.drewN nq) g 3 (R + 1) (firstV (kE m Ed) p) (R + 1) := HQ.out.2.1
         have hw1 : (wr.drewN nq).ownsRow wx.heap.size 3 1 (.slice aE n3 cE) n3 ((toL Ed).map (Value.int .i64)) := HQ.out.1
         refine ⟨row_only hw1 o (fun q hq e => by have := (hw1.lt q hq).1; omega), (mq.upd (p + 1) _).congr fun k hk => ?_, (o.block b (Array.getElem?_eq_some_iff.1 hb1).1 (fun e => pp.1 e)).trans hb1, (below_drewN' HQ.out.2.2.2.1 nq).trans (o.toBelow HQ.out.2.2.2.1.size (fun k hk => by rw [hk]; exact pp.2.2.1)), Nat.le_trans HQ.out.2.2.2.2 o.size⟩
         unfold firstV
         by_cases e : k = p + 1
         · subst e
           rw [if_pos rfl, if_pos (Nat.le_refl _), HS.out]
           simp
         · rw [if_neg e]
           by_cases e2 : k ≤ p
           · rw [if_pos e2, if_pos (by omega)]
           · rw [if_neg e2, if_neg (by omega)])
        have wcs : IntKind.i64.wrap ((c : Int) + (s : Int)) = (c : Int) + (s : Int) := by rw [IntKind.wrap_i64]; omega
        go_wp2_with fail
        go_roundw
        case rel => exact ⟨p + 1, by omega, by go_num, by first | exact J | (simp only [wcs]; exact J)⟩
        case measure => simp [intOf]; omega
      · obtain rfl : R = p := by omega
        have j1 : ¬ (R : Int) < (R : Int) := by omega
        have F3 := blk_on HD.out.2.2.1 HQ.out.2.2.2.1
        have HQ2 := HQ.out.2.2.1
        obtain ⟨o0, o1, o2⟩ := zd3 F3 rfl rfl rfl
        have f0 : wr.frozen? ⟨w.heap.size + 1, 0, none⟩ = false := fz_of F3
        have f1 : wr.frozen? ⟨w.heap.size + 1, 1, none⟩ = false := fz_of F3
        have f2 : wr.frozen? ⟨w.heap.size + 1, 2, none⟩ = false := fz_of F3
        obtain ⟨k0, k1, k2⟩ := zd3 HQ2 rfl rfl rfl
        have O6 := hide (And.intro (set3 wr (w.heap.size + 1) _ _ _ (.int .i64 (m : Int)) (.slice aE n3 cE) (.slice (some ⟨g, 0, none⟩) (R + 1) (R + 1)) 93 F3) (only3 wr (w.heap.size + 1) 0 1 2 (.int .i64 (m : Int)) (.slice aE n3 cE) (.slice (some ⟨g, 0, none⟩) (R + 1) (R + 1))))
        clear F3 HQ2
        go_wp2_with fail
        refine bodyPost_ret (results_cell_row (p := 2) (ty := 93) rfl _ _ (w.heap.size + 1) 93 _ (0, 0) _ rfl O6.out.1 Tryz.underlying93 rfl (by kernel_rfl)) rfl ?_
        have pp := HP.out
        have oo := O6.out.2
        have dd := HD.out.1.trans (HQ.out.2.2.2.1.mono HD.out.1.size)
        refine ⟨aE, cE, g, rfl, hide ⟨owns_down (B := wx.heap.size) ?_ ?_, (HQ.out.2.1.congr (fun c hc => by unfold firstV; rw [if_pos (by omega)])).only oo (by omega), by omega⟩, dd.trans (oo.toBelow dd.size (fun k hk => by omega))⟩
        · exact row_only HQ.out.1 oo (fun q hq e => by have := (HQ.out.1.lt q hq).1; omega)
        · omega
theorem from_any (w : World) (N p : Nat) (m y : Int) (a1 a2 : Option Addr) (l1 l2 c1 c2 g3 k3 gf : Nat) (Es : List EdT) (hE : Hid (RdE w (some ⟨g3, 0, none⟩) Es)) (hk : Es.length ≤ k3) (hM : Hid (Mrw w gf 3 (N + 1) (fun c => .int .i64 (lessC Es c : Nat)) (N + 1))) (hp : p < N) (hN : N ≤ 4096) (hS : Hid (SsE Es)) (hl : Es.length ≤ 4194304) :
 Calls Tryz.prog 152 #[.agg #[.int .i64 (N : Int), .int .i64 m, .slice a1 l1 c1, .slice a2 l2 c2, .slice (some ⟨g3, 0, none⟩) Es.length k3, .slice (some ⟨gf, 0, none⟩) (N + 1) (N + 1)], .int .i64 (p : Int), .int .i64 y] w fun e w' => ∃ o c, e = .returned (.slice (some ⟨g3, o, none⟩) (fromL Es p y).length c) ∧ Hid (RdE w (some ⟨g3, o, none⟩) (fromL Es p y)) ∧ Below w.heap.size w w' := by
 obtain ⟨W0, hW0⟩ : ∃ W0, w.alloc (.cells #[.int .i64 (N : Int), .int .i64 m, .slice a1 l1 c1, .slice a2 l2 c2, .slice (some ⟨g3, 0, none⟩) Es.length k3, .slice (some ⟨gf, 0, none⟩) (N + 1) (N + 1)] 124) = W0 := ⟨_, rfl⟩
 have HD : Hid (Below w.heap.size w W0) := hide (by rw [← hW0]; exact (Below.refl _ _).alloc (Nat.le_refl _) _)
 have b0 : W0.heap[w.heap.size]? = some (.cells #[.int .i64 (N : Int), .int .i64 m, .slice a1 l1 c1, .slice a2 l2 c2, .slice (some ⟨g3, 0, none⟩) Es.length k3, .slice (some ⟨gf, 0, none⟩) (N + 1) (N + 1)] 124 (0, 0)) := by rw [← hW0]; exact World.alloc_heap_new _ _
 have k4 : W0.cell? ⟨w.heap.size, 4, none⟩ = some (.slice (some ⟨g3, 0, none⟩) Es.length k3) := cell_of b0 rfl
 have k5 : W0.cell? ⟨w.heap.size, 5, none⟩ = some (.slice (some ⟨gf, 0, none⟩) (N + 1) (N + 1)) := cell_of b0 rfl
 have HM := hide (hM.out.below HD.out hM.out.lt)
 have HE := hide (hE.out.on HD.out)
 have r0 := HM.out.at p (by omega)
 have r1 := HM.out.at (p + 1) (by omega)
 have u0 := lessC_le Es p
 have u1 := lessC_le Es (p + 1)
 have u2 : lessC Es p ≤ lessC Es (p + 1) := by rw [lessC_succ]; omega
 have HL := hide (subL_len (Es := Es) (lo := lessC Es p) u1)
 have HR := hide (subL_rd hE.out (lessC Es p) (lessC Es (p + 1)))
 have HU0 : ∀ L, subL Es (lessC Es p) (lessC Es (p + 1)) = L → ∀ i j (hi : i < L.length) (hj : j < L.length), i ≤ j → L[i].2.1 ≤ L[j].2.1 := fun L hL => by subst hL; exact part_up hS.out (p := p)
 have HQ := hide (fun (k z : Nat) (L : List EdT) (hL : subL Es (lessC Es p) (lessC Es (p + 1)) = L) => from_eq (y := y) hS.out (k := k) (z := z) hL)
 obtain ⟨L, hL⟩ : ∃ L, subL Es (lessC Es p) (lessC Es (p + 1)) = L := ⟨_, rfl⟩
 have HU := hide (HU0 L hL)
 clear HU0
 simp only [hL] at HL HR HQ
 replace HQ := hide (fun (k z : Nat) => HQ.out k z L rfl)
 generalize fromL Es p y = F at HQ ⊢
 simp only [Nat.zero_add] at HR
 generalize lessC Es p = lo at *
 generalize lessC Es (p + 1) = hi at *
 have v0 : (0 : Int) ≤ (p : Int) := by omega
 have v1 : (p : Int) < (N : Int) + 1 := by omega
 have v2 : (p : Int) + 1 < (N : Int) + 1 := by omega
 have v3 : (lo : Int) ≤ (hi : Int) := by omega
 have v4 : (hi : Int) ≤ (k3 : Int) := by omega
 have v5 : (p : Int) ≤ 4096 := by omega
 clear b0 hM hE hL
 go_enter Tryz.func152, Tryz.ntmps152
 go_upto_region 1 with fail
 go_cut [7] from 7 to 26 (fun v W => ∃ o c, v = .slice (some ⟨g3, o, none⟩) L.length c ∧ L.length ≤ c ∧ Hid (RdE w (some ⟨g3, o, none⟩) L) ∧ Hid (Below W0.heap.size W0 W))
 case first =>
  refine wp_region_phase 14 #[true, true, true, true, true, true, true, true, true, true, true, true, true, true, false, false] (by kernel_rfl) (by kernel_rfl) ?_
  simp only [List.take_succ_cons, List.take_zero, List.drop_succ_cons, List.drop_zero]
  repeat (go_big_quiet_step (fail))
  refine wpQuiet_nil ?_
  intro wz hzz
  obtain ⟨nq, rfl⟩ := hzz
  go_wp2_with fail
  · rename k3 = lo => hkl
    subst hkl
    go_meet
    have hn : L = [] := List.eq_nil_of_length_eq_zero (by have := HL.out; omega)
    exact ⟨0, 0, by rw [HL.out], by rw [hn]; simp, hide (by rw [hn]; intro j hj; simp at hj), hide (below_drewN2 (Below.refl _ _) nq)⟩
  · go_meet
    exact ⟨lo * 3, k3 - lo, by rw [HL.out], by rw [HL.out]; omega, HR, hide (below_drewN2 (Below.refl _ _) nq)⟩
 case rest =>
  obtain ⟨o, c, rfl, hc, HR2, HB⟩ := hcut
  rename World => wx
  have TS := search_any wx (some ⟨g3, o, none⟩) L c y (hide (HR2.out.on (HD.out.trans (HB.out.mono HD.out.size)))) (by have := HL.out; omega) HU
  have hll : L.length ≤ 4194304 := by have := HL.out; omega
  clear k4 k5 r0 r1 HR HU HL
  go_wp2_with (go_at_call 166; refine TS.mono ?_; rintro e w2 ⟨k, rfl, hkl, hkk, d2⟩)
  have HK := hide hkk
  have HB2 := hide (HB.out.trans (d2.mono HB.out.size))
  clear hkk d2 TS
  go_loopw [11] (fun ev wr => ∃ z : Nat, k ≤ z ∧ z ≤ L.length ∧ ev = .int .i64 z ∧ Hid (∀ t (h : t < L.length), k ≤ t → t < z → L[t].2.1 = y) ∧ Hid (Below W0.heap.size W0 wr)) (fun ev _ => L.length - (intOf ev).toNat)
  case atStart => exact ⟨k, Nat.le_refl _, hkl, rfl, hide (fun t _ h1 h2 => absurd h1 (by omega)), HB2⟩
  case round =>
   obtain ⟨z, hkz, hzl, rfl, HZ, HW⟩ := hrel
   clear HB2
   have fin : Hid ((∀ h : z < L.length, L[z].2.1 ≠ y) → subL L k z = F) := hide (fun he => HQ.out k z HK.out hkz HZ.out he)
   by_cases hz : z < L.length
   · obtain ⟨g', o', he, q0, q1, q2⟩ := (HR2.out.on (HD.out.trans (HW.out.mono HD.out.size))) z hz
     cases he
     have i0 : (0 : Int) ≤ (z : Int) := by omega
     have i1 : (z : Int) < (L.length : Int) := by omega
     by_cases hy : L[z].2.1 = y
     · have hy2 : (L[z].2.1 == y) = true := by simpa using hy
       have HZ2 : Hid (∀ t (h : t < L.length), k ≤ t → t < z + 1 → L[t].2.1 = y) := hide (fun t ht h1 h2 => by
        rcases Nat.lt_or_ge t z with h3 | h3
        · exact HZ.out t ht h1 h3
        · obtain rfl : t = z := by omega
          exact hy)
       rw [hy] at q1
       clear hy hy2
       go_wp2
       exact ⟨⟨z + 1, by omega, by omega, by go_num, HZ2, HW⟩, by simp [intOf]; omega⟩
     · have hy2 : (L[z].2.1 == y) = false := by simpa using hy
       have FN := hide (fin.out (fun _ => hy))
       generalize L[z].2.1 = x1 at q1 hy hy2
       have k0 : (k : Int) ≤ (z : Int) := by omega
       have k1 : (z : Int) ≤ (c : Int) := by omega
       go_wp2
       refine bodyPost_ret (results_tmp rfl _ _ _) rfl ?_
       exact ⟨o + k * 3, c - k, by rw [← FN.out, subL_len hzl]; rfl, hide (by rw [← FN.out]; exact subL_rd HR2.out k z), HD.out.trans (HW.out.mono HD.out.size)⟩
   · have FN := hide (fin.out (fun q => absurd q hz))
     have i1 : ¬ (z : Int) < (L.length : Int) := by omega
     have k0 : (k : Int) ≤ (z : Int) := by omega
     have k1 : (z : Int) ≤ (c : Int) := by omega
     by_cases hck : c = k
     · have hn : F = [] := by rw [← FN.out]; exact List.eq_nil_of_length_eq_zero (by rw [subL_len hzl]; omega)
       have e0 : z - k = 0 := by omega
       go_wp2
       refine bodyPost_ret (results_tmp rfl _ _ _) rfl ?_
       subst hn
       simp only
       exact ⟨o, ⟨0, rfl⟩, hide (by intro j hj; simp at hj), HD.out.trans (HW.out.mono HD.out.size)⟩
     · go_wp2
       refine bodyPost_ret (results_tmp rfl _ _ _) rfl ?_
       exact ⟨o + k * 3, ⟨c - k, by rw [← FN.out, subL_len hzl]; rfl⟩, hide (by rw [← FN.out]; exact subL_rd HR2.out k z), HD.out.trans (HW.out.mono HD.out.size)⟩
theorem only_drew {w w' : World} {R : Nat → Prop} (h : Only w w' R) : Only w w'.drew R := ⟨h.os, h.tape, h.output, h.size, h.block⟩
theorem add_only (b g cap n X j : Nat) (w : World) (hs : IsSet w b g cap n X) (hbg : b ≠ g) (hj : j < n) :
 Calls Tryz.prog 138 #[.pointer (some ⟨b, 0, none⟩), .int .i64 j] w fun e w' => e = .returned (.int .i64 0) ∧ IsSet w' b g cap n (X ||| 2 ^ j) ∧ Only w w' (fun k => k = g) := by
 have h0 := hs.c0
 have h1 := hs.c1
 have hn := hs.hn
 have hix : j / 64 < nw n := by unfold nw; omega
 have hw := hs.word (j / 64) hix
 have hfz : w.frozen? ⟨g, j / 64, none⟩ = false := hs.own.frozenAt _
 have HS := hide hs
 obtain ⟨q, hq⟩ : ∃ q, j / 64 = q := ⟨_, rfl⟩
 have hi2 : IntKind.i64.wrap ((j : Int) / 64) = (q : Int) := by rw [IntKind.wrap_i64]; omega
 rw [hq] at hix hw hfz
 have hi0 : (0 : Int) ≤ (q : Int) := by omega
 have hi1 : (q : Int) < (nw n : Int) := by omega
 have HQ := hide hq
 clear hs hq
 go_enter Tryz.func138, Tryz.ntmps138
 go_wp2_with (go_at_call 153; refine (inRange_yes b j n _ h0 (by omega)).mono ?_; rintro e w' ⟨rfl, hw⟩; obtain rfl := hw.symm; clear hw)
 go_region_with (go_at_call 154; refine (bit_any j _ (by omega) (by omega)).mono ?_; rintro e w' ⟨rfl, rfl⟩)
 all_goals go_wp2
 all_goals go_ret
 all_goals
  refine ⟨rfl, IsSet.drew (HS.out.store hbg hix (or_lt n X j HS.out.hX hj) (fun i _ hne => or_other X j i (by rw [HQ.out]; exact hne)) ?_), ?_⟩
  · rw [← HQ.out]
    have hm : (((j : Int) % 64).toNat) = j % 64 := by omega
    have := or_bit X j
    first
     | exact this
     | (simp only [hm]; exact this)
     | (simp only [hm]; simpa using this)
  · exact only_drew (only_set w g q _)
structure Wk (w : World) (N g3 k3 gf : Nat) (Es : List EdT) : Prop where
 e : RdE w (some ⟨g3, 0, none⟩) Es
 k : Es.length ≤ k3
 f : Mrw w gf 3 (N + 1) (fun c => .int .i64 (lessC Es c : Nat)) (N + 1)
 s : SsE Es
 i : ∀ x ∈ Es, (0 ≤ x.1 ∧ x.1 < (N : Int)) ∧ 0 ≤ x.2.2 ∧ x.2.2 < (N : Int)
 l : Es.length ≤ 4194304
 n : N ≤ 4096
theorem Wk.on {w w' : World} {N g3 k3 gf : Nat} {Es : List EdT} (h : Wk w N g3 k3 gf Es) (d : Below w.heap.size w w') : Wk w' N g3 k3 gf Es :=
 ⟨h.e.on d, h.k, h.f.below d h.f.lt, h.s, h.i, h.l, h.n⟩
def oneF (R : Nat) (L : List EdT) : Nat := L.foldl (fun R e => R ||| 2 ^ e.2.2.toNat) R
def stepF (Es : List EdT) (y : Int) (l : List Nat) : Nat := l.foldl (fun R p => oneF R (fromL Es p y)) 0
theorem oneF_snoc (R : Nat) (L : List EdT) (e : EdT) : oneF R (L ++ [e]) = oneF R L ||| 2 ^ e.2.2.toNat := by simp [oneF]
theorem stepF_snoc (Es : List EdT) (y : Int) (l : List Nat) (p : Nat) : stepF Es y (l ++ [p]) = oneF (stepF Es y l) (fromL Es p y) := by simp [stepF]
theorem oneF_test (q : Nat) : ∀ (L : List EdT) (R : Nat), (oneF R L).testBit q = true ↔ R.testBit q = true ∨ ∃ e ∈ L, e.2.2.toNat = q
 | [], R => by simp [oneF]
 | e :: L, R => by
  have := oneF_test q L (R ||| 2 ^ e.2.2.toNat)
  have e1 : oneF R (e :: L) = oneF (R ||| 2 ^ e.2.2.toNat) L := rfl
  rw [e1, this, Nat.testBit_or, Bool.or_eq_true, Nat.testBit_two_pow, decide_eq_true_eq]
  simp only [List.mem_cons, exists_eq_or_imp]
  exact or_assoc
theorem stepF_test (Es : List EdT) (y : Int) (q : Nat) (l : List Nat) : (stepF Es y l).testBit q = true ↔ ∃ p ∈ l, ∃ e ∈ fromL Es p y, e.2.2.toNat = q := by
 have key : ∀ (l : List Nat) (R : Nat), (l.foldl (fun R p => oneF R (fromL Es p y)) R).testBit q = true ↔ R.testBit q = true ∨ ∃ p ∈ l, ∃ e ∈ fromL Es p y, e.2.2.toNat = q := by
  intro l
  induction l with
  | nil => intro R; simp
  | cons p l ih =>
   intro R
   rw [List.foldl_cons, ih, oneF_test]
   simp only [List.mem_cons, exists_eq_or_imp]
   exact or_assoc
 unfold stepF
 rw [key]
 simp
theorem step_img {Es : List EdT} {N X : Nat} (hi : ∀ x ∈ Es, (0 ≤ x.1 ∧ x.1 < (N : Int)) ∧ 0 ≤ x.2.2 ∧ x.2.2 < (N : Int)) (y : Int) : stepF Es y (elems N X) = imgF false X y Es := by
 apply Nat.eq_of_testBit_eq
 intro q
 rw [Bool.eq_iff_iff, stepF_test, imgF_test]
 constructor
 · rintro ⟨p, hp, e, he, rfl⟩
   rw [fromL_iff] at he
   obtain ⟨h1, h2, h3⟩ := he
   refine ⟨e, h1, h3, ?_, rfl⟩
   have := (mem_elems.1 hp).2
   simp only [ends, Bool.false_eq_true, if_false, hasB, h2]
   simpa using this
 · rintro ⟨e, he, h1, h2, h3⟩
   have h4 := hi e he
   obtain ⟨p, hp⟩ := Int.eq_ofNat_of_zero_le h4.1.1
   refine ⟨p, ?_, e, fromL_iff.2 ⟨he, hp, h1⟩, h3⟩
   simp only [ends, Bool.false_eq_true, if_false, hasB, hp] at h2
   rw [mem_elems]
   exact ⟨by omega, by simpa using h2⟩
theorem Wk.lt {w : World} {N g3 k3 gf : Nat} {Es : List EdT} (h : Wk w N g3 k3 gf Es) {x : EdT} (hx : x ∈ Es) : g3 < w.heap.size := by
 obtain ⟨j, hj, rfl⟩ := List.getElem_of_mem hx
 obtain ⟨g, o, he, q, _⟩ := h.e j hj
 cases he
 exact World.block_lt_of_cell? w _ q
theorem KpU.ofOnly {B g : Nat} {W W' : World} (h0 : 0 < W.heap.size) (o : Only W W' (fun k => k = g)) (hg : g < B) (hg0 : g ≠ 0) : KpU B W W' :=
 ⟨o.size, o.block 0 h0 (fun e => hg0 e.symm), fun b _ _ hb hc => (o.block b (Array.getElem?_eq_some_iff.1 hc).1 (fun e => by omega)).trans hc⟩
theorem KpU.put {B : Nat} (W : World) (l : Nat) (r r' : Loop) (hl : 0 < l) (h : W.heap[l]? = some (.loop r)) : KpU B W (W.putObj l (.loop r')) := by
 refine ⟨by simp [World.putObj], World.putObj_heap_other (by omega), fun b cs fr _ hc => ?_⟩
 refine (World.putObj_heap_other fun e => ?_).trans hc
 rw [e] at hc
 rw [h] at hc
 cases hc
structure StI (w : World) (A : Array Value) (sym : Int) (c7 b2 g2 k2 N R : Nat) (W : World) : Prop where
 wb : W.heap[w.heap.size]? = some (.cells A 124 (0, 0))
 sb : W.heap[w.heap.size + 1]? = some (.cells #[.int .i64 sym] 3 (0, 0))
 cb : W.heap[c7]? = some (.cells #[.pointer (some ⟨b2, 0, none⟩)] 81 (0, 0))
 st : IsSet W b2 g2 k2 N R
 be : Below w.heap.size w W
theorem StI.on {w : World} {A : Array Value} {sym : Int} {c7 b2 g2 k2 N R : Nat} {W W' : World} (h : StI w A sym c7 b2 g2 k2 N R W) (d : Below W.heap.size W W') : StI w A sym c7 b2 g2 k2 N R W' :=
 ⟨blk_on h.wb d, blk_on h.sb d, blk_on h.cb d, h.st.below d, h.be.trans (d.mono h.be.size)⟩
theorem StI.put {w : World} {A : Array Value} {sym : Int} {c7 b2 g2 k2 N R l : Nat} {W : World} {r r' : Loop} (h : StI w A sym c7 b2 g2 k2 N R W) (hl : W.heap[l]? = some (.loop r)) (h1 : w.heap.size + 1 < l) : StI w A sym c7 b2 g2 k2 N R (W.putObj l (.loop r')) := by
 have ne : ∀ k (o : Obj), W.heap[k]? = some o → o ≠ Obj.loop r → (W.putObj l (.loop r')).heap[k]? = W.heap[k]? := fun k o hk ho => World.putObj_heap_other fun e => by
  rw [e, hl] at hk
  exact ho (by simpa using hk.symm)
 refine ⟨(ne _ _ h.wb (by simp)).trans h.wb, (ne _ _ h.sb (by simp)).trans h.sb, (ne _ _ h.cb (by simp)).trans h.cb, h.st.keep (ne _ _ h.st.blk (by simp)) ?_, ?_⟩
 · rcases h.st.own.2 with ⟨hv, _⟩ | ⟨g', cap', cur, hv, _, hg, _⟩
   · cases hv
   · cases hv
     exact ne _ _ hg (by simp)
 · exact ⟨h.be.os, h.be.tape, h.be.output, by have := h.be.size; simpa [World.putObj] using this, fun j hj => (World.putObj_heap_other (by omega)).trans (h.be.block j hj)⟩
theorem StI.only {w : World} {A : Array Value} {sym : Int} {c7 b2 g2 k2 N R R' : Nat} {W W' : World} (h : StI w A sym c7 b2 g2 k2 N R W) (o : Only W W' (fun k => k = g2)) (hs : IsSet W' b2 g2 k2 N R') (h1 : w.heap.size + 1 < g2) (h7 : c7 ≠ g2) : StI w A sym c7 b2 g2 k2 N R' W' :=
 ⟨(o.block _ (Array.getElem?_eq_some_iff.1 h.wb).1 (fun e => by omega)).trans h.wb, (o.block _ (Array.getElem?_eq_some_iff.1 h.sb).1 (fun e => by omega)).trans h.sb, (o.block _ (Array.getElem?_eq_some_iff.1 h.cb).1 h7).trans h.cb, hs,
  h.be.trans (o.toBelow h.be.size (fun k hk => by omega))⟩
theorem step_any (w : World) (N : Nat) (m sym : Int) (a1 a2 : Option Addr) (l1 l2 c1 c2 g3 k3 gf : Nat) (Es : List EdT) (b g cap X : Nat) (hW : Hid (Wk w N g3 k3 gf Es)) (hs : Hid (IsSet w b g cap N X)) (hT : Hid (TabAt w ∧ 0 < w.heap.size)) :
 Calls Tryz.prog 127 #[.agg #[.int .i64 (N : Int), .int .i64 m, .slice a1 l1 c1, .slice a2 l2 c2, .slice (some ⟨g3, 0, none⟩) Es.length k3, .slice (some ⟨gf, 0, none⟩) (N + 1) (N + 1)], .pointer (some ⟨b, 0, none⟩), .int .i64 sym] w fun e w' => ∃ b' g' cap', e = .returned (.pointer (some ⟨b', 0, none⟩)) ∧ Hid (IsSet w' b' g' cap' N (imgF false X sym Es) ∧ w.heap.size ≤ b' ∧ w.heap.size ≤ g' ∧ b' ≠ g') ∧ Below w.heap.size w w' := by
 have hN := hW.out.n
 obtain ⟨W0, hW0⟩ : ∃ W0, (w.alloc (.cells #[.int .i64 (N : Int), .int .i64 m, .slice a1 l1 c1, .slice a2 l2 c2, .slice (some ⟨g3, 0, none⟩) Es.length k3, .slice (some ⟨gf, 0, none⟩) (N + 1) (N + 1)] 124)).alloc (.cells #[.int .i64 sym] 3) = W0 := ⟨_, rfl⟩
 have HD := hide (box3 w #[.int .i64 (N : Int), .int .i64 m, .slice a1 l1 c1, .slice a2 l2 c2, .slice (some ⟨g3, 0, none⟩) Es.length k3, .slice (some ⟨gf, 0, none⟩) (N + 1) (N + 1)] #[.int .i64 sym] 124 3)
 rw [hW0] at HD
 have B0 := HD.out.2.1
 obtain ⟨y0, y1, y2, y3, y4⟩ := zd5 B0 rfl rfl rfl rfl rfl
 clear B0
 have TS := setOf_any W0 N m a1 a2 (some ⟨g3, 0, none⟩) none l1 l2 Es.length c1 c2 k3 0 [] (hide (fun j h => absurd h (Nat.not_lt_zero j))) (Nat.zero_le _) hN (hide rfl)
 refine (callsIn_wide (n := 9)).1 (callsIn_of_wp_marks Tryz.func127 rfl trivial ?_ rfl)
 refine wpIn_wide.2 ?_
 simp only [Tryz.ntmps127, List.size_toArray, List.length_cons, List.length_nil, Nat.reduceAdd, Nat.reduceSub, Array.replicate_succ, Array.replicate_zero, List.push_toArray, List.append_toArray, List.nil_append, List.cons_append]
 go_wp2_with (first
  | (go_at_call 126; refine TS.mono ?_; rintro e w1 ⟨b2, g2, k2, rfl, hs2, hb2, hg2, hbg2, d1⟩)
  | (go_at_call 151; refine (all_any _ _).mono ?_; rintro e w3 ⟨rfl, hw3⟩))
 have hz := HD.out.2.2.2
 have d0 := HD.out.1.trans (d1.mono HD.out.1.size)
 obtain ⟨W3, hW3⟩ : ∃ W3, (w1.alloc (.cells #[.pointer (some ⟨b2, 0, none⟩)] 81)).alloc (.cells #[.pointer (some ⟨b, 0, none⟩)] 81) = W3 := ⟨_, rfl⟩
 rw [hW3]
 have q3 := box3 w1 #[.pointer (some ⟨b2, 0, none⟩)] #[.pointer (some ⟨b, 0, none⟩)] 81 81
 rw [hW3] at q3
 obtain ⟨e3, e4, e5, e6⟩ := q3
 have hlb := hs2.blt
 have hlg := hs2.glt
 have d13 : Below w1.heap.size w1 W3 := e3
 have HI0 : StI w #[.int .i64 (N : Int), .int .i64 m, .slice a1 l1 c1, .slice a2 l2 c2, .slice (some ⟨g3, 0, none⟩) Es.length k3, .slice (some ⟨gf, 0, none⟩) (N + 1) (N + 1)] sym w1.heap.size b2 g2 k2 N (stepF Es sym ((elems N X).take 0)) W3 :=
  ⟨blk_on (blk_on HD.out.2.1 d1) d13, blk_on (blk_on HD.out.2.2.1 d1) d13, e4, hs2.below d13, d0.trans (d13.mono d0.size)⟩
 have hsq := all_seq 8 (w1.heap.size + 1) b g cap N X W3 e5 ((hs.out.below d0).below d13) ((hT.out.1.below d0 hT.out.2).below d13 (Nat.lt_of_lt_of_le hT.out.2 d0.size))
 have HSEQ := hide hsq
 have HI := hide HI0
 have hsz1 := d1.size
 clear hsq HI0 e3 e4 e5 d13 hs2 y0 y1 y2 y3 y4 hW0 hW3 hw3 TS d1
 refine (wpIn_wide (n := 9)).1 ?_
 refine range_in_order (n := 9) (by omega) rfl (enters_of Tryz.func163 (by kernel_rfl) rfl) HSEQ.out KpU.trans ?kb (Below.refl _ _) (fun k W => StI w #[.int .i64 (N : Int), .int .i64 m, .slice a1 l1 c1, .slice a2 l2 c2, .slice (some ⟨g3, 0, none⟩) Es.length k3, .slice (some ⟨gf, 0, none⟩) (N + 1) (N + 1)] sym w1.heap.size b2 g2 k2 N (stepF Es sym ((elems N X).take k)) W) (fun k A A' h d => h.on d) ?ip HI.out (fun x => { tmps := #[.agg #[.int .i64 (N : Int), .int .i64 m, .slice a1 l1 c1, .slice a2 l2 c2, .slice (some ⟨g3, 0, none⟩) Es.length k3, .slice (some ⟨gf, 0, none⟩) (N + 1) (N + 1)], .pointer (some ⟨b, 0, none⟩), .int .i64 sym, .pointer (some ⟨w.heap.size, 0, none⟩), undef, .pointer (some ⟨w.heap.size + 1, 0, none⟩), .pointer none, .pointer (some ⟨w1.heap.size, 0, none⟩), x, undef, undef, .pointer (some ⟨w.heap.size, 0, none⟩), .agg #[.int .i64 (N : Int), .int .i64 m, .slice a1 l1 c1, .slice a2 l2 c2, .slice (some ⟨g3, 0, none⟩) Es.length k3], .pointer (some ⟨b2, 0, none⟩), .pointer (some ⟨b, 0, none⟩), .func (.func 163) #[] #[.pointer (some ⟨w1.heap.size + 1, 0, none⟩)], x, undef, undef, undef, undef, undef, undef, undef, undef, undef, undef, undef, undef, undef, undef, undef], defers := [] }) ?assign ?body ?done
 case kb => exact fun W r r' h => KpU.put W _ r r' (by omega) h
 case ip => exact fun k A r r' hI h => hI.put h (by omega)
 case assign =>
  intro l x W K hK
  gi_wp2
  exact hK
 case body =>
  rintro l k W hk hI hd ⟨r, hr⟩
  have hk2 : k < (elems N X).length := by simpa [intV] using hk
  have hv : (intV (elems N X))[k] = .int .i64 ((elems N X)[k] : Int) := by simp [intV]
  rw [hv]
  have hpN : (elems N X)[k] < N := (mem_elems.1 (List.getElem_mem hk2)).1
  have hsn : stepF Es sym ((elems N X).take (k + 1)) = oneF (stepF Es sym ((elems N X).take k)) (fromL Es (elems N X)[k] sym) := by
   rw [List.take_succ_eq_append_getElem hk2, stepF_snoc]
  have HSN := hide hsn
  obtain ⟨p, hp⟩ : ∃ p, (elems N X)[k] = p := ⟨_, rfl⟩
  simp only [hp] at hpN HSN ⊢
  have HWk := hide (hW.out.on hI.be)
  have TF := from_any W N p m sym a1 a2 l1 l2 c1 c2 g3 k3 gf Es (hide HWk.out.e) HWk.out.k (hide HWk.out.f) hpN hN (hide HWk.out.s) HWk.out.l
  have HFi : Hid (∀ x ∈ fromL Es p sym, 0 ≤ x.2.2 ∧ x.2.2 < (N : Int)) := hide (fun x hx => (HWk.out.i x (fromL_iff.1 hx).1).2)
  have HFg : Hid (∀ x ∈ fromL Es p sym, g3 < w.heap.size) := hide (fun x hx => hW.out.lt (fromL_iff.1 hx).1)
  have HFl : (fromL Es p sym).length ≤ 4194304 := Nat.le_trans (List.length_filter_le _ _) hW.out.l
  obtain ⟨x0, x1, x2, x3, x4, x5⟩ := zd6 hI.wb rfl rfl rfl rfl rfl rfl
  have xs : W.cell? ⟨w.heap.size + 1, 0, none⟩ = some (.int .i64 sym) := cell_of hI.sb rfl
  have HL := hide (And.intro (And.intro hd hr) (show W3.heap.size + 1 < W.heap.size from (Array.getElem?_eq_some_iff.1 hr).1))
  have HI2 := hide hI
  have hW3s : W3.heap.size = w1.heap.size + 2 := by omega
  generalize fromL Es p sym = F at TF HFi HFg HFl HSN
  generalize stepF Es sym ((elems N X).take k) = R at HI2 HSN hI
  clear hk hv hp hr hd hsn hI
  gi_wp2
  refine ⟨trivial, (CallsIn.inRound l (callsIn_wide.2 TF)).mono ?_⟩
  rintro e w4 ⟨o, c, rfl, hrF, d4⟩
  have H4 : Hid (IsSet w4 b2 g2 k2 N (oneF R (F.take 0)) ∧ Only W w4 (fun q => q = g2)) := hide ⟨HI2.out.st.below d4, Only.ofBelow d4⟩
  clear d4 TF x0 x1 x2 x3 x4 x5 xs
  gi_wp2
  gi_loopw [22] (fun iv wr => ∃ t : Nat, t ≤ F.length ∧ iv = .int .i64 t ∧ Hid (IsSet wr b2 g2 k2 N (oneF R (F.take t)) ∧ Only W wr (fun q => q = g2))) (fun iv _ => F.length - (intOf iv).toNat)
  case atStart => exact ⟨0, Nat.zero_le _, rfl, H4⟩
  case round =>
   obtain ⟨t, ht, rfl, HY⟩ := hrel
   clear H4
   by_cases hlt : t < F.length
   · have i0 : (0 : Int) ≤ (t : Int) := by omega
     have i1 : (t : Int) < (F.length : Int) := by omega
     have hne : g3 ≠ g2 := by
      have := HFg.out F[t] (List.getElem_mem hlt)
      omega
     obtain ⟨g', o', he, q1, q2, q3⟩ := (rdE_only hrF.out HY.out.2 (fun a b hab => by cases hab; exact hne)) t hlt
     cases he
     have HN := hide (HFi.out F[t] (List.getElem_mem hlt))
     have HTk := hide (show F.take (t + 1) = F.take t ++ [F[t]] by rw [List.take_add_one, List.getElem?_eq_getElem hlt]; rfl)
     obtain ⟨x, hx⟩ : ∃ x, F[t] = x := ⟨_, rfl⟩
     rw [hx] at q1 q2 q3 HTk HN
     clear hx
     obtain ⟨x1, x2, x3⟩ := x
     obtain ⟨j3, hj3⟩ := Int.eq_ofNat_of_zero_le HN.out.1
     have hj3 : x3 = (j3 : Int) := hj3
     subst hj3
     have hl3 : j3 < N := by have := HN.out.2; simp only at this; omega
     obtain ⟨W5, hW5⟩ : ∃ W5, wr.alloc (.cells #[.int .i64 x1, .int .i64 x2, .int .i64 (j3 : Int)] 61) = W5 := ⟨_, rfl⟩
     have HW5 : Hid (W5.heap[wr.heap.size]? = some (.cells #[.int .i64 x1, .int .i64 x2, .int .i64 (j3 : Int)] 61 (0, 0)) ∧ Below wr.heap.size wr W5) := hide (by rw [← hW5]; exact ⟨World.alloc_heap_new _ _, (Below.refl _ _).alloc (Nat.le_refl _) _⟩)
     have y2 : W5.cell? ⟨wr.heap.size, 2, none⟩ = some (.int .i64 (j3 : Int)) := cell_of HW5.out.1 rfl
     have hcb : wr.heap[w1.heap.size]? = some (.cells #[.pointer (some ⟨b2, 0, none⟩)] 81 (0, 0)) := (HY.out.2.block _ (Array.getElem?_eq_some_iff.1 HI2.out.cb).1 (by omega)).trans HI2.out.cb
     have y7 : W5.cell? ⟨w1.heap.size, 0, none⟩ = some (.pointer (some ⟨b2, 0, none⟩)) := cell_of (blk_on hcb HW5.out.2) rfl
     have T96 := add_only b2 g2 k2 N _ j3 W5 (HY.out.1.below HW5.out.2) hbg2 hl3
     clear hcb
     gi_wp2
     refine ⟨trivial, (CallsIn.inRound l (callsIn_wide.2 T96)).mono ?_⟩
     rintro e w6 ⟨rfl, hs6, o6⟩
     have H6 : Hid (IsSet w6 b2 g2 k2 N (oneF R (F.take (t + 1))) ∧ Only W w6 (fun q => q = g2)) := hide ⟨by rw [HTk.out, oneF_snoc]; exact hs6, (HY.out.2.trans (Only.ofBelow HW5.out.2)).trans o6⟩
     clear hs6 o6 T96 y2 y7 q1 q2 q3 hW5
     gi_wp2
     exact ⟨⟨t + 1, by omega, by go_num, H6⟩, by simp [intOf]; omega⟩
   · obtain rfl : F.length = t := by omega
     have i1 : ¬ (F.length : Int) < (F.length : Int) := by omega
     gi_wp2
     have hw0 := hT.out.2
     have hL2 := HL.out.2
     have hst := HY.out.1
     rw [List.take_length] at hst
     refine ⟨⟨HY.out.2.block _ (by omega) (by omega), HY.out.2.block _ (by omega) (by omega)⟩, KpU.ofOnly (by omega) HY.out.2 (by omega) (by omega), ?_⟩
     show StI _ _ _ _ _ _ _ _ _ _
     rw [HSN.out]
     exact HI2.out.only HY.out.2 hst (by omega) (by omega)
 case done =>
  intro Dq W hD hI hq
  have c1 : W.cell? ⟨w1.heap.size, 0, none⟩ = some (.pointer (some ⟨b2, 0, none⟩)) := cell_of hI.cb rfl
  have hst := hI.st
  have hlen : (intV (elems N X)).length = (elems N X).length := by simp [intV]
  rw [hlen, List.take_length, step_img hW.out.i] at hst
  have hbl := hI.be
  have HST := hide hst
  clear hst hI hlen
  go_wp2_with fail
  refine ⟨by simp, .inl ⟨_, _, rfl, run_takeDeferred hq, ?_⟩⟩
  refine ⟨_, results_tmp rfl _ _ _, ?_⟩
  refine ⟨b2, g2, k2, rfl, hide ⟨HST.out.keep (World.putObj_heap_other (by omega)) (World.putObj_heap_other (by omega)), by omega, by omega, hbg2⟩, ?_⟩
  exact ⟨hbl.os, hbl.tape, hbl.output, by have := hbl.size; simpa [World.putObj] using this, fun j hj => (World.putObj_heap_other (by omega)).trans (hbl.block j hj)⟩
theorem imgF_rise (back : Bool) (X : Nat) (y : Int) (L : List EdT) : imgF back X y (riseE L) = imgF back X y L := by
 apply Nat.eq_of_testBit_eq
 intro q
 rw [Bool.eq_iff_iff, imgF_test, imgF_test]
 constructor
 · rintro ⟨e, he, h⟩; exact ⟨e, (riseE_iff L e).1 he, h⟩
 · rintro ⟨e, he, h⟩; exact ⟨e, (riseE_iff L e).2 he, h⟩
def wordF (Ed : List EdT) (X : Nat) (Wd : List Int) : Nat := Wd.foldl (fun X y => imgF false X y Ed) X
theorem wordF_snoc (Ed : List EdT) (X : Nat) (Wd : List Int) (y : Int) : wordF Ed X (Wd ++ [y]) = imgF false (wordF Ed X Wd) y Ed := by simp [wordF]
theorem own_cap {W : World} {B b cap n : Nat} {e : TypeId} {sz : Nat} {xs : List Value} (h : W.ownsRow B e sz (.slice (some ⟨b, 0, none⟩) n cap) n xs) : n ≤ cap := by
 rcases h.2 with ⟨hv, _⟩ | ⟨g', cap', cur, hv, _, _, hn, _⟩
 · cases hv
 · cases hv; exact hn
theorem wk_of {w w' : World} {N g1 k1 g2 k2 g3 k3 gf B : Nat} {S F : List Int} {Ed : List EdT} (hO : Own B w g1 k1 g2 k2 g3 k3 S F (riseE Ed)) (d : Below w.heap.size w w') (hM : Mrw w' gf 3 (N + 1) (fun c => .int .i64 (lessC (riseE Ed) c : Nat)) (N + 1))
 (hi : ∀ x ∈ Ed, (0 ≤ x.1 ∧ x.1 < (N : Int)) ∧ 0 ≤ x.2.2 ∧ x.2.2 < (N : Int)) (hl : Ed.length ≤ 4194304) (hN : N ≤ 4096) : Wk w' N g3 k3 gf (riseE Ed) :=
 ⟨(rdE_own hO.e).on d, own_cap hO.e, hM, riseE_ss Ed, fun x hx => hi x ((riseE_iff Ed x).1 hx), Nat.le_trans (riseE_len Ed) hl, hN⟩
theorem may_in {N : Nat} {m : Int} {St Fi : List Int} {Ed : List EdT} (em : mayA N m St Fi Ed = true) : ∀ x ∈ Ed, (0 ≤ x.1 ∧ x.1 < (N : Int)) ∧ 0 ≤ x.2.2 ∧ x.2.2 < (N : Int) := fun x hx => by
 have := (may_parts em).2.2.2.2.2 x hx
 exact ⟨this.1, this.2.2⟩
theorem after_any (w : World) (N : Nat) (m : Int) (a1 a2 a3 aw : Option Addr) (c1 c2 c3 cw : Nat) (St Fi : List Int) (Ed : List EdT) (Wd : List Int) (hA : Hid (RdA w a1 a2 a3 St Fi Ed)) (hWd : Hid (RdN w aw Wd)) (hT : Hid (TabAt w ∧ 0 < w.heap.size)) (h1 : St.length ≤ 4194304) (h2 : Fi.length ≤ 4194304) (h3 : Ed.length ≤ 4194304) (hw : Wd.length ≤ 4194304) (em : Hid (mayA N m St Fi Ed = true)) :
 Calls Tryz.prog 86 #[.agg #[.int .i64 (N : Int), .int .i64 m, .slice a1 St.length c1, .slice a2 Fi.length c2, .slice a3 Ed.length c3], .slice aw Wd.length cw] w fun e w' => ∃ b g cap, e = .returned (.pointer (some ⟨b, 0, none⟩)) ∧ Hid (IsSet w' b g cap N (wordF Ed (setI N St) Wd) ∧ w.heap.size ≤ b ∧ w.heap.size ≤ g ∧ b ≠ g) ∧ Below w.heap.size w w' := by
 have hN : N ≤ 4096 := by have := (may_parts em.out).1; omega
 have HIN := hide (may_in em.out)
 obtain ⟨W0, hW0⟩ : ∃ W0, w.alloc (.cells #[.int .i64 (N : Nat), .int .i64 m, .slice a1 St.length c1, .slice a2 Fi.length c2, .slice a3 Ed.length c3] 25) = W0 := ⟨_, rfl⟩
 have d0 : Below w.heap.size w W0 := by rw [← hW0]; exact (Below.refl _ _).alloc (Nat.le_refl _) _
 have B0 : W0.heap[w.heap.size]? = some (.cells #[.int .i64 (N : Nat), .int .i64 m, .slice a1 St.length c1, .slice a2 Fi.length c2, .slice a3 Ed.length c3] 25 (0, 0)) := by rw [← hW0]; exact World.alloc_heap_new _ _
 obtain ⟨y0, y1, y2, y3, y4⟩ := zd5 B0 rfl rfl rfl rfl rfl
 have HD := hide (And.intro d0 B0)
 have TO := inOrder_any W0 N m a1 a2 a3 c1 c2 c3 St Fi Ed (hide (hA.out.on d0)) h1 h2 h3
 have HFr : Hid (∀ e ∈ riseE Ed, 0 ≤ e.1 ∧ e.1 < (N : Int)) := hide (fun e he => (HIN.out e ((riseE_iff Ed e).1 he)).1)
 have hl3 : (riseE Ed).length ≤ 4194304 := Nat.le_trans (riseE_len Ed) h3
 have WK := hide (fun (w1 w2 : World) (g1 k1 g2 k2 g3 k3 gf B : Nat) (S F : List Int) => wk_of (N := N) (w := w1) (w' := w2) (g1 := g1) (k1 := k1) (g2 := g2) (k2 := k2) (g3 := g3) (k3 := k3) (gf := gf) (B := B) (S := S) (F := F) (Ed := Ed))
 have IMG := hide (fun X y => imgF_rise false X y Ed)
 generalize riseE Ed = Es at TO HFr hl3 WK IMG
 clear d0 B0
 go_enter Tryz.func86, Tryz.ntmps86
 go_upto_region 2 with (first
  | (go_at_call 81; refine TO.mono ?_; rintro e w1 ⟨g1, k1, g2, k2, g3, k3, rfl, hO, d1⟩; have TN := newWalk_any w1 N m (some ⟨g1, 0, none⟩) (some ⟨g2, 0, none⟩) (some ⟨g3, 0, none⟩) (riseL St).length (riseL Fi).length k1 k2 k3 Es hN (hide (rdE_own hO.e)) hl3 HFr)
  | (go_at_call 125; refine TN.mono ?_; rintro e w2 ⟨gf, rfl, hM, hgf, d2⟩))
 obtain ⟨W3, hW3⟩ : ∃ W3, w2.alloc (.cells #[.int .i64 (N : Int), .int .i64 m, .slice (some ⟨g1, 0, none⟩) (riseL St).length k1, .slice (some ⟨g2, 0, none⟩) (riseL Fi).length k2, .slice (some ⟨g3, 0, none⟩) Es.length k3, .slice (some ⟨gf, 0, none⟩) (N + 1) (N + 1)] 124) = W3 := ⟨_, rfl⟩
 rw [hW3]
 have d3 : Below w2.heap.size w2 W3 := by rw [← hW3]; exact (Below.refl _ _).alloc (Nat.le_refl _) _
 have b3 : W3.heap[w2.heap.size]? = some (.cells #[.int .i64 (N : Int), .int .i64 m, .slice (some ⟨g1, 0, none⟩) (riseL St).length k1, .slice (some ⟨g2, 0, none⟩) (riseL Fi).length k2, .slice (some ⟨g3, 0, none⟩) Es.length k3, .slice (some ⟨gf, 0, none⟩) (N + 1) (N + 1)] 124 (0, 0)) := by rw [← hW3]; exact World.alloc_heap_new _ _
 have D02 : Below W0.heap.size W0 w2 := d1.trans (d2.mono d1.size)
 have D03 : Below W0.heap.size W0 W3 := D02.trans (d3.mono D02.size)
 have H3 := hide (And.intro ((WK.out w1 w2 g1 k1 g2 k2 g3 k3 gf _ _ _ hO d2 hM HIN.out h3 hN).on d3) (And.intro b3 D03))
 clear y0 y1 y2 y3 y4 TO TN hO d1 hM d2 hW3 d3 b3 D02 D03 WK hW0
 have B0 := blk_on HD.out.2 H3.out.2.2
 obtain ⟨y0, y1, y2, y3, y4⟩ := zd5 B0 rfl rfl rfl rfl rfl
 have D3 : Hid (Below w.heap.size w W3) := hide (HD.out.1.trans (H3.out.2.2.mono HD.out.1.size))
 have T54 := setOf_any W3 N m a1 a2 a3 a1 St.length Fi.length Ed.length c1 c2 c3 c1 St (hide (hA.out.s.on D3.out)) h1 hN (hide (may_parts em.out).2.2.2.1)
 clear B0
 go_wp2_with (go_at_call 126; refine T54.mono ?_; rintro e w4 ⟨b0, g0, k0, rfl, hs4, hb4, hg4, hbg4, d4⟩)
 have hz3 := D3.out.size
 have H4 : Hid (IsSet w4 b0 g0 k0 N (wordF Ed (setI N St) (Wd.take 0)) ∧ w.heap.size ≤ b0 ∧ w.heap.size ≤ g0 ∧ b0 ≠ g0 ∧ Below W3.heap.size W3 w4) := hide ⟨hs4, by omega, by omega, hbg4, d4⟩
 clear y0 y1 y2 y3 y4 hs4 d4 T54
 go_loopw [6, 18] (fun pv iv wr => ∃ i b g k : Nat, i ≤ Wd.length ∧ pv = .pointer (some ⟨b, 0, none⟩) ∧ iv = .int .i64 i ∧ Hid (IsSet wr b g k N (wordF Ed (setI N St) (Wd.take i)) ∧ w.heap.size ≤ b ∧ w.heap.size ≤ g ∧ b ≠ g ∧ Below W3.heap.size W3 wr)) (fun _ iv _ => Wd.length - (intOf iv).toNat)
 case atStart => exact ⟨0, b0, g0, k0, Nat.zero_le _, rfl, rfl, H4⟩
 case round =>
  clear H4 hb4 hg4 hbg4
  obtain ⟨i, b, g, k, hi, rfl, rfl, HY⟩ := hrel
  by_cases hlt : i < Wd.length
  · have i0 : (0 : Int) ≤ (i : Int) := by omega
    have i1 : (i : Int) < (Wd.length : Int) := by omega
    have DR := hide (D3.out.trans (HY.out.2.2.2.2.mono D3.out.size))
    obtain ⟨gw, ow, rfl, qw⟩ := (hWd.out.on DR.out) i hlt
    have HTk := hide (show Wd.take (i + 1) = Wd.take i ++ [Wd[i]] by rw [List.take_add_one, List.getElem?_eq_getElem hlt]; rfl)
    generalize Wd[i] = sy at qw HTk
    have B5 := blk_on H3.out.2.1 HY.out.2.2.2.2
    obtain ⟨y0, y1, y2, y3, y4, y5⟩ := zd6 B5 rfl rfl rfl rfl rfl rfl
    have T86 := step_any wr N m sy (some ⟨g1, 0, none⟩) (some ⟨g2, 0, none⟩) (riseL St).length (riseL Fi).length k1 k2 g3 k3 gf Es b g k _ (hide (H3.out.1.on HY.out.2.2.2.2)) (hide HY.out.1) (hide ⟨hT.out.1.below DR.out hT.out.2, Nat.lt_of_lt_of_le hT.out.2 DR.out.size⟩)
    clear B5
    go_wp2_with (go_at_call 127; refine T86.mono ?_; rintro e w5 ⟨b5, g5, k5, rfl, hs5, d5⟩)
    refine ⟨⟨i + 1, b5, g5, k5, by omega, rfl, by go_num, hide ⟨?_, Nat.le_trans DR.out.size hs5.out.2.1, Nat.le_trans DR.out.size hs5.out.2.2.1, hs5.out.2.2.2, HY.out.2.2.2.2.trans (d5.mono HY.out.2.2.2.2.size)⟩⟩, by simp [intOf]; omega⟩
    have q := hs5.out.1
    rw [IMG.out] at q
    rw [HTk.out, wordF_snoc]
    exact q
  · obtain rfl : Wd.length = i := by omega
    have i1 : ¬ (Wd.length : Int) < (Wd.length : Int) := by omega
    go_wp2
    refine bodyPost_ret (results_tmp rfl _ _ _) rfl ?_
    have q := HY.out.1
    rw [List.take_length] at q
    exact ⟨b, rfl, ⟨g, k, hide ⟨q, HY.out.2.1, HY.out.2.2.1, HY.out.2.2.2.1⟩⟩, D3.out.trans (HY.out.2.2.2.2.mono D3.out.size)⟩
theorem wordErr_zero {n m : Int} {St Fi : List Int} {Ed : List EdT} {Wd : List Int} (h : wordErr n m St Fi Ed Wd = 0) : mayA n m St Fi Ed = true ∧ Wd.all (inB m) = true := by
 unfold wordErr at h
 split at h
 · rename_i h1
   split at h
   · rename_i h2; exact ⟨h1, h2⟩
   · cases h
 · cases h
theorem After_bad (w : World) (n : Int) (m : Int) (a1 a2 a3 aw : Option Addr) (c1 c2 c3 cw : Nat) (St Fi : List Int) (Ed : List EdT) (Wd : List Int) (hA : Hid (RdA w a1 a2 a3 St Fi Ed)) (hWd : Hid (RdN w aw Wd)) (h1 : St.length ≤ 4194304) (h2 : Fi.length ≤ 4194304) (h3 : Ed.length ≤ 4194304) (hw : Wd.length ≤ 4194304) (hbad : wordErr n m St Fi Ed Wd ≠ 0) :
 Calls Tryz.prog 51 #[.agg #[.int .i64 n, .int .i64 m, .slice a1 St.length c1, .slice a2 Fi.length c2, .slice a3 Ed.length c3], .slice aw Wd.length cw] w fun e w' => e = .returned (.tuple #[.slice none 0 0, .int .i64 (wordErr n m St Fi Ed Wd)]) ∧ Below w.heap.size w w' := by
 obtain ⟨W0, hW0⟩ : ∃ W0, w.alloc (.cells #[.int .i64 n, .int .i64 m, .slice a1 St.length c1, .slice a2 Fi.length c2, .slice a3 Ed.length c3] 25) = W0 := ⟨_, rfl⟩
 have d0 : Below w.heap.size w W0 := by rw [← hW0]; exact (Below.refl _ _).alloc (Nat.le_refl _) _
 have B0 : W0.heap[w.heap.size]? = some (.cells #[.int .i64 n, .int .i64 m, .slice a1 St.length c1, .slice a2 Fi.length c2, .slice a3 Ed.length c3] 25 (0, 0)) := by rw [← hW0]; exact World.alloc_heap_new _ _
 obtain ⟨y0, y1, y2, y3, y4⟩ := zd5 B0 rfl rfl rfl rfl rfl
 have T1 := checkWord_any W0 n m a1 a2 a3 c1 c2 c3 St Fi Ed (hide (hA.out.on d0)) h1 h2 h3 aw cw Wd (hide (hWd.out.on d0)) hw
 have HD := hide (And.intro d0 B0)
 clear d0 B0
 obtain ⟨r, hr⟩ : ∃ r, wordErr n m St Fi Ed Wd = r := ⟨_, rfl⟩
 rw [hr] at T1 hbad
 rw [hr]
 clear hr
 go_enter Tryz.func51, Tryz.ntmps51
 go_wp2_with (go_at_call 85; refine T1.mono ?_; rintro e w1 ⟨rfl, d1⟩; have H1 := hide d1; clear d1)
 go_ret2
 exact ⟨rfl, HD.out.1.trans (H1.out.mono HD.out.1.size)⟩
theorem After_ok (w : World) (N : Nat) (m : Int) (a1 a2 a3 aw : Option Addr) (c1 c2 c3 cw : Nat) (St Fi : List Int) (Ed : List EdT) (Wd : List Int) (hA : Hid (RdA w a1 a2 a3 St Fi Ed)) (hWd : Hid (RdN w aw Wd)) (hT : Hid (TabAt w ∧ 0 < w.heap.size)) (h1 : St.length ≤ 4194304) (h2 : Fi.length ≤ 4194304) (h3 : Ed.length ≤ 4194304) (hw : Wd.length ≤ 4194304) (hok : wordErr N m St Fi Ed Wd = 0) :
 Calls Tryz.prog 51 #[.agg #[.int .i64 (N : Int), .int .i64 m, .slice a1 St.length c1, .slice a2 Fi.length c2, .slice a3 Ed.length c3], .slice aw Wd.length cw] w fun e w' => ∃ gl capl, e = .returned (.tuple #[.slice (some ⟨gl, 0, none⟩) (elems N (wordF Ed (setI N St) Wd)).length capl, .int .i64 0]) ∧ Hid (w'.ownsRow w.heap.size 3 1 (.slice (some ⟨gl, 0, none⟩) (elems N (wordF Ed (setI N St) Wd)).length capl) (elems N (wordF Ed (setI N St) Wd)).length (intV (elems N (wordF Ed (setI N St) Wd)))) ∧ Below w.heap.size w w' := by
 obtain ⟨W0, hW0⟩ : ∃ W0, w.alloc (.cells #[.int .i64 (N : Int), .int .i64 m, .slice a1 St.length c1, .slice a2 Fi.length c2, .slice a3 Ed.length c3] 25) = W0 := ⟨_, rfl⟩
 have d0 : Below w.heap.size w W0 := by rw [← hW0]; exact (Below.refl _ _).alloc (Nat.le_refl _) _
 have B0 : W0.heap[w.heap.size]? = some (.cells #[.int .i64 (N : Int), .int .i64 m, .slice a1 St.length c1, .slice a2 Fi.length c2, .slice a3 Ed.length c3] 25 (0, 0)) := by rw [← hW0]; exact World.alloc_heap_new _ _
 obtain ⟨y0, y1, y2, y3, y4⟩ := zd5 B0 rfl rfl rfl rfl rfl
 have T1 := checkWord_any W0 (N : Int) m a1 a2 a3 c1 c2 c3 St Fi Ed (hide (hA.out.on d0)) h1 h2 h3 aw cw Wd (hide (hWd.out.on d0)) hw
 have HD := hide (And.intro d0 B0)
 clear d0 B0
 have HE := hide (wordErr_zero hok)
 rw [hok] at T1
 clear hok
 generalize hZ : wordF Ed (setI N St) Wd = Z
 have TA := hide (fun (W1 : World) (d : Below w.heap.size w W1) => after_any W1 N m a1 a2 a3 aw c1 c2 c3 cw St Fi Ed Wd (hide (hA.out.on d)) (hide (hWd.out.on d)) (hide ⟨hT.out.1.below d hT.out.2, Nat.lt_of_lt_of_le hT.out.2 d.size⟩) h1 h2 h3 hw (hide HE.out.1))
 simp only [hZ] at TA
 clear hZ
 go_enter Tryz.func51, Tryz.ntmps51
 go_upto_region 4 with (go_at_call 85; refine T1.mono ?_; rintro e w1 ⟨rfl, d1⟩; have H1 := hide (And.intro d1 (blk_on HD.out.2 d1)); clear d1)
 clear y0 y1 y2 y3 y4 T1
 have D1 : Hid (Below w.heap.size w w1) := hide (HD.out.1.trans (H1.out.1.mono HD.out.1.size))
 have B1 := H1.out.2
 obtain ⟨y0, y1, y2, y3, y4⟩ := zd5 B1 rfl rfl rfl rfl rfl
 clear B1
 go_wp2_with (first
  | (go_at_call 86; refine (TA.out _ D1.out).mono ?_; rintro e w2 ⟨b, g, cap, rfl, hs, d2⟩; have D2 : Hid (Below w.heap.size w w2) := hide (D1.out.trans (d2.mono D1.out.size)); clear d2; have TL := list_any b g cap N Z w2 hs.out.1 (hT.out.1.below D2.out hT.out.2))
  | (go_at_call 77; refine TL.mono ?_; rintro e w3 ⟨gl, capl, rfl, hr, d3⟩; have H3 := hide (And.intro hr d3); clear hr d3))
 go_ret2
 exact ⟨gl, capl, rfl, hide (owns_down H3.out.1 D2.out.size), D2.out.trans (H3.out.2.mono D2.out.size)⟩
end Go.Proofs.YtchoopnjckcohaaGreatDoor
namespace Go.Proofs.YtchoopnjckcohaaGreatDoor
open Go.RowKit Go.Maps Go.Shelf
theorem hasB_nat {X : Nat} {i : Int} (h : hasB X i = true) : 0 ≤ i ∧ X.testBit i.toNat = true := by
 unfold hasB at h
 simpa using h
end Go.Proofs.YtchoopnjckcohaaGreatDoor
namespace Go.Proofs.YtchoopnjckcohaaGreatDoor
open Go.RowKit Go.Maps Go.Shelf
attribute [local go_sem] Oper.semAt_some
theorem ints_one (L : List Int) : ∀ u ∈ L.map (Value.int .i64), u.oneCell' = true := by
 intro u hu
 obtain ⟨k, _, rfl⟩ := List.mem_map.1 hu
 rfl
theorem rd_news {W : World} {ad : Addr} {L : List Int} (h : RdN W (some ad) L) : ∀ (j : Nat) (u : Value), (L.map (Value.int .i64))[j]? = some u → W.cell? (ad.add j) = some u := fun j u hu => by
 have hj : j < L.length := by have := (List.getElem?_eq_some_iff.1 hu).1; simpa using this
 obtain ⟨g, o, e, q⟩ := h j hj
 cases e
 rw [Addr.add_lit]
 rw [show (L.map (Value.int .i64))[j]? = some (.int .i64 L[j]) by simp [hj]] at hu
 rw [← hu]
 exact q
theorem rdN_own {W : World} {B g c n : Nat} {X L : List Int} (h : W.ownsRow B 3 1 (.slice (some ⟨g, 0, none⟩) n c) n (X.map (Value.int .i64))) (hp : L <+: X) : RdN W (some ⟨g, 0, none⟩) L := fun j hj => by
 obtain ⟨t, rfl⟩ := hp
 refine ⟨g, 0, rfl, ?_⟩
 have := h.cells (g := g) rfl j (.int .i64 L[j]) (by rw [List.getElem?_map, List.getElem?_append_left hj, List.getElem?_eq_getElem hj]; rfl)
 rw [Addr.add_lit] at this
 simpa using this
theorem rdE_news {W : World} {ad : Addr} {L : List EdT} (h : RdE W (some ad) L) : ∀ (j : Nat) (u : Value), (L.flatMap encE)[j]? = some u → W.cell? (ad.add j) = some u := fun j u hu => by
 have hj : j < L.length * 3 := by have := (List.getElem?_eq_some_iff.1 hu).1; rw [encE_flat] at this; exact this
 obtain ⟨g, o, e, _⟩ := h 0 (by omega)
 cases e
 rw [Addr.add_lit]
 exact edges_at h j u hu
theorem in60 (w : World) (ao : Option Addr) (L : List Int) (c : Nat) (x : Int) (hr : Hid (RdN w ao L)) (hl : L.length ≤ 4194304) :
 Calls Tryz.prog 80 #[.slice ao L.length c, .int .i64 x] w fun e w' => e = .returned (.bool (decide (x ∈ L))) ∧ w' = w := by
 go_enter Tryz.func80, Tryz.ntmps80
 go_wp2
 go_loopw [5] (fun iv wr => ∃ i : Nat, i ≤ L.length ∧ iv = .int .i64 i ∧ Hid (∀ t (h : t < L.length), t < i → L[t] ≠ x) ∧ wr = w) (fun iv _ => L.length - (intOf iv).toNat)
 case atStart => exact ⟨0, Nat.zero_le _, rfl, hide (fun t _ h => absurd h (Nat.not_lt_zero t)), rfl⟩
 case round =>
  obtain ⟨i, hi, rfl, HY, hw⟩ := hrel
  obtain rfl := hw.symm
  clear hw
  by_cases hlt : i < L.length
  · have l0 : (i : Int) < (L.length : Int) := by omega
    have l1 : (0 : Int) ≤ (i : Int) := by omega
    obtain ⟨g, o, rfl, q⟩ := hr.out i hlt
    by_cases he : L[i] = x
    · have hm : x ∈ L := he ▸ List.getElem_mem hlt
      rw [he] at q
      have hd : Hid (decide (x ∈ L) = true) := hide (by simpa using hm)
      clear he hm
      go_wp2
      refine bodyPost_ret (results_tmp rfl _ _ _) rfl ?_
      exact ⟨by rw [hd.out]; rfl, rfl⟩
    · have HN : Hid (∀ t (h : t < L.length), t < i + 1 → L[t] ≠ x) := hide (fun t ht h2 => by
       rcases Nat.lt_or_ge t i with h3 | h3
       · exact HY.out t ht h3
       · obtain rfl : t = i := by omega
         exact he)
      have hb : (L[i] == x) = false := by simpa using he
      generalize L[i] = y at q he hb
      go_wp2
      go_roundw
      case rel => exact ⟨i + 1, by omega, by go_num, HN, by simp⟩
      case measure => simp [intOf]; omega
  · have l0 : ¬ (i : Int) < (L.length : Int) := by omega
    have hd : Hid (decide (x ∈ L) = false) := hide (by
     rw [decide_eq_false_iff_not]
     intro hm
     obtain ⟨t, ht, e⟩ := List.getElem_of_mem hm
     exact HY.out t ht (by omega) e)
    go_wp2
    refine bodyPost_ret (results_tmp rfl _ _ _) rfl ?_
    exact ⟨by rw [hd.out]; rfl, rfl⟩
theorem meets18 (w : World) (ao bo : Option Addr) (A B : List Int) (c d : Nat) (hA : Hid (RdN w ao A)) (hB : Hid (RdN w bo B)) (hl : A.length ≤ 4194304) (hk : B.length ≤ 4194304) :
 Calls Tryz.prog 47 #[.slice ao A.length c, .slice bo B.length d] w fun e w' => e = .returned (.bool (A.any fun x => decide (x ∈ B))) ∧ w' = w := by
 go_enter Tryz.func47, Tryz.ntmps47
 go_wp2
 go_loopw [5] (fun iv wr => ∃ i : Nat, i ≤ A.length ∧ iv = .int .i64 i ∧ Hid (∀ t (h : t < A.length), t < i → A[t] ∉ B) ∧ wr = w) (fun iv _ => A.length - (intOf iv).toNat)
 case atStart => exact ⟨0, Nat.zero_le _, rfl, hide (fun t _ h => absurd h (Nat.not_lt_zero t)), rfl⟩
 case round =>
  obtain ⟨i, hi, rfl, HY, hw⟩ := hrel
  obtain rfl := hw.symm
  clear hw
  by_cases hlt : i < A.length
  · have l0 : (i : Int) < (A.length : Int) := by omega
    have l1 : (0 : Int) ≤ (i : Int) := by omega
    obtain ⟨g, o, rfl, q⟩ := hA.out i hlt
    have T := in60 w bo B d A[i] hB hk
    by_cases he : A[i] ∈ B
    · have hd : Hid ((A.any fun x => decide (x ∈ B)) = true) := hide (List.any_eq_true.2 ⟨A[i], List.getElem_mem hlt, by simpa using he⟩)
      rw [show decide (A[i] ∈ B) = true by simpa using he] at T
      generalize A[i] = y at q T
      clear he
      go_wp2_with (go_at_call 80; refine T.mono ?_; rintro e w2 ⟨rfl, hw2⟩; obtain rfl := hw2.symm)
      refine bodyPost_ret (results_tmp rfl _ _ _) rfl ?_
      exact ⟨by rw [hd.out]; rfl, rfl⟩
    · have HN : Hid (∀ t (h : t < A.length), t < i + 1 → A[t] ∉ B) := hide (fun t ht h2 => by
       rcases Nat.lt_or_ge t i with h3 | h3
       · exact HY.out t ht h3
       · obtain rfl : t = i := by omega
         exact he)
      rw [show decide (A[i] ∈ B) = false by simpa using he] at T
      generalize A[i] = y at q T
      clear he
      go_wp2_with (go_at_call 80; refine T.mono ?_; rintro e w2 ⟨rfl, hw2⟩; obtain rfl := hw2.symm)
      go_roundw
      case rel => exact ⟨i + 1, by omega, by go_num, HN, by simp⟩
      case measure => simp [intOf]; omega
  · have l0 : ¬ (i : Int) < (A.length : Int) := by omega
    have hd : Hid ((A.any fun x => decide (x ∈ B)) = false) := hide (by
     rw [List.any_eq_false]
     intro x hx
     obtain ⟨t, ht, e⟩ := List.getElem_of_mem hx
     have := HY.out t ht (by omega)
     rw [e] at this
     simpa using this)
    go_wp2
    refine bodyPost_ret (results_tmp rfl _ _ _) rfl ?_
    exact ⟨by rw [hd.out]; rfl, rfl⟩
theorem sameInts_any (w : World) (ao bo : Option Addr) (A B : List Int) (c d : Nat) (hA : Hid (RdN w ao A)) (hB : Hid (RdN w bo B)) (hl : A.length ≤ 4194304) (hk : B.length ≤ 4194304) :
 Calls Tryz.prog 28 #[.slice ao A.length c, .slice bo B.length d] w fun e w' => e = .returned (.bool (decide (A = B))) ∧ Below w.heap.size w w' := by
 go_enter Tryz.func28, Tryz.ntmps28
 by_cases hlen : A.length = B.length
 · have hl2 : ((A.length : Int) != (B.length : Int)) = false := by simp [hlen]
   go_wp2
   go_loopw [5] (fun iv wr => ∃ i : Nat, i ≤ A.length ∧ iv = .int .i64 i ∧ Hid (∀ t (h : t < A.length), t < i → A[t] = B[t]'(by omega)) ∧ Hid (Below w.heap.size w wr)) (fun iv _ => A.length - (intOf iv).toNat)
   case atStart => exact ⟨0, Nat.zero_le _, rfl, hide (fun t _ h => absurd h (Nat.not_lt_zero t)), hide (Below.refl _ _)⟩
   case round =>
    obtain ⟨i, hi, rfl, HY, HW⟩ := hrel
    by_cases hlt : i < A.length
    · have l0 : (i : Int) < (A.length : Int) := by omega
      have l1 : (0 : Int) ≤ (i : Int) := by omega
      have hltB : i < B.length := by omega
      have l2 : (i : Int) < (B.length : Int) := by omega
      obtain ⟨g, o, hao, q⟩ := (hA.out.on HW.out) i hlt
      obtain ⟨g', o', hbo, q'⟩ := (hB.out.on HW.out) i hltB
      subst hao hbo
      by_cases he : A[i] = B[i]
      · have HN : Hid (∀ t (h : t < A.length), t < i + 1 → A[t] = B[t]'(by omega)) := hide (fun t ht h2 => by
         rcases Nat.lt_or_ge t i with h3 | h3
         · exact HY.out t ht h3
         · obtain rfl : t = i := by omega
           exact he)
        rw [← he] at q'
        generalize A[i] = x at q q' he
        have hb : (x != x) = false := by simp
        clear he
        go_wp2
        refine wp_region_phase 8 #[true, true, true, true, true, true, true, true, false] (by kernel_rfl) (by kernel_rfl) ?_
        simp only [List.take_succ_cons, List.take_zero, List.drop_succ_cons, List.drop_zero]
        repeat (go_big_quiet_step (fail))
        refine wpQuiet_nil ?_
        intro wz hzz
        obtain ⟨nq, rfl⟩ := hzz
        go_wp2_with fail
        go_roundw
        case rel => exact ⟨i + 1, by omega, by go_num, HN, hide (below_drewN2 HW.out nq)⟩
        case measure => simp [intOf]; omega
      · have hd : Hid (decide (A = B) = false) := hide (by
         rw [decide_eq_false_iff_not]
         intro e
         subst e
         exact he rfl)
        have hb : (A[i] != B[i]) = true := by simpa using he
        generalize A[i] = x at q he hb
        generalize B[i] = y at q' he hb
        go_wp2
        refine wp_region_phase 8 #[true, true, true, true, true, true, true, true, false] (by kernel_rfl) (by kernel_rfl) ?_
        simp only [List.take_succ_cons, List.take_zero, List.drop_succ_cons, List.drop_zero]
        repeat (go_big_quiet_step (fail))
        refine wpQuiet_nil ?_
        intro wz hzz
        obtain ⟨nq, rfl⟩ := hzz
        go_wp2_with fail
        refine bodyPost_ret (results_tmp rfl _ _ _) rfl ?_
        exact ⟨by rw [hd.out]; rfl, below_drewN2 HW.out nq⟩
    · have l0 : ¬ (i : Int) < (A.length : Int) := by omega
      have hd : Hid (decide (A = B) = true) := hide (by
       rw [decide_eq_true_eq]
       exact List.ext_getElem hlen fun t h1 h2 => HY.out t h1 (by omega))
      go_wp2
      refine bodyPost_ret (results_tmp rfl _ _ _) rfl ?_
      exact ⟨by rw [hd.out]; rfl, HW.out⟩
 · have hl2 : ((A.length : Int) != (B.length : Int)) = true := by simp; omega
   have hd : Hid (decide (A = B) = false) := hide (by
    rw [decide_eq_false_iff_not]
    intro e
    exact hlen (by rw [e]))
   go_wp2
   refine bodyPost_ret (results_tmp rfl _ _ _) rfl ?_
   exact ⟨by rw [hd.out]; rfl, Below.refl _ _⟩
theorem rise_one (x : Int) : riseL [x] = [x] := by
 unfold riseL sortI
 rw [List.mergeSort_singleton]
 apply Lib.compact_all
 intro j hj
 obtain rfl : j = 0 := by simpa using hj
 simp [Lib.keeps]
theorem alloc_below (w : World) (o : Obj) : Below w.heap.size w (w.alloc o) := (Below.refl _ _).alloc (Nat.le_refl _) _
end Go.Proofs.YtchoopnjckcohaaGreatDoor
namespace Go.Proofs.YtchoopnjckcohaaGreatDoor
open Go.RowKit Go.Maps Go.Shelf
theorem hasB_of {X : Nat} {i : Int} (h0 : 0 ≤ i) (h : X.testBit i.toNat = true) : hasB X i = true := by unfold hasB; simp [h0, h]
def Rch (Ed : List EdT) : List Int → Int → Int → Prop
 | [], p, q => p = q
 | y :: W, p, q => ∃ r, (p, y, r) ∈ Ed ∧ Rch Ed W r q
theorem cpL_ss {zs : List Int} (hs : zs.Pairwise (· ≤ ·)) : (Lib.compact zs).Pairwise (· < ·) := by
 have key : ∀ m, m ≤ zs.length → (Lib.compactUpTo zs.toArray m).Pairwise (· < ·) ∧ (∀ x ∈ Lib.compactUpTo zs.toArray m, ∃ j, j < m ∧ ∃ h : j < zs.length, x = zs[j]) := by
  intro m
  induction m with
  | zero => intro _; exact ⟨by simp [Lib.compactUpTo], fun x hx => by simp [Lib.compactUpTo] at hx⟩
  | succ m ih =>
   intro hm
   obtain ⟨k1, k2⟩ := ih (by omega)
   rw [Lib.compactUpTo_succ]
   by_cases hk : Lib.keeps zs.toArray m = true
   · rw [if_pos hk]
     have hm' : m < zs.length := by omega
     have em : zs.toArray[m]! = zs[m] := by simp [hm']
     refine ⟨?_, fun x hx => ?_⟩
     · rw [List.pairwise_append]
       refine ⟨k1, by simp, fun x hx y hy => ?_⟩
       rw [List.mem_singleton.1 hy, em]
       obtain ⟨j, hj, hjl, rfl⟩ := k2 x hx
       unfold Lib.keeps at hk
       rw [decide_eq_true_eq] at hk
       have hm0 : m ≠ 0 := by omega
       have hk2 := hk.resolve_left hm0
       have e1 : zs.toArray[m - 1]! = zs[m - 1] := by simp [show m - 1 < zs.length by omega]
       rw [em, e1] at hk2
       have l1 : zs[m - 1] ≤ zs[m] := (List.pairwise_iff_getElem.1 hs) (m - 1) m (by omega) hm' (by omega)
       rcases Nat.lt_or_ge j (m - 1) with q | q
       · have l2 : zs[j] ≤ zs[m - 1] := (List.pairwise_iff_getElem.1 hs) j (m - 1) hjl (by omega) q
         omega
       · have : j = m - 1 := by omega
         subst this; omega
     · rcases List.mem_append.1 hx with hx | hx
       · obtain ⟨j, hj, q⟩ := k2 x hx
         exact ⟨j, by omega, q⟩
       · rw [List.mem_singleton.1 hx]; exact ⟨m, by omega, hm', em⟩
   · rw [if_neg hk, List.append_nil]
     exact ⟨k1, fun x hx => by obtain ⟨j, hj, q⟩ := k2 x hx; exact ⟨j, by omega, q⟩⟩
 exact (key zs.length (Nat.le_refl _)).1
theorem sortI_up (L : List Int) : (sortI L).Pairwise (· ≤ ·) := by
 have hp : (sortI L).Pairwise fun a b => decide (a ≤ b) = true := List.pairwise_mergeSort (le := fun x y : Int => decide (x ≤ y)) (fun a b c h1 h2 => by
  simp only [decide_eq_true_eq] at *
  omega) (fun a b => by
  simp only [Bool.or_eq_true, decide_eq_true_eq]
  omega) L
 exact hp.imp fun q => by simpa using q
theorem riseL_ss (L : List Int) : (riseL L).Pairwise (· < ·) := cpL_ss (sortI_up L)
theorem ssL_eq : ∀ (A B : List Int), A.Pairwise (· < ·) → B.Pairwise (· < ·) → (∀ x, x ∈ A ↔ x ∈ B) → A = B
 | [], [], _, _, _ => rfl
 | [], b :: B, _, _, h => absurd ((h b).2 (by simp)) (by simp)
 | a :: A, [], _, _, h => absurd ((h a).1 (by simp)) (by simp)
 | a :: A, b :: B, hA, hB, h => by
  rw [List.pairwise_cons] at hA hB
  have e : a = b := by
   rcases List.mem_cons.1 ((h a).1 (by simp)) with q | q
   · exact q
   · rcases List.mem_cons.1 ((h b).2 (by simp)) with r | r
     · exact r.symm
     · have := hB.1 a q; have := hA.1 b r; omega
  subst e
  congr 1
  refine ssL_eq A B hA.2 hB.2 fun x => ⟨fun q => ?_, fun q => ?_⟩
  · rcases List.mem_cons.1 ((h x).1 (by simp [q])) with r | r
    · subst r; have := hA.1 x q; omega
    · exact r
  · rcases List.mem_cons.1 ((h x).2 (by simp [q])) with r | r
    · subst r; have := hB.1 x q; omega
    · exact r
theorem riseL_same {A B : List Int} (h : ∀ x, x ∈ A ↔ x ∈ B) : riseL A = riseL B := ssL_eq _ _ (riseL_ss A) (riseL_ss B) fun x => by rw [riseL_iff, riseL_iff, h]
theorem riseE_same {A B : List EdT} (h : ∀ x, x ∈ A ↔ x ∈ B) : riseE A = riseE B := ss_eq _ _ (riseE_ss A) (riseE_ss B) fun x => by rw [riseE_iff, riseE_iff, h]
theorem riseL_idem (L : List Int) : riseL (riseL L) = riseL L := riseL_same fun x => riseL_iff L x
theorem riseE_idem (L : List EdT) : riseE (riseE L) = riseE L := riseE_same fun x => riseE_iff L x
theorem may_of {n m : Int} {St Fi : List Int} {Ed : List EdT} (h1 : 0 ≤ n ∧ n ≤ 4096) (h2 : 0 ≤ m ∧ m ≤ 128) (h3 : Ed.length ≤ 65536) (h4 : ∀ x ∈ St, 0 ≤ x ∧ x < n) (h5 : ∀ x ∈ Fi, 0 ≤ x ∧ x < n) (h6 : ∀ e ∈ Ed, (0 ≤ e.1 ∧ e.1 < n) ∧ (0 ≤ e.2.1 ∧ e.2.1 < m) ∧ 0 ≤ e.2.2 ∧ e.2.2 < n) : mayA n m St Fi Ed = true := by
 unfold mayA
 simp only [Bool.and_eq_true, List.all_eq_true, decide_eq_true_eq]
 refine ⟨⟨⟨⟨⟨inB_iff.2 (by omega), inB_iff.2 (by omega)⟩, h3⟩, fun x hx => inB_iff.2 (h4 x hx)⟩, fun x hx => inB_iff.2 (h5 x hx)⟩, fun e he => ?_⟩
 obtain ⟨q1, q2, q3⟩ := h6 e he
 unfold edOk
 rw [inB_iff.2 q1, inB_iff.2 q2, inB_iff.2 q3]
 rfl
theorem may_st {n m : Int} {St Fi : List Int} {Ed : List EdT} (h : mayA n m St Fi Ed = true) : (∀ x ∈ St, 0 ≤ x ∧ x < n) ∧ (∀ x ∈ Fi, 0 ≤ x ∧ x < n) := by
 obtain ⟨_, _, _, h4, h5, _⟩ := may_parts h
 exact ⟨fun x hx => inB_iff.1 (List.all_eq_true.1 h4 x hx), fun x hx => inB_iff.1 (List.all_eq_true.1 h5 x hx)⟩
def Tak (St Fi : List Int) (Ed : List EdT) (Wd : List Int) : Prop := ∃ p, p ∈ St ∧ ∃ q, q ∈ Fi ∧ Rch Ed Wd p q
open Classical in
theorem wordErr_iff {n m : Int} {St Fi : List Int} {Ed : List EdT} {Wd : List Int} : wordErr n m St Fi Ed Wd = 0 ↔ mayA n m St Fi Ed = true ∧ Wd.all (inB m) = true :=
 ⟨wordErr_zero, fun ⟨h1, h2⟩ => by unfold wordErr; rw [if_pos h1, if_pos h2]⟩
open Classical in
theorem rch_same {E E' : List EdT} (h : ∀ e, e ∈ E ↔ e ∈ E') : ∀ (W : List Int) (p q : Int), Rch E W p q ↔ Rch E' W p q
 | [], _, _ => Iff.rfl
 | y :: W, p, q => by
  constructor
  · rintro ⟨r, h1, h2⟩; exact ⟨r, (h _).1 h1, (rch_same h W r q).1 h2⟩
  · rintro ⟨r, h1, h2⟩; exact ⟨r, (h _).2 h1, (rch_same h W r q).2 h2⟩
theorem rch_app {E : List EdT} : ∀ (A B : List Int) (p q : Int), Rch E (A ++ B) p q ↔ ∃ r, Rch E A p r ∧ Rch E B r q
 | [], B, p, q => ⟨fun h => ⟨p, rfl, h⟩, fun ⟨r, h1, h2⟩ => by cases h1; exact h2⟩
 | y :: A, B, p, q => by
  constructor
  · rintro ⟨r, h1, h2⟩
    obtain ⟨s, h3, h4⟩ := (rch_app A B r q).1 h2
    exact ⟨s, ⟨r, h1, h3⟩, h4⟩
  · rintro ⟨s, ⟨r, h1, h3⟩, h4⟩
    exact ⟨r, h1, (rch_app A B r q).2 ⟨s, h3, h4⟩⟩
theorem may_rise {n m : Int} {St Fi : List Int} {Ed : List EdT} (h : mayA n m St Fi Ed = true) : mayA n m (riseL St) (riseL Fi) (riseE Ed) = true := by
 obtain ⟨h1, h2, h3, _, _, h6⟩ := may_parts h
 obtain ⟨h4, h5⟩ := may_st h
 exact may_of h1 h2 (Nat.le_trans (riseE_len Ed) h3) (fun x hx => h4 x ((riseL_iff St x).1 hx)) (fun x hx => h5 x ((riseL_iff Fi x).1 hx)) (fun e he => h6 e ((riseE_iff Ed e).1 he))
def shL (k : Int) (L : List Int) : List Int := L.map (· + k)
def shE (k : Int) (e : EdT) : EdT := (e.1 + k, e.2.1, e.2.2 + k)
def shEs (k : Int) (L : List EdT) : List EdT := L.map (shE k)
theorem mem_shEs {k : Int} {e : EdT} {L : List EdT} : e ∈ shEs k L ↔ (e.1 - k, e.2.1, e.2.2 - k) ∈ L := by
 unfold shEs
 constructor
 · intro h
   obtain ⟨y, hy, rfl⟩ := List.mem_map.1 h
   simp only [shE]
   rw [show y.1 + k - k = y.1 by omega, show y.2.2 + k - k = y.2.2 by omega]; exact hy
 · intro h
   refine List.mem_map.2 ⟨_, h, ?_⟩
   obtain ⟨x, y, z⟩ := e
   simp only [shE, Prod.mk.injEq]
   exact ⟨by omega, trivial, by omega⟩
theorem rch_high {k : Int} {A B : List EdT} (hA : ∀ e ∈ A, e.1 < k) (hB : ∀ e ∈ B, 0 ≤ e.2.2) : ∀ (W : List Int) (p q : Int), k ≤ p → (Rch (A ++ shEs k B) W p q ↔ Rch B W (p - k) (q - k))
 | [], p, q, _ => ⟨fun h => by cases h; exact rfl, fun h => by have h : p - k = q - k := h; show p = q; omega⟩
 | y :: W, p, q, hp => by
  constructor
  · rintro ⟨r, h1, h2⟩
    rcases List.mem_append.1 h1 with h1 | h1
    · have := hA _ h1
      simp only at this
      omega
    · have h3 := mem_shEs.1 h1
      simp only at h3
      have := hB _ h3
      simp only at this
      exact ⟨r - k, h3, (rch_high hA hB W r q (by omega)).1 h2⟩
  · rintro ⟨r, h1, h2⟩
    have := hB _ h1
    simp only at this
    refine ⟨r + k, List.mem_append.2 (Or.inr (mem_shEs.2 ?_)), (rch_high hA hB W (r + k) q (by omega)).2 ?_⟩
    · simp only
      rw [show r + k - k = r by omega]; exact h1
    · rw [show r + k - k = r by omega]; exact h2
end Go.Proofs.YtchoopnjckcohaaGreatDoor
namespace Go.Proofs.YtchoopnjckcohaaGreatDoor
open Go.RowKit Go.Maps Go.Shelf
attribute [local go_sem] Oper.semAt_some
theorem rd_own {W : World} {B n : Nat} {v : Value} {X : List Int} (h : W.ownsRow B 3 1 v n (X.map (Value.int .i64))) : ∃ ao c, v = .slice ao X.length c ∧ RdN W ao X := by
 have hn : n = X.length := by have := h.1; simpa using this.symm
 subst hn
 rcases h.2 with ⟨hv, h0⟩ | ⟨g, cap, cur, hv, _⟩
 · exact ⟨none, 0, by rw [hv, h0], fun j hj => by omega⟩
 · subst hv
   exact ⟨some ⟨g, 0, none⟩, cap, rfl, rdN_own h (List.prefix_refl X)⟩
def mixG {α : Type} (f : α → α) (L : List α) (i : Nat) : List α := (L.take i).map f ++ L.drop i
theorem mixG_len {α : Type} (f : α → α) (L : List α) (i : Nat) : (mixG f L i).length = L.length := by simp [mixG]; omega
theorem mixG_zero {α : Type} (f : α → α) (L : List α) : mixG f L 0 = L := by simp [mixG]
theorem mixG_full {α : Type} (f : α → α) (L : List α) : mixG f L L.length = L.map f := by simp [mixG]
theorem mixG_get {α : Type} (f : α → α) (L : List α) (i : Nat) (h : i < L.length) : (mixG f L i)[i]? = some L[i] := by
 unfold mixG
 rw [List.getElem?_append_right (by simp; omega)]
 simp [List.length_take, Nat.min_eq_left (Nat.le_of_lt h)]
theorem mixG_set {α : Type} (f : α → α) (L : List α) (i : Nat) (h : i < L.length) : (mixG f L i).set i (f L[i]) = mixG f L (i + 1) := by
 unfold mixG
 have hl : ((L.take i).map f).length = i := by simp; omega
 rw [List.drop_eq_getElem_cons h, List.set_append_right _ _ (by omega), hl, Nat.sub_self, List.set_cons_zero, ← List.take_append_getElem h, List.map_append, List.append_assoc]
 rfl
theorem row1_set {W : World} {B b n cap : Nat} {e : TypeId} {xs : List Value} (h : W.ownsRow B e 1 (.slice (some ⟨b, 0, none⟩) n cap) n xs) (j : Nat) (u : Value) :
 (W.setCell ⟨b, j, none⟩ u).ownsRow B e 1 (.slice (some ⟨b, 0, none⟩) n cap) n (xs.set j u) := by
 refine ⟨by rw [List.length_set]; exact h.1, ?_⟩
 rcases h.2 with ⟨z, _⟩ | ⟨g, cap', cur, e1, hb, hg, hn, hc, hs, ht⟩
 · cases z
 · cases e1
   refine .inr ⟨b, cap, _, rfl, hb, heap_setCell_same _ _ _ _ e _ hg, hn, hc, by simpa using hs, ?_⟩
   rw [← ht, Array.toList_setIfInBounds, List.take_set]
theorem flatE_len (X : List EdT) : (X.flatMap encE).length = X.length * 3 := by
 induction X with
 | nil => rfl
 | cons x X ih => rw [List.flatMap_cons, List.length_append, ih, encE_len, List.length_cons]; omega
theorem flatE_at (X : List EdT) (t : Nat) (h : t / 3 < X.length) : (X.flatMap encE)[t]? = (encE X[t / 3])[t % 3]? := by
 have := flat_get encE 3 encE_len X (t / 3) (t % 3) h (by omega)
 rwa [show t / 3 * 3 + t % 3 = t by omega] at this
theorem flatE_none (X : List EdT) (t : Nat) (h : ¬ t / 3 < X.length) : (X.flatMap encE)[t]? = none := List.getElem?_eq_none (by rw [flatE_len]; omega)
theorem rowE_set {W : World} {B b cap : Nat} {X : List EdT} (h : W.ownsRow B 61 3 (.slice (some ⟨b, 0, none⟩) X.length cap) X.length (X.flatMap encE)) (j : Nat) (x : EdT) (hj : j < X.length) :
 (((W.setCell ⟨b, j * 3, none⟩ (.int .i64 x.1)).setCell ⟨b, j * 3 + 1, none⟩ (.int .i64 x.2.1)).setCell ⟨b, j * 3 + 2, none⟩ (.int .i64 x.2.2)).ownsRow B 61 3 (.slice (some ⟨b, 0, none⟩) (X.set j x).length cap) (X.set j x).length ((X.set j x).flatMap encE) := by
 refine ⟨by rw [flatE_len], ?_⟩
 rcases h.2 with ⟨z, _⟩ | ⟨g, cap', cur, e, hb, hg, hn, hc, hs, ht⟩
 · cases z
 · cases e
   refine .inr ⟨b, cap, _, rfl, hb, heap_setCell_same _ _ _ _ 61 _ (heap_setCell_same _ _ _ _ 61 _ (heap_setCell_same _ _ _ _ 61 _ hg)), by rw [List.length_set]; exact hn, hc, by simpa using hs, ?_⟩
   rw [List.length_set]
   apply List.ext_getElem?
   intro t
   have hcz : X.length * 3 ≤ cur.size := by rw [hs]; exact Nat.mul_le_mul_right 3 hn
   by_cases hq : t / 3 < X.length
   · have htl : t < X.length * 3 := by omega
     rw [List.getElem?_take_of_lt htl, flatE_at _ t (by rw [List.length_set]; exact hq), List.getElem_set, Array.getElem?_toList]
     simp only [Array.getElem?_setIfInBounds, Array.size_setIfInBounds]
     by_cases hjq : j = t / 3
     · rw [if_pos hjq]
       have : t = j * 3 ∨ t = j * 3 + 1 ∨ t = j * 3 + 2 := by omega
       rcases this with rfl | rfl | rfl
       · rw [if_neg (by omega), if_neg (by omega), if_pos rfl, if_pos (by omega), show j * 3 % 3 = 0 by omega]; rfl
       · rw [if_neg (by omega), if_pos rfl, if_pos (by omega), show (j * 3 + 1) % 3 = 1 by omega]; rfl
       · rw [if_pos rfl, if_pos (by omega), show (j * 3 + 2) % 3 = 2 by omega]; rfl
     · rw [if_neg hjq, if_neg (by omega), if_neg (by omega), if_neg (by omega), ← flatE_at X t hq, ← ht, List.getElem?_take_of_lt htl, Array.getElem?_toList]
   · rw [flatE_none _ t (by rw [List.length_set]; exact hq), List.getElem?_take_eq_none (by omega)]
theorem own_fz {W : World} {B g c n : Nat} {e : TypeId} {sz : Nat} {xs : List Value} (h : W.ownsRow B e sz (.slice (some ⟨g, 0, none⟩) n c) n xs) (j : Nat) : W.frozen? ⟨g, j, none⟩ = false := by
 rcases h.2 with ⟨z, _⟩ | ⟨g', cap', cur, e1, hb, hg, hn, hc, hs, ht⟩
 · cases z
 · cases e1
   exact fz_of hg
theorem own_get {W : World} {B g c n : Nat} {e : TypeId} {sz : Nat} {xs : List Value} (h : W.ownsRow B e sz (.slice (some ⟨g, 0, none⟩) n c) n xs) {j : Nat} {u : Value} (hu : xs[j]? = some u) : W.cell? ⟨g, j, none⟩ = some u := by
 have := h.cells (g := g) rfl j u hu
 rw [Addr.add_lit] at this
 simpa using this
theorem box3z (w : World) (A Z : Array Value) (O : Array Value) (t : TypeId) : Below w.heap.size w (((w.alloc (.cells A t)).alloc (.cells Z t)).alloc (.cells O t)) ∧ (((w.alloc (.cells A t)).alloc (.cells Z t)).alloc (.cells O t)).heap[w.heap.size]? = some (.cells A t (0, 0)) ∧ (((w.alloc (.cells A t)).alloc (.cells Z t)).alloc (.cells O t)).heap[w.heap.size + 1]? = some (.cells Z t (0, 0)) ∧ (((w.alloc (.cells A t)).alloc (.cells Z t)).alloc (.cells O t)).heap[w.heap.size + 1 + 1]? = some (.cells O t (0, 0)) ∧ (((w.alloc (.cells A t)).alloc (.cells Z t)).alloc (.cells O t)).heap.size = w.heap.size + 3 := by
 refine ⟨(((Below.refl _ _).alloc (Nat.le_refl _) _).alloc (by simp) _).alloc (by simp <;> omega) _, ?_, ?_, ?_, by simp⟩
 · exact (Below.heap_alloc _ _ _ (by simp <;> omega)).trans ((Below.heap_alloc _ _ _ (by simp)).trans (World.alloc_heap_new _ _))
 · have := World.alloc_heap_new (w.alloc (.cells A t)) (.cells Z t)
   rw [World.size_alloc] at this
   exact (Below.heap_alloc _ _ _ (by simp)).trans this
 · have := World.alloc_heap_new ((w.alloc (.cells A t)).alloc (.cells Z t)) (.cells O t)
   rw [World.size_alloc, World.size_alloc] at this
   exact this
theorem Only.cellK {w w' : World} {R : Nat → Prop} (h : Only w w' R) {b : Nat} {o : Obj} (hb : w.heap[b]? = some o) (hn : ¬ R b) : w'.heap[b]? = some o := (h.block b (Array.getElem?_eq_some_iff.1 hb).1 hn).trans hb
structure BeI (W0 : World) (B : Nat) (na : Int) (h1 c1 h2 c2 h3 c3 : Nat) (S F : List Int) (E : List EdT) (i j l : Nat) (W : World) : Prop where
 o : Only W0 W (fun k => k = h1 ∨ k = h2 ∨ k = h3)
 s : W.ownsRow B 3 1 (.slice (some ⟨h1, 0, none⟩) S.length c1) S.length ((mixG (· + na) S i).map (Value.int .i64))
 f : W.ownsRow B 3 1 (.slice (some ⟨h2, 0, none⟩) F.length c2) F.length ((mixG (· + na) F j).map (Value.int .i64))
 e : W.ownsRow B 61 3 (.slice (some ⟨h3, 0, none⟩) E.length c3) E.length ((mixG (shE na) E l).flatMap encE)
 n12 : h1 ≠ h2
 n13 : h1 ≠ h3
 n23 : h2 ≠ h3
section
variable {W0 W : World} {B : Nat} {na : Int} {h1 c1 h2 c2 h3 c3 : Nat} {S F : List Int} {E : List EdT} {i j l : Nat}
theorem BeI.getS (h : BeI W0 B na h1 c1 h2 c2 h3 c3 S F E i j l W) (hi : i < S.length) : W.cell? ⟨h1, i, none⟩ = some (.int .i64 S[i]) := own_get h.s (by rw [List.getElem?_map, mixG_get _ _ _ hi]; rfl)
theorem BeI.getF (h : BeI W0 B na h1 c1 h2 c2 h3 c3 S F E i j l W) (hi : j < F.length) : W.cell? ⟨h2, j, none⟩ = some (.int .i64 F[j]) := own_get h.f (by rw [List.getElem?_map, mixG_get _ _ _ hi]; rfl)
theorem BeI.getE (h : BeI W0 B na h1 c1 h2 c2 h3 c3 S F E i j l W) (hi : l < E.length) : W.cell? ⟨h3, l * 3, none⟩ = some (.int .i64 E[l].1) ∧ W.cell? ⟨h3, l * 3 + 1, none⟩ = some (.int .i64 E[l].2.1) ∧ W.cell? ⟨h3, l * 3 + 2, none⟩ = some (.int .i64 E[l].2.2) := by
 have hr := h.e
 have hl := mixG_len (shE na) E l
 rw [← hl] at hr
 have q := rdE_cells hr l (by rw [hl]; exact hi)
 have e : (mixG (shE na) E l)[l]'(by rw [hl]; exact hi) = E[l] := by
  have := mixG_get (shE na) E l hi
  rw [List.getElem?_eq_getElem (by rw [hl]; exact hi)] at this
  exact Option.some.inj this
 rw [e] at q
 exact q
theorem BeI.putS (h : BeI W0 B na h1 c1 h2 c2 h3 c3 S F E i j l W) (hi : i < S.length) : BeI W0 B na h1 c1 h2 c2 h3 c3 S F E (i + 1) j l (W.setCell ⟨h1, i, none⟩ (.int .i64 (S[i] + na))) := by
 refine ⟨h.o.trans ((only_set W h1 i _).mono fun k _ hk => Or.inl hk), ?_, own_only h.f (only_set W h1 i _) h.n12.symm, own_only h.e (only_set W h1 i _) h.n13.symm, h.n12, h.n13, h.n23⟩
 have q := row1_set h.s i (.int .i64 (S[i] + na))
 rwa [← List.map_set, mixG_set (· + na) S i hi] at q
theorem BeI.putF (h : BeI W0 B na h1 c1 h2 c2 h3 c3 S F E i j l W) (hi : j < F.length) : BeI W0 B na h1 c1 h2 c2 h3 c3 S F E i (j + 1) l (W.setCell ⟨h2, j, none⟩ (.int .i64 (F[j] + na))) := by
 refine ⟨h.o.trans ((only_set W h2 j _).mono fun k _ hk => Or.inr (Or.inl hk)), own_only h.s (only_set W h2 j _) h.n12, ?_, own_only h.e (only_set W h2 j _) h.n23.symm, h.n12, h.n13, h.n23⟩
 have q := row1_set h.f j (.int .i64 (F[j] + na))
 rwa [← List.map_set, mixG_set (· + na) F j hi] at q
theorem BeI.putE (h : BeI W0 B na h1 c1 h2 c2 h3 c3 S F E i j l W) (hi : l < E.length) : BeI W0 B na h1 c1 h2 c2 h3 c3 S F E i j (l + 1) (((W.setCell ⟨h3, l * 3, none⟩ (.int .i64 (E[l].1 + na))).setCell ⟨h3, l * 3 + 1, none⟩ (.int .i64 E[l].2.1)).setCell ⟨h3, l * 3 + 2, none⟩ (.int .i64 (E[l].2.2 + na))) := by
 have o3 := only3 W h3 (l * 3) (l * 3 + 1) (l * 3 + 2) (.int .i64 (E[l].1 + na)) (.int .i64 E[l].2.1) (.int .i64 (E[l].2.2 + na))
 refine ⟨h.o.trans (o3.mono fun k _ hk => Or.inr (Or.inr hk)), own_only h.s o3 h.n13, own_only h.f o3 h.n23, ?_, h.n12, h.n13, h.n23⟩
 have hr := h.e
 have hl := mixG_len (shE na) E l
 rw [← hl] at hr
 have q := rowE_set hr l (shE na E[l]) (by rw [hl]; exact hi)
 rw [mixG_set (shE na) E l hi, mixG_len] at q
 exact q
theorem BeI.alloc (h : BeI W0 B na h1 c1 h2 c2 h3 c3 S F E i j l W) (o : Obj) : BeI W0 B na h1 c1 h2 c2 h3 c3 S F E i j l (W.alloc o) :=
 ⟨h.o.trans (Only.ofBelow ((Below.refl _ _).alloc (Nat.le_refl _) _)), h.s.alloc o, h.f.alloc o, h.e.alloc o, h.n12, h.n13, h.n23⟩
end
theorem grown_row {W W' : World} {B g c n q : Nat} {e : TypeId} {sz : Nat} {xs : List Value} (h : W.ownsRow B e sz (.slice (some ⟨g, 0, none⟩) n c) n xs) (hg : W.grownBy W' (some q)) (hne : g ≠ q) : W'.ownsRow B e sz (.slice (some ⟨g, 0, none⟩) n c) n xs :=
 h.kept hg (Or.inr (by simp [Value.ownBlock]; exact hne))
theorem grown_blk {W W' : World} {b q : Nat} {o : Obj} (h : W.heap[b]? = some o) (hg : W.grownBy W' (some q)) (hne : b ≠ q) : W'.heap[b]? = some o :=
 (hg.block b (Array.getElem?_eq_some_iff.1 h).1 (by simp; exact hne)).trans h
theorem own_form {W : World} {B : Nat} {e : TypeId} {sz n : Nat} {v : Value} {xs : List Value} (h : W.ownsRow B e sz v n xs) (hv : v ≠ .slice none 0 0) : ∃ g c, v = .slice (some ⟨g, 0, none⟩) n c := by
 rcases h.2 with ⟨z, _⟩ | ⟨g, cap', cur, e1, _⟩
 · exact absurd z hv
 · exact ⟨g, cap', e1⟩
structure BeF (w : World) (B : Nat) (W : World) (v0 v1 v2 v3 v4 : Value) (bb : Array Value) : Prop where
 a : W.heap[w.heap.size]? = some (.cells #[v0, v1, v2, v3, v4] 25 (0, 0))
 b : W.heap[w.heap.size + 1]? = some (.cells bb 25 (0, 0))
 z : W.heap[w.heap.size + 1 + 1]? = some (.cells #[.int .i64 0, .int .i64 0, .slice none 0 0, .slice none 0 0, .slice none 0 0] 25 (0, 0))
 d : Below B w W
 le : w.heap.size + 3 ≤ W.heap.size
section
variable {w W W' : World} {B : Nat} {v0 v1 v2 v3 v4 : Value} {bb : Array Value}
theorem BeF.only (h : BeF w B W v0 v1 v2 v3 v4 bb) (i : Nat) (u : Value) (hB : B ≤ w.heap.size) : (W.setCell ⟨w.heap.size, i, none⟩ u).heap[w.heap.size + 1]? = some (.cells bb 25 (0, 0)) ∧ (W.setCell ⟨w.heap.size, i, none⟩ u).heap[w.heap.size + 1 + 1]? = some (.cells #[.int .i64 0, .int .i64 0, .slice none 0 0, .slice none 0 0, .slice none 0 0] 25 (0, 0)) ∧ Below B w (W.setCell ⟨w.heap.size, i, none⟩ u) ∧ w.heap.size + 3 ≤ (W.setCell ⟨w.heap.size, i, none⟩ u).heap.size := by
 have o := only_set W w.heap.size i u
 exact ⟨o.cellK h.b (by omega), o.cellK h.z (by omega), h.d.trans (o.toBelow (Nat.le_trans hB h.d.size) (fun k hk => by omega)), Nat.le_trans h.le o.size⟩
theorem BeF.set0 (h : BeF w B W v0 v1 v2 v3 v4 bb) (u : Value) (hB : B ≤ w.heap.size) : BeF w B (W.setCell ⟨w.heap.size, 0, none⟩ u) u v1 v2 v3 v4 bb := by
 have q := h.only 0 u hB
 exact ⟨heap_setCell_same _ _ 0 _ 25 _ h.a, q.1, q.2.1, q.2.2.1, q.2.2.2⟩
theorem BeF.set2 (h : BeF w B W v0 v1 v2 v3 v4 bb) (u : Value) (hB : B ≤ w.heap.size) : BeF w B (W.setCell ⟨w.heap.size, 2, none⟩ u) v0 v1 u v3 v4 bb := by
 have q := h.only 2 u hB
 exact ⟨heap_setCell_same _ _ 2 _ 25 _ h.a, q.1, q.2.1, q.2.2.1, q.2.2.2⟩
theorem BeF.set3 (h : BeF w B W v0 v1 v2 v3 v4 bb) (u : Value) (hB : B ≤ w.heap.size) : BeF w B (W.setCell ⟨w.heap.size, 3, none⟩ u) v0 v1 v2 u v4 bb := by
 have q := h.only 3 u hB
 exact ⟨heap_setCell_same _ _ 3 _ 25 _ h.a, q.1, q.2.1, q.2.2.1, q.2.2.2⟩
theorem BeF.set4 (h : BeF w B W v0 v1 v2 v3 v4 bb) (u : Value) (hB : B ≤ w.heap.size) : BeF w B (W.setCell ⟨w.heap.size, 4, none⟩ u) v0 v1 v2 v3 u bb := by
 have q := h.only 4 u hB
 exact ⟨heap_setCell_same _ _ 4 _ 25 _ h.a, q.1, q.2.1, q.2.2.1, q.2.2.2⟩
theorem BeF.grown (h : BeF w B W v0 v1 v2 v3 v4 bb) {q : Nat} (hg : W.grownBy W' (some q)) (hq : B ≤ q ∧ q < w.heap.size) : BeF w B W' v0 v1 v2 v3 v4 bb :=
 ⟨grown_blk h.a hg (by omega), grown_blk h.b hg (by omega), grown_blk h.z hg (by omega), h.d.grown hg (Nat.le_trans (Nat.le_trans hq.1 (Nat.le_of_lt hq.2)) h.d.size) (fun k hk => by cases hk; exact hq.1), Nat.le_trans h.le hg.size⟩
end
theorem beside_any (w : World) (B C : Nat) (na nb m mb : Int) (g1 k1 g2 k2 g3 k3 h1 c1 h2 c2 h3 c3 : Nat) (S F S' F' : List Int) (E E' : List EdT) (hA : Hid (Own B w g1 k1 g2 k2 g3 k3 S F E)) (hB : Hid (Own B w h1 c1 h2 c2 h3 c3 S' F' E')) (hC : Hid (g1 < C ∧ g2 < C ∧ g3 < C ∧ C ≤ h1 ∧ C ≤ h2 ∧ C ≤ h3)) (hBw : B ≤ w.heap.size) (hn : 0 ≤ na ∧ na ≤ 4096) (hnb : 0 ≤ nb ∧ nb ≤ 4096) (hS : Hid (∀ x ∈ S', 0 ≤ x ∧ x < 4096)) (hF : Hid (∀ x ∈ F', 0 ≤ x ∧ x < 4096)) (hE : Hid (∀ e ∈ E', (0 ≤ e.1 ∧ e.1 < 4096) ∧ 0 ≤ e.2.2 ∧ e.2.2 < 4096)) (l1 : S.length ≤ 4194304) (l2 : F.length ≤ 4194304) (l3 : E.length ≤ 4194304) (l4 : S'.length ≤ 4194304) (l5 : F'.length ≤ 4194304) (l6 : E'.length ≤ 4194304) :
 Calls Tryz.prog 97 #[.agg #[.int .i64 na, .int .i64 m, .slice (some ⟨g1, 0, none⟩) S.length k1, .slice (some ⟨g2, 0, none⟩) F.length k2, .slice (some ⟨g3, 0, none⟩) E.length k3], .agg #[.int .i64 nb, .int .i64 mb, .slice (some ⟨h1, 0, none⟩) S'.length c1, .slice (some ⟨h2, 0, none⟩) F'.length c2, .slice (some ⟨h3, 0, none⟩) E'.length c3]] w fun e w' => ∃ r1 q1 r2 q2 r3 q3, e = .returned (.agg #[.int .i64 (na + nb), .int .i64 m, .slice (some ⟨r1, 0, none⟩) (S ++ shL na S').length q1, .slice (some ⟨r2, 0, none⟩) (F ++ shL na F').length q2, .slice (some ⟨r3, 0, none⟩) (E ++ shEs na E').length q3]) ∧ Own B w' r1 q1 r2 q2 r3 q3 (S ++ shL na S') (F ++ shL na F') (E ++ shEs na E') ∧ Below B w w' := by
 obtain ⟨i3, hi3, hz30, hz31, hz32⟩ := info_parts info3
 obtain ⟨i5, hi5, hz50, hz51, hz52⟩ := info_parts info59
 obtain ⟨W0, hW0⟩ : ∃ W0, ((w.alloc (.cells #[.int .i64 na, .int .i64 m, .slice (some ⟨g1, 0, none⟩) S.length k1, .slice (some ⟨g2, 0, none⟩) F.length k2, .slice (some ⟨g3, 0, none⟩) E.length k3] 25)).alloc (.cells #[.int .i64 nb, .int .i64 mb, .slice (some ⟨h1, 0, none⟩) S'.length c1, .slice (some ⟨h2, 0, none⟩) F'.length c2, .slice (some ⟨h3, 0, none⟩) E'.length c3] 25)).alloc (.cells #[.int .i64 0, .int .i64 0, .slice none 0 0, .slice none 0 0, .slice none 0 0] 25) = W0 := ⟨_, rfl⟩
 have HD := hide (box3z w #[.int .i64 na, .int .i64 m, .slice (some ⟨g1, 0, none⟩) S.length k1, .slice (some ⟨g2, 0, none⟩) F.length k2, .slice (some ⟨g3, 0, none⟩) E.length k3] #[.int .i64 nb, .int .i64 mb, .slice (some ⟨h1, 0, none⟩) S'.length c1, .slice (some ⟨h2, 0, none⟩) F'.length c2, .slice (some ⟨h3, 0, none⟩) E'.length c3] #[.int .i64 0, .int .i64 0, .slice none 0 0, .slice none 0 0, .slice none 0 0] 25)
 rw [hW0] at HD
 have HP : Hid ((g1 < w.heap.size ∧ g2 < w.heap.size ∧ g3 < w.heap.size) ∧ (h1 < w.heap.size ∧ h2 < w.heap.size ∧ h3 < w.heap.size) ∧ B ≤ g1 ∧ B ≤ g2 ∧ B ≤ g3 ∧ B ≤ h1 ∧ B ≤ h2 ∧ B ≤ h3) := hide ⟨⟨(own_at hA.out.s).2, (own_at hA.out.f).2, (own_at hA.out.e).2⟩, ⟨(own_at hB.out.s).2, (own_at hB.out.f).2, (own_at hB.out.e).2⟩, (own_at hA.out.s).1, (own_at hA.out.f).1, (own_at hA.out.e).1, (own_at hB.out.s).1, (own_at hB.out.f).1, (own_at hB.out.e).1⟩
 have H0 : Hid (BeI W0 B na h1 c1 h2 c2 h3 c3 S' F' E' 0 0 0 W0) := hide ⟨Only.ofBelow (Below.refl _ _), by rw [mixG_zero]; exact own_on hB.out.s HD.out.1 HP.out.2.1.1, by rw [mixG_zero]; exact own_on hB.out.f HD.out.1 HP.out.2.1.2.1, by rw [mixG_zero]; exact own_on hB.out.e HD.out.1 HP.out.2.1.2.2, hB.out.n12, hB.out.n13, hB.out.n23⟩
 have BK : Hid (∀ (W : World) (i j l : Nat), BeI W0 B na h1 c1 h2 c2 h3 c3 S' F' E' i j l W → W.heap[w.heap.size]? = some (.cells #[.int .i64 na, .int .i64 m, .slice (some ⟨g1, 0, none⟩) S.length k1, .slice (some ⟨g2, 0, none⟩) F.length k2, .slice (some ⟨g3, 0, none⟩) E.length k3] 25 (0, 0)) ∧ W.heap[w.heap.size + 1]? = some (.cells #[.int .i64 nb, .int .i64 mb, .slice (some ⟨h1, 0, none⟩) S'.length c1, .slice (some ⟨h2, 0, none⟩) F'.length c2, .slice (some ⟨h3, 0, none⟩) E'.length c3] 25 (0, 0)) ∧ W.heap[w.heap.size + 1 + 1]? = some (.cells #[.int .i64 0, .int .i64 0, .slice none 0 0, .slice none 0 0, .slice none 0 0] 25 (0, 0))) := hide (fun W i j l h => by
  have hp := HP.out
  refine ⟨h.o.cellK HD.out.2.1 ?_, h.o.cellK HD.out.2.2.1 ?_, h.o.cellK HD.out.2.2.2.1 ?_⟩ <;> omega)
 have CK : Hid (∀ (W : World) (i j l : Nat), BeI W0 B na h1 c1 h2 c2 h3 c3 S' F' E' i j l W → W.cell? ⟨w.heap.size, 0, none⟩ = some (.int .i64 na) ∧ W.cell? ⟨w.heap.size + 1, 2, none⟩ = some (.slice (some ⟨h1, 0, none⟩) S'.length c1) ∧ W.cell? ⟨w.heap.size + 1, 3, none⟩ = some (.slice (some ⟨h2, 0, none⟩) F'.length c2) ∧ W.cell? ⟨w.heap.size + 1, 4, none⟩ = some (.slice (some ⟨h3, 0, none⟩) E'.length c3)) := hide (fun W i j l h => by
  have q := BK.out W i j l h
  exact ⟨cell_of q.1 rfl, cell_of q.2.1 rfl, cell_of q.2.1 rfl, cell_of q.2.1 rfl⟩)
 obtain ⟨y0, y1, y2, y3⟩ := CK.out W0 0 0 0 H0.out
 go_enter Tryz.func97, Tryz.ntmps97
 go_wp2
 clear y0 y1 y2 y3
 go_loopw [14] (fun iv wr => ∃ i : Nat, i ≤ S'.length ∧ iv = .int .i64 i ∧ Hid (BeI W0 B na h1 c1 h2 c2 h3 c3 S' F' E' i 0 0 wr)) (fun iv _ => S'.length - (intOf iv).toNat)
 case atStart => exact ⟨0, Nat.zero_le _, rfl, H0⟩
 case round =>
  obtain ⟨i, hi, rfl, HY⟩ := hrel
  clear H0
  obtain ⟨y0, y1, y2, y3⟩ := CK.out wr i 0 0 HY.out
  by_cases hil : i < S'.length
  · have i0 : (0 : Int) ≤ (i : Int) := by omega
    have i1 : (i : Int) < (S'.length : Int) := by omega
    have z := HY.out.getS hil
    have zf := own_fz HY.out.s i
    have HN := hide (HY.out.putS hil)
    have hb := hS.out _ (List.getElem_mem hil)
    generalize S'[i] = x at z HN hb
    have iw : IntKind.i64.wrap (x + na) = x + na := by rw [IntKind.wrap_i64]; omega
    go_wp2
    go_roundw
    case rel => exact ⟨i + 1, by omega, by go_num, HN⟩
    case measure => simp [intOf]; omega
  · obtain rfl : i = S'.length := by omega
    have i1 : ¬ (S'.length : Int) < (S'.length : Int) := by omega
    go_wp2
    clear y0 y1 y2 y3 i1 hi hil
    go_loopw [31] (fun iv wr => ∃ i : Nat, i ≤ F'.length ∧ iv = .int .i64 i ∧ Hid (BeI W0 B na h1 c1 h2 c2 h3 c3 S' F' E' S'.length i 0 wr)) (fun iv _ => F'.length - (intOf iv).toNat)
    case atStart => exact ⟨0, Nat.zero_le _, rfl, HY⟩
    case round =>
     obtain ⟨i, hi, rfl, HZ⟩ := hrel
     clear HY
     obtain ⟨y0, y1, y2, y3⟩ := CK.out _ S'.length i 0 HZ.out
     by_cases hil : i < F'.length
     · have i0 : (0 : Int) ≤ (i : Int) := by omega
       have i1 : (i : Int) < (F'.length : Int) := by omega
       have z := HZ.out.getF hil
       have zf := own_fz HZ.out.f i
       have HN := hide (HZ.out.putF hil)
       have hb := hF.out _ (List.getElem_mem hil)
       generalize F'[i] = x at z HN hb
       have iw : IntKind.i64.wrap (x + na) = x + na := by rw [IntKind.wrap_i64]; omega
       go_wp2
       go_roundw
       case rel => exact ⟨i + 1, by omega, by go_num, HN⟩
       case measure => simp [intOf]; omega
     · obtain rfl : i = F'.length := by omega
       have i1 : ¬ (F'.length : Int) < (F'.length : Int) := by omega
       go_wp2
       clear y0 y1 y2 y3 i1 hi hil
       go_loopw [48] (fun iv wr => ∃ i : Nat, i ≤ E'.length ∧ iv = .int .i64 i ∧ Hid (BeI W0 B na h1 c1 h2 c2 h3 c3 S' F' E' S'.length F'.length i wr)) (fun iv _ => E'.length - (intOf iv).toNat)
       case atStart => exact ⟨0, Nat.zero_le _, rfl, HZ⟩
       case round =>
        obtain ⟨i, hi, rfl, HV⟩ := hrel
        clear HZ
        rename World => wv
        by_cases hil : i < E'.length
        · have i0 : (0 : Int) ≤ (i : Int) := by omega
          have i1 : (i : Int) < (E'.length : Int) := by omega
          obtain ⟨z0, z1, z2⟩ := HV.out.getE hil
          have HE := hide (fun (o : Obj) => (HV.out.alloc o).putE hil)
          have HA := hide (fun (o : Obj) => HV.out.alloc o)
          have hb := hE.out _ (List.getElem_mem hil)
          generalize E'[i] = x at z0 z1 z2 HE hb
          obtain ⟨x1, x2, x3⟩ := x
          simp only at z0 z1 z2 HE hb
          have iw : IntKind.i64.wrap (x1 + na) = x1 + na := by rw [IntKind.wrap_i64]; omega
          have iv : IntKind.i64.wrap (x3 + na) = x3 + na := by rw [IntKind.wrap_i64]; omega
          obtain ⟨W1, hW1⟩ : ∃ W1, wv.alloc (.cells #[.int .i64 x1, .int .i64 x2, .int .i64 x3] 61) = W1 := ⟨_, rfl⟩
          have HW : Hid (W1.heap[wv.heap.size]? = some (.cells #[.int .i64 x1, .int .i64 x2, .int .i64 x3] 61 (0, 0))) := hide (by rw [← hW1]; exact World.alloc_heap_new _ _)
          have I1 : Hid (BeI W0 B na h1 c1 h2 c2 h3 c3 S' F' E' S'.length F'.length i W1) := hide (by rw [← hW1]; exact HA.out _)
          have HN := HE.out (.cells #[.int .i64 x1, .int .i64 x2, .int .i64 x3] 61)
          rw [hW1] at HN
          have HN := hide HN
          obtain ⟨y0, y1, y2, y3⟩ := CK.out W1 S'.length F'.length i I1.out
          obtain ⟨u0, u1, u2⟩ := zd3 HW.out rfl rfl rfl
          have t0 : W1.cell? ⟨h3, i * 3, none⟩ = some (.int .i64 x1) := by rw [← hW1]; exact (((Below.refl _ wv).alloc (Nat.le_refl _) _).cell (p := ⟨h3, i * 3, none⟩) (World.block_lt_of_cell? wv _ z0)).trans z0
          have t1 : W1.cell? ⟨h3, i * 3 + 1, none⟩ = some (.int .i64 x2) := by rw [← hW1]; exact (((Below.refl _ wv).alloc (Nat.le_refl _) _).cell (p := ⟨h3, i * 3 + 1, none⟩) (World.block_lt_of_cell? wv _ z1)).trans z1
          have t2 : W1.cell? ⟨h3, i * 3 + 2, none⟩ = some (.int .i64 x3) := by rw [← hW1]; exact (((Below.refl _ wv).alloc (Nat.le_refl _) _).cell (p := ⟨h3, i * 3 + 2, none⟩) (World.block_lt_of_cell? wv _ z2)).trans z2
          have f0 := own_fz I1.out.e (i * 3)
          have f1 := own_fz I1.out.e (i * 3 + 1)
          have f2 := own_fz I1.out.e (i * 3 + 2)
          clear HE HA
          go_wp2
          refine ⟨⟨i + 1, by omega, by go_num, HN⟩, by simp [intOf]; omega⟩
        · obtain rfl : i = E'.length := by omega
          have i1 : ¬ (E'.length : Int) < (E'.length : Int) := by omega
          have bq := BK.out wv _ _ _ HV.out
          have q0 : wv.cell? ⟨w.heap.size, 0, none⟩ = some (.int .i64 na) := cell_of bq.1 rfl
          have q1 : wv.cell? ⟨w.heap.size + 1, 0, none⟩ = some (.int .i64 nb) := cell_of bq.2.1 rfl
          have qf : wv.frozen? ⟨w.heap.size, 0, none⟩ = false := fz_of bq.1
          have iw : IntKind.i64.wrap (na + nb) = na + nb := by rw [IntKind.wrap_i64]; omega
          have F0 : Hid (BeF w B wv (.int .i64 na) (.int .i64 m) (.slice (some ⟨g1, 0, none⟩) S.length k1) (.slice (some ⟨g2, 0, none⟩) F.length k2) (.slice (some ⟨g3, 0, none⟩) E.length k3) #[.int .i64 nb, .int .i64 mb, .slice (some ⟨h1, 0, none⟩) S'.length c1, .slice (some ⟨h2, 0, none⟩) F'.length c2, .slice (some ⟨h3, 0, none⟩) E'.length c3]) := hide ⟨bq.1, bq.2.1, bq.2.2, (HD.out.1.mono hBw).trans (HV.out.o.toBelow (Nat.le_trans hBw HD.out.1.size) (fun k hk => by have hp := HP.out; omega)), by have := HV.out.o.size; have := HD.out.2.2.2.2; omega⟩
          have RA : Hid (wv.ownsRow B 3 1 (.slice (some ⟨g1, 0, none⟩) S.length k1) S.length (S.map (Value.int .i64)) ∧ wv.ownsRow B 3 1 (.slice (some ⟨g2, 0, none⟩) F.length k2) F.length (F.map (Value.int .i64)) ∧ wv.ownsRow B 61 3 (.slice (some ⟨g3, 0, none⟩) E.length k3) E.length (E.flatMap encE)) := hide (by
           have hp := HP.out
           have hc := hC.out
           refine ⟨row_only (own_on hA.out.s HD.out.1 hp.1.1) HV.out.o ?_, row_only (own_on hA.out.f HD.out.1 hp.1.2.1) HV.out.o ?_, row_only (own_on hA.out.e HD.out.1 hp.1.2.2) HV.out.o ?_⟩ <;> (intro k hk; cases hk; intro hk2; simp only at hk2; omega))
          have RB : Hid (wv.ownsRow B 3 1 (.slice (some ⟨h1, 0, none⟩) S'.length c1) S'.length ((shL na S').map (Value.int .i64)) ∧ wv.ownsRow B 3 1 (.slice (some ⟨h2, 0, none⟩) F'.length c2) F'.length ((shL na F').map (Value.int .i64)) ∧ wv.ownsRow B 61 3 (.slice (some ⟨h3, 0, none⟩) E'.length c3) E'.length ((shEs na E').flatMap encE)) := hide ⟨by have := HV.out.s; rw [mixG_full] at this; exact this, by have := HV.out.f; rw [mixG_full] at this; exact this, by have := HV.out.e; rw [mixG_full] at this; exact this⟩
          obtain ⟨X1, hX1⟩ : ∃ X1, wv.setCell ⟨w.heap.size, 0, none⟩ (.int .i64 (na + nb)) = X1 := ⟨_, rfl⟩
          have F1 := hide (F0.out.set0 (.int .i64 (na + nb)) hBw)
          have OX := only_set wv w.heap.size 0 (.int .i64 (na + nb))
          rw [hX1] at F1 OX
          have OX := hide OX
          have RA1 : Hid (X1.ownsRow B 3 1 (.slice (some ⟨g1, 0, none⟩) S.length k1) S.length (S.map (Value.int .i64)) ∧ X1.ownsRow B 3 1 (.slice (some ⟨g2, 0, none⟩) F.length k2) F.length (F.map (Value.int .i64)) ∧ X1.ownsRow B 61 3 (.slice (some ⟨g3, 0, none⟩) E.length k3) E.length (E.flatMap encE)) := hide (by
           have hp := HP.out
           exact ⟨own_only RA.out.1 OX.out (by omega), own_only RA.out.2.1 OX.out (by omega), own_only RA.out.2.2 OX.out (by omega)⟩)
          have RB1 : Hid (X1.ownsRow B 3 1 (.slice (some ⟨h1, 0, none⟩) S'.length c1) S'.length ((shL na S').map (Value.int .i64)) ∧ X1.ownsRow B 3 1 (.slice (some ⟨h2, 0, none⟩) F'.length c2) F'.length ((shL na F').map (Value.int .i64)) ∧ X1.ownsRow B 61 3 (.slice (some ⟨h3, 0, none⟩) E'.length c3) E'.length ((shEs na E').flatMap encE)) := hide (by
           have hp := HP.out
           exact ⟨own_only RB.out.1 OX.out (by omega), own_only RB.out.2.1 OX.out (by omega), own_only RB.out.2.2 OX.out (by omega)⟩)
          go_upto_region 17 with fail
          clear q0 q1 qf bq RA RB OX F0 HV iw i1 hi hil
          have y0 : X1.cell? ⟨w.heap.size, 2, none⟩ = some (.slice (some ⟨g1, 0, none⟩) S.length k1) := cell_of F1.out.a rfl
          have y1 : X1.cell? ⟨w.heap.size + 1, 2, none⟩ = some (.slice (some ⟨h1, 0, none⟩) S'.length c1) := cell_of F1.out.b rfl
          go_wp2_with (at_builtin; refine wpList_append_own_at _ rfl _ _ _ rfl B 3 i3 _ 1 8 Tryz.underlying22 hi3 hz30 hz31 hz32 rfl (by omega) (.slice (some ⟨g1, 0, none⟩) S.length k1) S.length (S.map (Value.int .i64)) rfl RA1.out.1 ⟨h1, 0, none⟩ S'.length c1 ((shL na S').map (Value.int .i64)) rfl (by simp [shL]) (rd_news (rdN_own RB1.out.1 (List.prefix_refl _))) (ints_one _) (by unfold maxLen; omega) (by omega) (Nat.le_trans hBw F1.out.d.size) ?_)
          intro v1 Y1 ho hgr hnil hloc
          obtain ⟨r1, q1, rfl⟩ := own_form ho hnil
          have L1 : Hid (r1 = g1 ∨ r1 = X1.heap.size) := hide (by simpa [Value.ownBlock] using hloc)
          have G1 : Hid (X1.grownBy Y1 (some g1)) := hide hgr
          have O1 : Hid (Y1.ownsRow B 3 1 (.slice (some ⟨r1, 0, none⟩) (S.length + S'.length) q1) (S.length + S'.length) ((S ++ shL na S').map (Value.int .i64))) := hide (by rw [List.map_append]; exact ho)
          clear ho hgr hnil hloc y0 y1
          have F2 := hide (F1.out.grown G1.out ⟨HP.out.2.2.1, HP.out.1.1⟩)
          have y0 : Y1.cell? ⟨w.heap.size, 2, none⟩ = some (.slice (some ⟨g1, 0, none⟩) S.length k1) := cell_of F2.out.a rfl
          have yf : Y1.frozen? ⟨w.heap.size, 2, none⟩ = false := fz_of F2.out.a
          obtain ⟨X2, hX2⟩ : ∃ X2, Y1.setCell ⟨w.heap.size, 2, none⟩ (.slice (some ⟨r1, 0, none⟩) (S.length + S'.length) q1) = X2 := ⟨_, rfl⟩
          have F3 := hide (F2.out.set2 (.slice (some ⟨r1, 0, none⟩) (S.length + S'.length) q1) hBw)
          have OX := only_set Y1 w.heap.size 2 (.slice (some ⟨r1, 0, none⟩) (S.length + S'.length) q1)
          rw [hX2] at F3 OX
          have OX := hide OX
          have RR2 : Hid ((r1 < Y1.heap.size ∧ r1 ≠ w.heap.size ∧ (r1 = g1 ∨ w.heap.size + 3 ≤ r1)) ∧ X2.ownsRow B 3 1 (.slice (some ⟨r1, 0, none⟩) (S.length + S'.length) q1) (S.length + S'.length) ((S ++ shL na S').map (Value.int .i64)) ∧ X2.ownsRow B 3 1 (.slice (some ⟨g2, 0, none⟩) F.length k2) F.length (F.map (Value.int .i64)) ∧ X2.ownsRow B 61 3 (.slice (some ⟨g3, 0, none⟩) E.length k3) E.length (E.flatMap encE) ∧ X2.ownsRow B 3 1 (.slice (some ⟨h2, 0, none⟩) F'.length c2) F'.length ((shL na F').map (Value.int .i64)) ∧ X2.ownsRow B 61 3 (.slice (some ⟨h3, 0, none⟩) E'.length c3) E'.length ((shEs na E').flatMap encE)) := hide (by
           have hp := HP.out
           have hc := hC.out
           have n12 := hA.out.n12
           have n13 := hA.out.n13
           have l1 := L1.out
           have le := F1.out.le
           have ra := own_at O1.out
           refine ⟨⟨ra.2, by omega, by omega⟩, own_only O1.out OX.out (by omega), own_only (grown_row RA1.out.2.1 G1.out n12.symm) OX.out (by omega), own_only (grown_row RA1.out.2.2 G1.out n13.symm) OX.out (by omega), own_only (grown_row RB1.out.2.1 G1.out (by omega)) OX.out (by omega), own_only (grown_row RB1.out.2.2 G1.out (by omega)) OX.out (by omega)⟩)
          have Z2 : Hid (Y1.heap.size ≤ X2.heap.size) := hide OX.out.size
          go_upto_region 18 with fail
          clear y0 yf OX F1 F2 RA1 RB1 O1 G1 hX2
          have y0 : X2.cell? ⟨w.heap.size, 3, none⟩ = some (.slice (some ⟨g2, 0, none⟩) F.length k2) := cell_of F3.out.a rfl
          have y1 : X2.cell? ⟨w.heap.size + 1, 3, none⟩ = some (.slice (some ⟨h2, 0, none⟩) F'.length c2) := cell_of F3.out.b rfl
          go_wp2_with (at_builtin; refine wpList_append_own_at _ rfl _ _ _ rfl B 3 i3 _ 1 8 Tryz.underlying22 hi3 hz30 hz31 hz32 rfl (by omega) (.slice (some ⟨g2, 0, none⟩) F.length k2) F.length (F.map (Value.int .i64)) rfl RR2.out.2.2.1 ⟨h2, 0, none⟩ F'.length c2 ((shL na F').map (Value.int .i64)) rfl (by simp [shL]) (rd_news (rdN_own RR2.out.2.2.2.2.1 (List.prefix_refl _))) (ints_one _) (by unfold maxLen; omega) (by omega) (Nat.le_trans hBw F3.out.d.size) ?_)
          intro v2 Y2 ho hgr hnil hloc
          obtain ⟨r2, q2, rfl⟩ := own_form ho hnil
          have L2 : Hid (r2 = g2 ∨ r2 = X2.heap.size) := hide (by simpa [Value.ownBlock] using hloc)
          have G2 : Hid (X2.grownBy Y2 (some g2)) := hide hgr
          have O2 : Hid (Y2.ownsRow B 3 1 (.slice (some ⟨r2, 0, none⟩) (F.length + F'.length) q2) (F.length + F'.length) ((F ++ shL na F').map (Value.int .i64))) := hide (by rw [List.map_append]; exact ho)
          clear ho hgr hnil hloc y0 y1
          have F4 := hide (F3.out.grown G2.out ⟨HP.out.2.2.2.1, HP.out.1.2.1⟩)
          have y0 : Y2.cell? ⟨w.heap.size, 3, none⟩ = some (.slice (some ⟨g2, 0, none⟩) F.length k2) := cell_of F4.out.a rfl
          have yf : Y2.frozen? ⟨w.heap.size, 3, none⟩ = false := fz_of F4.out.a
          obtain ⟨X3, hX3⟩ : ∃ X3, Y2.setCell ⟨w.heap.size, 3, none⟩ (.slice (some ⟨r2, 0, none⟩) (F.length + F'.length) q2) = X3 := ⟨_, rfl⟩
          have F5 := hide (F4.out.set3 (.slice (some ⟨r2, 0, none⟩) (F.length + F'.length) q2) hBw)
          have OX := only_set Y2 w.heap.size 3 (.slice (some ⟨r2, 0, none⟩) (F.length + F'.length) q2)
          rw [hX3] at F5 OX
          have OX := hide OX
          have RR3 : Hid ((r1 ≠ r2 ∧ r1 < Y2.heap.size ∧ r2 < Y2.heap.size ∧ r1 ≠ w.heap.size ∧ r2 ≠ w.heap.size ∧ (r1 = g1 ∨ w.heap.size + 3 ≤ r1) ∧ (r2 = g2 ∨ w.heap.size + 3 ≤ r2)) ∧ X3.ownsRow B 3 1 (.slice (some ⟨r1, 0, none⟩) (S.length + S'.length) q1) (S.length + S'.length) ((S ++ shL na S').map (Value.int .i64)) ∧ X3.ownsRow B 3 1 (.slice (some ⟨r2, 0, none⟩) (F.length + F'.length) q2) (F.length + F'.length) ((F ++ shL na F').map (Value.int .i64)) ∧ X3.ownsRow B 61 3 (.slice (some ⟨g3, 0, none⟩) E.length k3) E.length (E.flatMap encE) ∧ X3.ownsRow B 61 3 (.slice (some ⟨h3, 0, none⟩) E'.length c3) E'.length ((shEs na E').flatMap encE)) := hide (by
           have hp := HP.out
           have hc := hC.out
           have n12 := hA.out.n12
           have n23 := hA.out.n23
           have l2 := L2.out
           have le := F3.out.le
           have rb := RR2.out.1
           have ra := own_at O2.out
           have z2 := Z2.out
           have gs := G2.out.size
           refine ⟨⟨by omega, by omega, ra.2, by omega, by omega, by omega, by omega⟩, own_only (grown_row RR2.out.2.1 G2.out (by omega)) OX.out (by omega), own_only O2.out OX.out (by omega), own_only (grown_row RR2.out.2.2.2.1 G2.out n23.symm) OX.out (by omega), own_only (grown_row RR2.out.2.2.2.2.2 G2.out (by omega)) OX.out (by omega)⟩)
          have Z3 : Hid (Y2.heap.size ≤ X3.heap.size) := hide OX.out.size
          go_upto_region 19 with fail
          clear y0 yf OX F3 F4 RR2 O2 G2 hX3
          have y0 : X3.cell? ⟨w.heap.size, 4, none⟩ = some (.slice (some ⟨g3, 0, none⟩) E.length k3) := cell_of F5.out.a rfl
          have y1 : X3.cell? ⟨w.heap.size + 1, 4, none⟩ = some (.slice (some ⟨h3, 0, none⟩) E'.length c3) := cell_of F5.out.b rfl
          go_wp2_with (at_builtin; refine wpList_append_own_at _ rfl _ _ _ rfl B 61 i5 _ 3 24 Tryz.underlying23 hi5 hz50 hz51 hz52 rfl (by omega) (.slice (some ⟨g3, 0, none⟩) E.length k3) E.length (E.flatMap encE) rfl RR3.out.2.2.2.1 ⟨h3, 0, none⟩ E'.length c3 ((shEs na E').flatMap encE) rfl (by rw [flatE_len]; simp [shEs]) (by have q := RR3.out.2.2.2.2; rw [show E'.length = (shEs na E').length by simp [shEs]] at q; exact rdE_news (rdE_own q)) (encE_one _) (by unfold maxLen; omega) (by omega) (Nat.le_trans hBw F5.out.d.size) ?_)
          intro v3 Y3 ho hgr hnil hloc
          obtain ⟨r3, q3, rfl⟩ := own_form ho hnil
          have L3 : Hid (r3 = g3 ∨ r3 = X3.heap.size) := hide (by simpa [Value.ownBlock] using hloc)
          have G3 : Hid (X3.grownBy Y3 (some g3)) := hide hgr
          have O3 : Hid (Y3.ownsRow B 61 3 (.slice (some ⟨r3, 0, none⟩) (E.length + E'.length) q3) (E.length + E'.length) ((E ++ shEs na E').flatMap encE)) := hide (by rw [List.flatMap_append]; exact ho)
          clear ho hgr hnil hloc y0 y1
          have F6 := hide (F5.out.grown G3.out ⟨HP.out.2.2.2.2.1, HP.out.1.2.2⟩)
          have y0 : Y3.cell? ⟨w.heap.size, 4, none⟩ = some (.slice (some ⟨g3, 0, none⟩) E.length k3) := cell_of F6.out.a rfl
          have yf : Y3.frozen? ⟨w.heap.size, 4, none⟩ = false := fz_of F6.out.a
          obtain ⟨X4, hX4⟩ : ∃ X4, Y3.setCell ⟨w.heap.size, 4, none⟩ (.slice (some ⟨r3, 0, none⟩) (E.length + E'.length) q3) = X4 := ⟨_, rfl⟩
          have F7 := hide (F6.out.set4 (.slice (some ⟨r3, 0, none⟩) (E.length + E'.length) q3) hBw)
          have OX := only_set Y3 w.heap.size 4 (.slice (some ⟨r3, 0, none⟩) (E.length + E'.length) q3)
          rw [hX4] at F7 OX
          have OX := hide OX
          have RR4 : Hid ((r1 ≠ r2 ∧ r1 ≠ r3 ∧ r2 ≠ r3 ∧ (r1 < w.heap.size ∨ w.heap.size + 3 ≤ r1) ∧ (r2 < w.heap.size ∨ w.heap.size + 3 ≤ r2) ∧ (r3 < w.heap.size ∨ w.heap.size + 3 ≤ r3)) ∧ X4.ownsRow B 3 1 (.slice (some ⟨r1, 0, none⟩) (S.length + S'.length) q1) (S.length + S'.length) ((S ++ shL na S').map (Value.int .i64)) ∧ X4.ownsRow B 3 1 (.slice (some ⟨r2, 0, none⟩) (F.length + F'.length) q2) (F.length + F'.length) ((F ++ shL na F').map (Value.int .i64)) ∧ X4.ownsRow B 61 3 (.slice (some ⟨r3, 0, none⟩) (E.length + E'.length) q3) (E.length + E'.length) ((E ++ shEs na E').flatMap encE)) := hide (by
           have hp := HP.out
           have n13 := hA.out.n13
           have n23 := hA.out.n23
           have l3 := L3.out
           have le := F5.out.le
           have rb := RR3.out.1
           have z3 := Z3.out
           refine ⟨⟨rb.1, by omega, by omega, by omega, by omega, by omega⟩, own_only (grown_row RR3.out.2.1 G3.out (by omega)) OX.out (by omega), own_only (grown_row RR3.out.2.2.1 G3.out (by omega)) OX.out (by omega), own_only O3.out OX.out (by omega)⟩)
          go_upto_region 20 with fail
          clear y0 yf OX F5 F6 RR3 O3 G3 hX4
          obtain ⟨a0, a1, a2, a3, a4⟩ := zd5 F7.out.a rfl rfl rfl rfl rfl
          have F3 := F7.out.z
          obtain ⟨o0, o1, o2, o3, o4⟩ := zd5 F3 rfl rfl rfl rfl rfl
          have f0 : X4.frozen? ⟨w.heap.size + 1 + 1, 0, none⟩ = false := fz_of F3
          have f1 : X4.frozen? ⟨w.heap.size + 1 + 1, 1, none⟩ = false := fz_of F3
          have f2 : X4.frozen? ⟨w.heap.size + 1 + 1, 2, none⟩ = false := fz_of F3
          have f3 : X4.frozen? ⟨w.heap.size + 1 + 1, 3, none⟩ = false := fz_of F3
          have f4 : X4.frozen? ⟨w.heap.size + 1 + 1, 4, none⟩ = false := fz_of F3
          have O6 := hide (And.intro (set5 X4 (w.heap.size + 1 + 1) _ _ _ _ _ (.int .i64 (na + nb)) (.int .i64 m) (.slice (some ⟨r1, 0, none⟩) (S.length + S'.length) q1) (.slice (some ⟨r2, 0, none⟩) (F.length + F'.length) q2) (.slice (some ⟨r3, 0, none⟩) (E.length + E'.length) q3) 25 F3) (only5 X4 (w.heap.size + 1 + 1) (.int .i64 (na + nb)) (.int .i64 m) (.slice (some ⟨r1, 0, none⟩) (S.length + S'.length) q1) (.slice (some ⟨r2, 0, none⟩) (F.length + F'.length) q2) (.slice (some ⟨r3, 0, none⟩) (E.length + E'.length) q3)))
          clear F3
          go_wp2_with fail
          refine bodyPost_ret (results_cell_row (p := 4) (ty := 25) rfl _ _ (w.heap.size + 1 + 1) 25 _ (0, 0) _ rfl O6.out.1 Tryz.underlying25 rfl (by kernel_rfl)) rfl ?_
          have e1 : (S ++ shL na S').length = S.length + S'.length := by simp [shL]
          have e2 : (F ++ shL na F').length = F.length + F'.length := by simp [shL]
          have e3 : (E ++ shEs na E').length = E.length + E'.length := by simp [shEs]
          have rr := RR4.out.1
          refine ⟨r1, q1, r2, q2, r3, q3, by rw [e1, e2, e3], ⟨by rw [e1]; exact own_only RR4.out.2.1 O6.out.2 (by omega), by rw [e2]; exact own_only RR4.out.2.2.1 O6.out.2 (by omega), by rw [e3]; exact own_only RR4.out.2.2.2 O6.out.2 (by omega), rr.1, rr.2.1, rr.2.2.1⟩, F7.out.d.trans (O6.out.2.toBelow (Nat.le_trans hBw F7.out.d.size) (fun k hk => by omega))⟩
end Go.Proofs.YtchoopnjckcohaaGreatDoor
namespace Go.Proofs.YtchoopnjckcohaaGreatDoor
open Go.RowKit Go.Maps Go.Shelf
theorem undrew2 {B : Nat} {X w : World} (d : Below B w X.drew) : Below B w X := ⟨d.os, d.tape, d.output, d.size, d.block⟩
structure Pre (W0 F : World) (p q : Nat) (g1 k1 g2 k2 g3 k3 h1 c1 h2 c2 h3 c3 : Nat) (S T : List Int) (E : List EdT) (S' T' : List Int) (E' : List EdT) : Prop where
 zp : F.heap[p]? = some (.cells #[.int .i64 0, .int .i64 0, .slice none 0 0, .slice none 0 0, .slice none 0 0] 25 (0, 0))
 zq : F.heap[q]? = some (.cells #[.int .i64 0, .int .i64 0, .slice none 0 0, .slice none 0 0, .slice none 0 0] 25 (0, 0))
 ne : p ≠ q
 o1 : Own W0.heap.size F g1 k1 g2 k2 g3 k3 S T E
 o2 : Own W0.heap.size F h1 c1 h2 c2 h3 c3 S' T' E'
 lt : ∃ C, g1 < C ∧ g2 < C ∧ g3 < C ∧ C ≤ h1 ∧ C ≤ h2 ∧ C ≤ h3
 np : (g1 ≠ p ∧ g2 ≠ p ∧ g3 ≠ p) ∧ h1 ≠ p ∧ h2 ≠ p ∧ h3 ≠ p
 nq : (g1 ≠ q ∧ g2 ≠ q ∧ g3 ≠ q) ∧ h1 ≠ q ∧ h2 ≠ q ∧ h3 ≠ q
 d : Below W0.heap.size W0 F
 lp : W0.heap.size ≤ p ∧ W0.heap.size ≤ q
theorem Own.on {B C : Nat} {w w' : World} {g1 k1 g2 k2 g3 k3 : Nat} {S F : List Int} {E : List EdT} (h : Own C w g1 k1 g2 k2 g3 k3 S F E) (hB : B ≤ C) (d : Below w.heap.size w w') : Own B w' g1 k1 g2 k2 g3 k3 S F E :=
 ⟨owns_down (own_on h.s d (own_at h.s).2) hB, owns_down (own_on h.f d (own_at h.f).2) hB, owns_down (own_on h.e d (own_at h.e).2) hB, h.n12, h.n13, h.n23⟩
theorem Own.only {B q : Nat} {w w' : World} {g1 k1 g2 k2 g3 k3 : Nat} {S F : List Int} {E : List EdT} (h : Own B w g1 k1 g2 k2 g3 k3 S F E) (o : Only w w' (fun k => k = q)) (hq : g1 ≠ q ∧ g2 ≠ q ∧ g3 ≠ q) : Own B w' g1 k1 g2 k2 g3 k3 S F E :=
 ⟨own_only h.s o hq.1, own_only h.f o hq.2.1, own_only h.e o hq.2.2, h.n12, h.n13, h.n23⟩
section
variable {W0 W Wc wa Wd wb F : World} {p q g1 k1 g2 k2 g3 k3 h1 c1 h2 c2 h3 c3 : Nat} {S T : List Int} {E : List EdT} {S' T' : List Int} {E' : List EdT}
theorem zero_cells {F : World} {p : Nat} (h : F.heap[p]? = some (.cells #[.int .i64 0, .int .i64 0, .slice none 0 0, .slice none 0 0, .slice none 0 0] 25 (0, 0))) : (F.cell? ⟨p, 0, none⟩ = some (.int .i64 0) ∧ F.cell? ⟨p, 1, none⟩ = some (.int .i64 0) ∧ F.cell? ⟨p, 2, none⟩ = some (.slice none 0 0) ∧ F.cell? ⟨p, 3, none⟩ = some (.slice none 0 0) ∧ F.cell? ⟨p, 4, none⟩ = some (.slice none 0 0)) ∧ F.frozen? ⟨p, 0, none⟩ = false ∧ F.frozen? ⟨p, 1, none⟩ = false ∧ F.frozen? ⟨p, 2, none⟩ = false ∧ F.frozen? ⟨p, 3, none⟩ = false ∧ F.frozen? ⟨p, 4, none⟩ = false :=
 ⟨⟨cell_of h rfl, cell_of h rfl, cell_of h rfl, cell_of h rfl, cell_of h rfl⟩, fz_of h, fz_of h, fz_of h, fz_of h, fz_of h⟩
theorem Pre.zq1 (h : Pre W0 F p q g1 k1 g2 k2 g3 k3 h1 c1 h2 c2 h3 c3 S T E S' T' E') (n m : Int) : (((((F.setCell ⟨p, 0, none⟩ (.int .i64 n)).setCell ⟨p, 1, none⟩ (.int .i64 m)).setCell ⟨p, 2, none⟩ (.slice (some ⟨g1, 0, none⟩) S.length k1)).setCell ⟨p, 3, none⟩ (.slice (some ⟨g2, 0, none⟩) T.length k2)).setCell ⟨p, 4, none⟩ (.slice (some ⟨g3, 0, none⟩) E.length k3)).heap[q]? = some (.cells #[.int .i64 0, .int .i64 0, .slice none 0 0, .slice none 0 0, .slice none 0 0] 25 (0, 0)) :=
 (only5 F p (.int .i64 n) (.int .i64 m) (.slice (some ⟨g1, 0, none⟩) S.length k1) (.slice (some ⟨g2, 0, none⟩) T.length k2) (.slice (some ⟨g3, 0, none⟩) E.length k3)).cellK h.zq h.ne.symm
structure Lai (W0 W : World) (p q : Nat) (n m n' m' : Int) (g1 k1 g2 k2 g3 k3 h1 c1 h2 c2 h3 c3 : Nat) (S T : List Int) (E : List EdT) (S' T' : List Int) (E' : List EdT) : Prop where
 bp : W.heap[p]? = some (.cells #[.int .i64 n, .int .i64 m, .slice (some ⟨g1, 0, none⟩) S.length k1, .slice (some ⟨g2, 0, none⟩) T.length k2, .slice (some ⟨g3, 0, none⟩) E.length k3] 25 (0, 0))
 bq : W.heap[q]? = some (.cells #[.int .i64 n', .int .i64 m', .slice (some ⟨h1, 0, none⟩) S'.length c1, .slice (some ⟨h2, 0, none⟩) T'.length c2, .slice (some ⟨h3, 0, none⟩) E'.length c3] 25 (0, 0))
 o1 : Own W0.heap.size W g1 k1 g2 k2 g3 k3 S T E
 o2 : Own W0.heap.size W h1 c1 h2 c2 h3 c3 S' T' E'
 lt : ∃ C, g1 < C ∧ g2 < C ∧ g3 < C ∧ C ≤ h1 ∧ C ≤ h2 ∧ C ≤ h3
 d : Below W0.heap.size W0 W
 lp : W0.heap.size ≤ p ∧ W0.heap.size ≤ q
theorem Pre.lai (h : Pre W0 F p q g1 k1 g2 k2 g3 k3 h1 c1 h2 c2 h3 c3 S T E S' T' E') (n m n' m' : Int) : Lai W0 ((((((((((F.setCell ⟨p, 0, none⟩ (.int .i64 n)).setCell ⟨p, 1, none⟩ (.int .i64 m)).setCell ⟨p, 2, none⟩ (.slice (some ⟨g1, 0, none⟩) S.length k1)).setCell ⟨p, 3, none⟩ (.slice (some ⟨g2, 0, none⟩) T.length k2)).setCell ⟨p, 4, none⟩ (.slice (some ⟨g3, 0, none⟩) E.length k3)).setCell ⟨q, 0, none⟩ (.int .i64 n')).setCell ⟨q, 1, none⟩ (.int .i64 m')).setCell ⟨q, 2, none⟩ (.slice (some ⟨h1, 0, none⟩) S'.length c1)).setCell ⟨q, 3, none⟩ (.slice (some ⟨h2, 0, none⟩) T'.length c2)).setCell ⟨q, 4, none⟩ (.slice (some ⟨h3, 0, none⟩) E'.length c3)) p q n m n' m' g1 k1 g2 k2 g3 k3 h1 c1 h2 c2 h3 c3 S T E S' T' E' := by
 have s1 := set5 F p _ _ _ _ _ (.int .i64 n) (.int .i64 m) (.slice (some ⟨g1, 0, none⟩) S.length k1) (.slice (some ⟨g2, 0, none⟩) T.length k2) (.slice (some ⟨g3, 0, none⟩) E.length k3) 25 h.zp
 have e1 := only5 F p (.int .i64 n) (.int .i64 m) (.slice (some ⟨g1, 0, none⟩) S.length k1) (.slice (some ⟨g2, 0, none⟩) T.length k2) (.slice (some ⟨g3, 0, none⟩) E.length k3)
 obtain ⟨G, hG⟩ : ∃ G, ((((F.setCell ⟨p, 0, none⟩ (.int .i64 n)).setCell ⟨p, 1, none⟩ (.int .i64 m)).setCell ⟨p, 2, none⟩ (.slice (some ⟨g1, 0, none⟩) S.length k1)).setCell ⟨p, 3, none⟩ (.slice (some ⟨g2, 0, none⟩) T.length k2)).setCell ⟨p, 4, none⟩ (.slice (some ⟨g3, 0, none⟩) E.length k3) = G := ⟨_, rfl⟩
 rw [hG] at s1 e1 ⊢
 have zq := e1.cellK h.zq h.ne.symm
 have s2 := set5 G q _ _ _ _ _ (.int .i64 n') (.int .i64 m') (.slice (some ⟨h1, 0, none⟩) S'.length c1) (.slice (some ⟨h2, 0, none⟩) T'.length c2) (.slice (some ⟨h3, 0, none⟩) E'.length c3) 25 zq
 have e2 := only5 G q (.int .i64 n') (.int .i64 m') (.slice (some ⟨h1, 0, none⟩) S'.length c1) (.slice (some ⟨h2, 0, none⟩) T'.length c2) (.slice (some ⟨h3, 0, none⟩) E'.length c3)
 have hp := h.lp
 have hs := h.d.size
 have hs2 := e1.size
 exact ⟨e2.cellK s1 h.ne, s2, (h.o1.only e1 h.np.1).only e2 h.nq.1, (h.o2.only e1 h.np.2).only e2 h.nq.2, h.lt, (h.d.trans (e1.toBelow hs (fun k hk => by omega))).trans (e2.toBelow (by omega) (fun k hk => by omega)), h.lp⟩
end
def ownP (n m : Int) (S T : List Int) (E : List EdT) : MkP := fun x lo hi W => ∃ g1 k1 g2 k2 g3 k3, x = .agg #[.int .i64 n, .int .i64 m, .slice (some ⟨g1, 0, none⟩) S.length k1, .slice (some ⟨g2, 0, none⟩) T.length k2, .slice (some ⟨g3, 0, none⟩) E.length k3] ∧ Own lo W g1 k1 g2 k2 g3 k3 S T E ∧ g1 < hi ∧ g2 < hi ∧ g3 < hi
def boxP : MkP := fun x lo hi W => x = .pointer (some ⟨lo, 0, none⟩) ∧ lo < hi ∧ W.heap[lo]? = some (.cells #[.int .i64 0, .int .i64 0, .slice none 0 0, .slice none 0 0, .slice none 0 0] 25 (0, 0))
theorem ownP_mono {n m : Int} {S T : List Int} {E : List EdT} : MonoP (ownP n m S T E) := fun _ _ _ _ _ _ d ⟨g1, k1, g2, k2, g3, k3, e, o, q⟩ => ⟨g1, k1, g2, k2, g3, k3, e, o.on (Nat.le_refl _) d, q⟩
theorem boxP_mono : MonoP boxP := fun _ _ _ _ _ hs d ⟨e, l, z⟩ => ⟨e, l, (d.block _ (by omega)).trans z⟩
theorem ownP_of {n m : Int} {S T : List Int} {E : List EdT} {B : Nat} {W : World} {g1 k1 g2 k2 g3 k3 : Nat} (o : Own B W g1 k1 g2 k2 g3 k3 S T E) : ownP n m S T E (.agg #[.int .i64 n, .int .i64 m, .slice (some ⟨g1, 0, none⟩) S.length k1, .slice (some ⟨g2, 0, none⟩) T.length k2, .slice (some ⟨g3, 0, none⟩) E.length k3]) B W.heap.size W := ⟨g1, k1, g2, k2, g3, k3, rfl, o, (own_at o.s).2, (own_at o.f).2, (own_at o.e).2⟩
theorem boxP_of (W : World) : boxP (.pointer (some ⟨W.heap.size, 0, none⟩)) W.heap.size (W.alloc (.cells #[.int .i64 0, .int .i64 0, .slice none 0 0, .slice none 0 0, .slice none 0 0] 25)).heap.size (W.alloc (.cells #[.int .i64 0, .int .i64 0, .slice none 0 0, .slice none 0 0, .slice none 0 0] 25)) := ⟨rfl, by simp, World.alloc_heap_new _ _⟩
theorem two_pre {A B : Value} {n m n' m' : Int} {S T : List Int} {E : List EdT} {S' T' : List Int} {E' : List EdT} {W0 w W : World} {ops : Array Oper} {k : Nat} {y : Nat → Value} {lo hi : Nat → Nat} (d0 : Below W0.heap.size W0 w) (hk : 6 ≤ k) (hM : Made w (phiL [isV A, ownP n m S T E, isV B, ownP n' m' S' T' E', boxP, boxP]) ops k (fun _ => true) y lo hi W) (ho : hi 1 ≤ lo 3) :
 ∃ p q g1 k1 g2 k2 g3 k3 h1 c1 h2 c2 h3 c3, y 1 = .agg #[.int .i64 n, .int .i64 m, .slice (some ⟨g1, 0, none⟩) S.length k1, .slice (some ⟨g2, 0, none⟩) T.length k2, .slice (some ⟨g3, 0, none⟩) E.length k3] ∧ y 3 = .agg #[.int .i64 n', .int .i64 m', .slice (some ⟨h1, 0, none⟩) S'.length c1, .slice (some ⟨h2, 0, none⟩) T'.length c2, .slice (some ⟨h3, 0, none⟩) E'.length c3] ∧ y 4 = .pointer (some ⟨p, 0, none⟩) ∧ y 5 = .pointer (some ⟨q, 0, none⟩) ∧ Pre W0 W p q g1 k1 g2 k2 g3 k3 h1 c1 h2 c2 h3 c3 S T E S' T' E' := by
 obtain ⟨g1, k1, g2, k2, g3, k3, e1, o1, q1⟩ := hM.fact 1 (by omega) rfl
 obtain ⟨h1, c1, h2, c2, h3, c3, e3, o3, q3⟩ := hM.fact 3 (by omega) rfl
 obtain ⟨e4, l4, z4⟩ := hM.fact 4 (by omega) rfl
 obtain ⟨e5, l5, z5⟩ := hM.fact 5 (by omega) rfl
 refine ⟨lo 4, lo 5, g1, k1, g2, k2, g3, k3, h1, c1, h2, c2, h3, c3, e1, e3, e4, e5, ?_⟩
 have a1 := own_at o1.s
 have a2 := own_at o1.f
 have a3 := own_at o1.e
 have b1 := own_at o3.s
 have b2 := own_at o3.f
 have b3 := own_at o3.e
 have s0 := d0.size
 have t1 := hM.at' 1 (by omega) rfl
 have t3 := hM.at' 3 (by omega) rfl
 have t4 := hM.at' 4 (by omega) rfl
 have t5 := hM.at' 5 (by omega) rfl
 have u45 := hM.apart 4 5 (by omega) (by omega) rfl rfl (by decide)
 have u14 := hM.apart 1 4 (by omega) (by omega) rfl rfl (by decide)
 have u34 := hM.apart 3 4 (by omega) (by omega) rfl rfl (by decide)
 have u15 := hM.apart 1 5 (by omega) (by omega) rfl rfl (by decide)
 have u35 := hM.apart 3 5 (by omega) (by omega) rfl rfl (by decide)
 have D := hM.d
 refine ⟨z4, z5, by omega, o1.on (by omega) (Below.refl _ _), o3.on (by omega) (Below.refl _ _), ⟨hi 1, by omega, by omega, by omega, by omega, by omega, by omega⟩, ⟨⟨by omega, by omega, by omega⟩, by omega, by omega, by omega⟩, ⟨⟨by omega, by omega, by omega⟩, by omega, by omega, by omega⟩, d0.trans (D.mono s0), by omega, by omega⟩
end Go.Proofs.YtchoopnjckcohaaGreatDoor
