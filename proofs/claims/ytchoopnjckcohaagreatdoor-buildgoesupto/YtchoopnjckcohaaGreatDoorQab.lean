import Derived.Test.YtchoopnjckcohaaGreatDoorQaa
import Derived.Lib.SliceRun
import Derived.Lib.SlicesCompact
import Derived.Laws.CopyOwn
import Derived.Sort.OwnSortedInts
import Derived.Laws.EntriesVeiled
import Derived.RangeFuncNested
import Derived.RangeFuncBound
import Derived.RangeFuncCalls
import Derived.RangeFuncLeaves
import Derived.RangeFuncBox
import Derived.Shelf.Abstract
import Derived.Shelf.RegionOpen
import Derived.OwnWalkIn
import Derived.TacticsInMore
import Derived.LoopNIn
import Derived.LoopIn
set_option maxRecDepth 100000
set_option maxHeartbeats 40000000
namespace Go.Proofs.YtchoopnjckcohaaGreatDoor
open Go.RowKit Go.Maps
attribute [local go_sem] Oper.semAt_some
def Mrw (W : World) (H : Nat) (t : TypeId) (N : Nat) (val : Nat → Value) (k : Nat) : Prop :=
 ∃ cur : Array Value, W.heap[H]? = some (.cells cur t (0, 0)) ∧ cur.size = N ∧ ∀ j, j < k → cur[j]? = some (val j)
theorem Mrw.cell {W : World} {H : Nat} {t : TypeId} {N : Nat} {val : Nat → Value} {k : Nat} (h : Mrw W H t N val k) (j : Nat) (hj : j < N) : ∃ u, W.cell? ⟨H, j, none⟩ = some u := by
 obtain ⟨cur, h1, h2, _⟩ := h
 exact ⟨cur[j]'(by omega), cell_of h1 (Array.getElem?_eq_getElem (by omega))⟩
theorem Mrw.fz {W : World} {H : Nat} {t : TypeId} {N : Nat} {val : Nat → Value} {k : Nat} (h : Mrw W H t N val k) (j : Nat) : W.frozen? ⟨H, j, none⟩ = false := by
 obtain ⟨cur, h1, _⟩ := h
 exact fz_of h1
theorem Mrw.put {W : World} {H : Nat} {t : TypeId} {N : Nat} {val : Nat → Value} {k : Nat} (h : Mrw W H t N val k) (hk : k < N) (u : Value) (hu : val k = u) : Mrw (W.setCell ⟨H, k, none⟩ u) H t N val (k + 1) := by
 obtain ⟨cur, h1, h2, h3⟩ := h
 refine ⟨_, heap_setCell_same W H k cur t u h1, by simpa using h2, fun i hi => ?_⟩
 by_cases e : i = k
 · subst e
   rw [Array.getElem?_setIfInBounds_self_of_lt (by omega), hu]
 · rw [Array.getElem?_setIfInBounds_ne (by omega)]
   exact h3 i (by omega)
theorem Mrw.at {W : World} {H : Nat} {t : TypeId} {N : Nat} {val : Nat → Value} {k : Nat} (h : Mrw W H t N val k) (j : Nat) (hj : j < k) : W.cell? ⟨H, j, none⟩ = some (val j) := by
 obtain ⟨cur, h1, h2, h3⟩ := h
 exact cell_of h1 (h3 j hj)
theorem Mrw.below {W W' : World} {H : Nat} {t : TypeId} {N : Nat} {val : Nat → Value} {k B : Nat} (h : Mrw W H t N val k) (d : Below B W W') (hB : H < B) : Mrw W' H t N val k := by
 obtain ⟨cur, h1, h2, h3⟩ := h
 exact ⟨cur, (d.block _ hB).trans h1, h2, h3⟩
theorem Mrw.lt {W : World} {H : Nat} {t : TypeId} {N : Nat} {val : Nat → Value} {k : Nat} (h : Mrw W H t N val k) : H < W.heap.size := by
 obtain ⟨cur, h1, _⟩ := h
 exact (Array.getElem?_eq_some_iff.1 h1).1
theorem Mrw.ofRow {W : World} {b H : Nat} {t : TypeId} {sz n : Nat} {xs : List Value} (val : Nat → Value) (h : W.ownsRow b t sz (.slice (some ⟨H, 0, none⟩) n n) n xs) : Mrw W H t (n * sz) val 0 := by
 obtain ⟨h0, h1⟩ := h
 rcases h1 with ⟨e, _⟩ | ⟨g, cap, cur, e, h2, h3, h4, h5, h6, h7⟩
 · cases e
 · cases e
   exact ⟨cur, h3, h6, fun j hj => by omega⟩
theorem only_set (w : World) (g k : Nat) (v : Value) : Only w (w.setCell ⟨g, k, none⟩ v) (fun i => i = g) :=
 ⟨rfl, rfl, rfl, by simp [World.setCell], fun i _ hn => Below.heap_setCell _ _ _ _ (fun e => hn (by rw [e]))⟩
theorem row_only {w w' : World} {R : Nat → Prop} {B : Nat} {e : TypeId} {sz n : Nat} {v : Value} {xs : List Value} (h : w.ownsRow B e sz v n xs) (ho : Only w w' R) (hn : ∀ k, v.ownBlock = some k → ¬ R k) : w'.ownsRow B e sz v n xs := by
 refine ⟨h.1, ?_⟩
 have hlt := h.lt
 rcases h.2 with h2 | ⟨g, cap, cur, rfl, hb, hg, rest⟩
 · exact .inl h2
 · exact .inr ⟨g, cap, cur, rfl, hb, (ho.block g (hlt g rfl).2 (hn g rfl)).trans hg, rest⟩
theorem only3 (W : World) (b i j k : Nat) (x y z : Value) : Only W (((W.setCell ⟨b, i, none⟩ x).setCell ⟨b, j, none⟩ y).setCell ⟨b, k, none⟩ z) (fun q => q = b) := ((only_set W b i x).trans (only_set _ b j y)).trans (only_set _ b k z)
theorem below_drewN2 {B : Nat} {w w' : World} (d : Below B w w') (n : Nat) : Below B w (w'.drewN n) := ⟨d.os, d.tape, d.output, d.size, d.block⟩
theorem Mrw.upd {W : World} {H : Nat} {t : TypeId} {N : Nat} {f : Nat → Value} (h : Mrw W H t N f N) (j : Nat) (u : Value) : Mrw (W.setCell ⟨H, j, none⟩ u) H t N (fun c => if c = j then u else f c) N := by
 obtain ⟨cur, h1, h2, h3⟩ := h
 refine ⟨_, heap_setCell_same W H j cur t u h1, by simpa using h2, fun i hi => ?_⟩
 by_cases e : i = j
 · subst e
   rw [Array.getElem?_setIfInBounds_self_of_lt (by omega)]
   simp
 · rw [Array.getElem?_setIfInBounds_ne (by omega), h3 i hi]
   simp [e]
theorem Mrw.congr {W : World} {H : Nat} {t : TypeId} {N : Nat} {f g : Nat → Value} (h : Mrw W H t N f N) (e : ∀ c, c < N → f c = g c) : Mrw W H t N g N := by
 obtain ⟨cur, h1, h2, h3⟩ := h
 exact ⟨cur, h1, h2, fun j hj => by rw [h3 j hj, e j hj]⟩
theorem Mrw.only {W W' : World} {H : Nat} {t : TypeId} {N : Nat} {f : Nat → Value} {P : Nat → Prop} (h : Mrw W H t N f N) (o : Only W W' P) (hP : ¬ P H) : Mrw W' H t N f N := by
 have hl := h.lt
 obtain ⟨cur, h1, h2, h3⟩ := h
 exact ⟨cur, (o.block H hl hP).trans h1, h2, h3⟩
theorem edges_at {w : World} {g o : Nat} {L : List EdT} (h : RdE w (some ⟨g, o, none⟩) L) (j : Nat) (u : Value) (hu : (L.flatMap encE)[j]? = some u) : w.cell? ⟨g, o + j, none⟩ = some u := by
 have hz : (L.flatMap encE).length = L.length * 3 := by
  clear h hu
  induction L with
  | nil => rfl
  | cons x L ih => rw [List.flatMap_cons, List.length_append, ih, encE_len, List.length_cons]; omega
 have hj : j < L.length * 3 := by
  have := (List.getElem?_eq_some_iff.1 hu).1
  omega
 have h1 : j / 3 < L.length := by omega
 have e := flat_get encE 3 encE_len L (j / 3) (j % 3) h1 (by omega)
 rw [show j / 3 * 3 + j % 3 = j by omega, hu] at e
 obtain ⟨g', o', e', c0, c1, c2⟩ := h (j / 3) h1
 cases e'
 have h3 : j % 3 = 0 ∨ j % 3 = 1 ∨ j % 3 = 2 := by omega
 rcases h3 with q | q | q
 · rw [q] at e
   rw [show o + j = o + j / 3 * 3 by omega, c0]
   exact e.symm
 · rw [q] at e
   rw [show o + j = o + j / 3 * 3 + 1 by omega, c1]
   exact e.symm
 · rw [q] at e
   rw [show o + j = o + j / 3 * 3 + 2 by omega, c2]
   exact e.symm
theorem encE_one (L : List EdT) : ∀ u ∈ L.flatMap encE, u.oneCell' = true := by
 intro u hu
 obtain ⟨x, _, hx⟩ := List.mem_flatMap.1 hu
 simp only [encE, List.mem_cons, List.not_mem_nil, or_false] at hx
 rcases hx with rfl | rfl | rfl <;> rfl
theorem encE_flat (L : List EdT) : (L.flatMap encE).length = L.length * 3 := by
 induction L with
 | nil => rfl
 | cons x L ih => rw [List.flatMap_cons, List.length_append, ih, encE_len, List.length_cons]; omega
def EdF (f : Nat → Value) (d : Array EdT) : Prop := ∀ j, j < d.size → f (j * 3) = .int .i64 d[j]!.1 ∧ f (j * 3 + 1) = .int .i64 d[j]!.2.1 ∧ f (j * 3 + 2) = .int .i64 d[j]!.2.2
theorem EdF.set {f : Nat → Value} {d : Array EdT} (h : EdF f d) (k : Nat) (x : EdT) : EdF (fun c => if c = k * 3 + 2 then .int .i64 x.2.2 else if c = k * 3 + 1 then .int .i64 x.2.1 else if c = k * 3 then .int .i64 x.1 else f c) (d.setIfInBounds k x) := by
 intro j hj
 rw [Array.size_setIfInBounds] at hj
 by_cases e : j = k
 · subst e
   rw [Sort.getElem!_set_same d j x hj]
   refine ⟨?_, ?_, ?_⟩
   · show (if _ then _ else _) = _
     rw [if_neg (by omega), if_neg (by omega), if_pos rfl]
   · show (if _ then _ else _) = _
     rw [if_neg (by omega), if_pos rfl]
   · show (if _ then _ else _) = _
     rw [if_pos rfl]
 · rw [Sort.getElem!_set_other d k j x e]
   obtain ⟨h0, h1, h2⟩ := h j hj
   refine ⟨?_, ?_, ?_⟩
   · show (if _ then _ else _) = _
     rw [if_neg (by omega), if_neg (by omega), if_neg (by omega)]; exact h0
   · show (if _ then _ else _) = _
     rw [if_neg (by omega), if_neg (by omega), if_neg (by omega)]; exact h1
   · show (if _ then _ else _) = _
     rw [if_neg (by omega), if_neg (by omega), if_neg (by omega)]; exact h2
theorem edF_cells {W : World} {g N : Nat} {f : Nat → Value} {d : Array EdT} (hM : Mrw W g 61 N f N) (hF : EdF f d) (hN : d.size * 3 ≤ N) {j : Nat} (hj : j < d.size) {x0 x1 x2 : Int} (hx : d[j]! = (x0, x1, x2)) : W.cell? ⟨g, j * 3, none⟩ = some (.int .i64 x0) ∧ W.cell? ⟨g, j * 3 + 1, none⟩ = some (.int .i64 x1) ∧ W.cell? ⟨g, j * 3 + 2, none⟩ = some (.int .i64 x2) := by
 obtain ⟨h0, h1, h2⟩ := hF j hj
 rw [hx] at h0 h1 h2
 exact ⟨(hM.at _ (by omega)).trans (congrArg some h0), (hM.at _ (by omega)).trans (congrArg some h1), (hM.at _ (by omega)).trans (congrArg some h2)⟩
theorem rd_low {W : World} {g N n : Nat} {f : Nat → Value} {L : List EdT} {dk : Array EdT} (hM : Mrw W g 61 N f N) (hN : n * 3 ≤ N) (hl : L.length ≤ n) (hL : ∀ j, j < L.length → L[j]? = some dk[j]!) (hF : ∀ j, j < L.length → f (j * 3) = .int .i64 dk[j]!.1 ∧ f (j * 3 + 1) = .int .i64 dk[j]!.2.1 ∧ f (j * 3 + 2) = .int .i64 dk[j]!.2.2) : RdE W (some ⟨g, 0, none⟩) L := fun j hj => by
 obtain ⟨h0, h1, h2⟩ := hF j hj
 have e : L[j] = dk[j]! := Option.some.inj ((List.getElem?_eq_getElem hj).symm.trans (hL j hj))
 rw [← e] at h0 h1 h2
 exact ⟨g, 0, rfl, by rw [Nat.zero_add, hM.at _ (by omega), h0], by rw [Nat.zero_add, hM.at _ (by omega), h1], by rw [Nat.zero_add, hM.at _ (by omega), h2]⟩
theorem all_kept {d : Array EdT} {n : Nat} (hn : d.size = n) (hk : ∀ j, j < n → Lib.keeps d j = true) : Lib.compactUpTo d n = d.toList := by
 rw [Lib.compactUpTo_all d n hk, ← hn]
 exact Lib.range_map_get d
theorem rd_all {W : World} {g N n : Nat} {f : Nat → Value} {d : Array EdT} (hn : d.size = n) (hM : Mrw W g 61 N f N) (hN : n * 3 ≤ N) (hF : EdF f d) (hk : ∀ j, j < n → Lib.keeps d j = true) : (Lib.compactUpTo d n).length = n ∧ RdE W (some ⟨g, 0, none⟩) (Lib.compactUpTo d n) := by
 rw [all_kept hn hk]
 refine ⟨by simpa using hn, rd_low (dk := d) hM hN (by simp; omega) (fun j hj => ?_) fun j hj => hF j (by simpa using hj)⟩
 have hj' : j < d.size := by simpa using hj
 rw [Array.getElem?_toList, Array.getElem?_eq_getElem hj', getElem!_pos d j hj']
theorem set_cells {t : TypeId} {g N : Nat} : ∀ (xs : List Value) (o : Nat) {W : World} {f : Nat → Value}, Mrw W g t N f N → ∃ f', Mrw (W.setCells g o xs) g t N f' N ∧ (∀ c, c < o → f' c = f c) ∧ Only W (W.setCells g o xs) (fun k => k = g)
 | [], _, _, f, h => ⟨f, h, fun _ _ => rfl, Only.ofBelow (Below.refl _ _)⟩
 | x :: xs, o, W, f, h => by
  obtain ⟨f', h1, h2, h3⟩ := set_cells xs (o + 1) (h.upd o x)
  refine ⟨f', h1, fun c hc => ?_, (only_set W g o x).trans h3⟩
  rw [h2 c (by omega)]
  exact if_neg (by omega)
theorem zeroE (n : Nat) : (Builtin.zeroCells #[Value.int .i64 0, .int .i64 0, .int .i64 0] n).toList = List.replicate (n * 3) (.int .i64 0) := by
 apply List.ext_getElem
 · simp [Builtin.zeroCells]
 · intro i h1 h2
   have h3 : i % 3 = 0 ∨ i % 3 = 1 ∨ i % 3 = 2 := by omega
   simp [Builtin.zeroCells]
   rcases h3 with q | q | q <;> simp [q]
theorem clear_run (W : World) (ty : TypeId) (g o n c : Nat) (hn : 0 < n) (hc : ∀ j, j < n * 3 → (W.cell? ⟨g, o + j, none⟩).isSome = true) (hf : ∀ j, j < n * 3 → W.frozen? ⟨g, o + j, none⟩ = false) :
 (Builtin.clear_ #[23] ty #[.slice (some ⟨g, o, none⟩) n c]).run Tryz.prog W = .ok (.tuple #[]) (W.setCells g o (List.replicate (n * 3) (.int .i64 0))) := by
 have hst := run_storeCells_cells (P := Tryz.prog) g o (List.replicate (n * 3) (.int .i64 0)) 0 W (by simpa using hc) (by simpa using hf) (by intro v hv'; rw [List.eq_of_mem_replicate hv']; rfl)
 simp only [Nat.add_zero] at hst
 obtain ⟨m, rfl⟩ : ∃ m, n = m + 1 := ⟨n - 1, by omega⟩
 have hz : ∀ w : World, (zeroValue 61).run Tryz.prog w = .ok (.agg #[.int .i64 0, .int .i64 0, .int .i64 0]) w := fun w => by kernel_rfl
 have hcl : (Value.agg #[.int .i64 0, .int .i64 0, .int .i64 0]).cells = #[.int .i64 0, .int .i64 0, .int .i64 0] := rfl
 simp [Builtin.clear_, run_underlying Tryz.underlying23, hz, hcl, zeroE, hst]
theorem compactA (w : World) (g cap n : Nat) (d : Array EdT) (hn : Hid (d.size = n)) (f : Nat → Value) (hM : Hid (Mrw w g 61 (cap * 3) f (cap * 3))) (hF : Hid (EdF f d)) (hcap : n ≤ cap) (hl : n ≤ 4194304) :
 Calls Tryz.prog 160 #[.slice (some ⟨g, 0, none⟩) n cap] w fun e w' => e = .returned (.slice (some ⟨g, 0, none⟩) (Lib.compactUpTo d n).length cap) ∧ RdE w' (some ⟨g, 0, none⟩) (Lib.compactUpTo d n) ∧ Only w w' (fun k => k = g) ∧ ∃ f', Mrw w' g 61 (cap * 3) f' (cap * 3) := by
 by_cases h2 : n < 2
 · have i1 : (n : Int) < 2 := by omega
   go_enter Tryz.func160, Tryz.ntmps160
   go_wp2
   go_ret
   obtain ⟨e1, e2⟩ := rd_all hn.out hM.out (by omega) hF.out fun j hj => Lib.keeps_lt_one d j (by omega)
   exact ⟨by rw [e1]; rfl, e2, Only.ofBelow (Below.refl _ _), _, hM.out⟩
 · have i1 : ¬ (n : Int) < 2 := by omega
   go_enter Tryz.func160, Tryz.ntmps160
   go_wp2_with fail
   go_loopw [3] (fun i wr => ∃ m : Nat, m + 1 ≤ n ∧ i = .int .i64 ((m + 1 : Nat) : Int) ∧ Hid (Mrw wr g 61 (cap * 3) f (cap * 3) ∧ Below w.heap.size w wr ∧ ∀ j, j < m + 1 → Lib.keeps d j = true)) (fun i _ => n - (intOf i).toNat)
   case atStart => exact ⟨0, by omega, rfl, hide ⟨hM.out, Below.refl _ _, fun j hj => Lib.keeps_lt_one d j (by omega)⟩⟩
   case round =>
    obtain ⟨m, hm, rfl, HK⟩ := hrel
    obtain ⟨wi, rfl⟩ : ∃ z, z = wr := ⟨_, rfl⟩
    by_cases hlt : m + 1 < n
    · have j0 : (m : Int) + 1 < (n : Int) := by omega
      have j1 : (m : Int) < (n : Int) := by omega
      have j2 : (0 : Int) ≤ (m : Int) := by omega
      have j3 : (0 : Int) ≤ (m : Int) + 1 := by omega
      obtain ⟨⟨x0, x1, x2⟩, hx⟩ : ∃ x, d[m + 1]! = x := ⟨_, rfl⟩
      obtain ⟨⟨y0, y1, y2⟩, hy⟩ : ∃ y, d[m]! = y := ⟨_, rfl⟩
      obtain ⟨p0, p1, p2⟩ := edF_cells HK.out.1 hF.out (by rw [hn.out]; omega) (by rw [hn.out]; omega) hx
      obtain ⟨q0, q1, q2⟩ := edF_cells HK.out.1 hF.out (by rw [hn.out]; omega) (show m < d.size by rw [hn.out]; omega) hy
      have HE : Hid (Lib.keeps d (m + 1) = !decide (x0 = y0 ∧ x1 = y1 ∧ x2 = y2)) := hide (by
       unfold Lib.keeps
       rw [Nat.add_sub_cancel, hx, hy]
       simp)
      clear hx hy
      go_upto_region 6 with fail
      go_cut [25] from 16 to 25 (fun b wx => b = .bool (!Lib.keeps d (m + 1)) ∧ Hid (Mrw wx g 61 (cap * 3) f (cap * 3) ∧ Below w.heap.size w wx))
      case first =>
       by_cases g0 : x0 = y0
       · by_cases g1 : x1 = y1
         · by_cases g2 : x2 = y2
           · subst g0 g1 g2
             refine wp_region_phase 9 #[true, true, true, true, true, true, true, true, true, false] (by kernel_rfl) (by kernel_rfl) ?_
             simp only [List.take_succ_cons, List.take_zero, List.drop_succ_cons, List.drop_zero]
             repeat (go_big_quiet_step (fail))
             refine wpQuiet_nil ?_
             intro wz hz
             obtain ⟨nq, rfl⟩ := hz
             go_wp2_with fail
             go_meet
             exact ⟨by rw [HE.out]; simp [], hide ⟨HK.out.1, below_drewN2 HK.out.2.1 nq⟩⟩
           · subst g0 g1
             refine wp_region_phase 9 #[true, true, true, true, true, true, true, true, true, false] (by kernel_rfl) (by kernel_rfl) ?_
             simp only [List.take_succ_cons, List.take_zero, List.drop_succ_cons, List.drop_zero]
             repeat (go_big_quiet_step (fail))
             refine wpQuiet_nil ?_
             intro wz hz
             obtain ⟨nq, rfl⟩ := hz
             go_wp2_with fail
             go_meet
             exact ⟨by rw [HE.out]; simp [g2], hide ⟨HK.out.1, below_drewN2 HK.out.2.1 nq⟩⟩
         · subst g0
           refine wp_region_phase 9 #[true, true, true, true, true, true, true, true, true, false] (by kernel_rfl) (by kernel_rfl) ?_
           simp only [List.take_succ_cons, List.take_zero, List.drop_succ_cons, List.drop_zero]
           repeat (go_big_quiet_step (fail))
           refine wpQuiet_nil ?_
           intro wz hz
           obtain ⟨nq, rfl⟩ := hz
           go_wp2_with fail
           go_meet
           exact ⟨by rw [HE.out]; simp [g1], hide ⟨HK.out.1, below_drewN2 HK.out.2.1 nq⟩⟩
       · skip
         refine wp_region_phase 9 #[true, true, true, true, true, true, true, true, true, false] (by kernel_rfl) (by kernel_rfl) ?_
         simp only [List.take_succ_cons, List.take_zero, List.drop_succ_cons, List.drop_zero]
         repeat (go_big_quiet_step (fail))
         refine wpQuiet_nil ?_
         intro wz hz
         obtain ⟨nq, rfl⟩ := hz
         go_wp2_with fail
         go_meet
         exact ⟨by rw [HE.out]; simp [g0], hide ⟨HK.out.1, below_drewN2 HK.out.2.1 nq⟩⟩
      case rest =>
       obtain ⟨rfl, HB⟩ := hcut
       rename World => wx
       clear p0 p1 p2 q0 q1 q2 HE
       by_cases hk : Lib.keeps d (m + 1) = true
       · rw [hk]
         have HKK := hide hk
         clear hk
         go_wp2_with fail
         exact ⟨⟨m + 1, by omega, by go_num, hide ⟨HB.out.1, HB.out.2, fun j hj => if e : j = m + 1 then by rw [e]; exact HKK.out else HK.out.2.2 j (by omega)⟩⟩, by simp [intOf]; omega⟩
       · have hk' : Lib.keeps d (m + 1) = false := by simpa using hk
         rw [hk']
         have HI := hide (Lib.CompInv.start HK.out.2.2 hk')
         clear hk hk' HK
         have c1 : m + 1 ≤ cap := by omega
         have c2 : m + 1 ≤ n := by omega
         go_upto_region 8 with fail
         go_wp2_with fail
         have hs := HI.out
         go_loopw [3, 5] (fun s3 s5 wr => ∃ (kk m2 : Nat) (dk : Array EdT) (f' : Nat → Value), s3 = .int .i64 (kk : Nat) ∧ s5 = .int .i64 ((m2 + 1 : Nat) : Int) ∧ m + 1 + (m2 + 1) ≤ n ∧ Hid (Mrw wr g 61 (cap * 3) f' (cap * 3) ∧ EdF f' dk ∧ Lib.CompInv d (m + 1 + (m2 + 1)) kk dk ∧ Only w wr (fun k => k = g))) (fun _ s5 _ => n - (intOf s5).toNat)
         case atStart => exact ⟨m + 1, 0, d, f, rfl, rfl, by omega, hide ⟨HB.out.1, hF.out, HI.out, Only.ofBelow HB.out.2⟩⟩
         case round =>
          obtain ⟨kk, m2, dk, f', rfl, rfl, hle, HJ⟩ := hrel
          obtain ⟨wj, rfl⟩ : ∃ z, z = wr := ⟨_, rfl⟩
          have hkk := HJ.out.2.2.1.lt
          by_cases hlt2 : m + 1 + (m2 + 1) < n
          · have l0 : (m2 : Int) + 1 < ((n - (m + 1) : Nat) : Int) := by omega
            have l1 : (m2 : Int) < ((n - (m + 1) : Nat) : Int) := by omega
            have l2 : (0 : Int) ≤ (m2 : Int) := by omega
            have l3 : (0 : Int) ≤ (m2 : Int) + 1 := by omega
            have hds := HJ.out.2.2.1.size
            obtain ⟨⟨x0, x1, x2⟩, hx⟩ : ∃ x, d[m + 1 + (m2 + 1)]! = x := ⟨_, rfl⟩
            obtain ⟨⟨y0, y1, y2⟩, hy⟩ : ∃ y, d[m + 1 + m2]! = y := ⟨_, rfl⟩
            have HC : Hid (∀ W, Mrw W g 61 (cap * 3) f' (cap * 3) → (W.cell? ⟨g, (m + 1) * 3 + (m2 + 1) * 3, none⟩ = some (.int .i64 x0) ∧ W.cell? ⟨g, (m + 1) * 3 + (m2 + 1) * 3 + 1, none⟩ = some (.int .i64 x1) ∧ W.cell? ⟨g, (m + 1) * 3 + (m2 + 1) * 3 + 2, none⟩ = some (.int .i64 x2)) ∧ (W.cell? ⟨g, (m + 1) * 3 + m2 * 3, none⟩ = some (.int .i64 y0) ∧ W.cell? ⟨g, (m + 1) * 3 + m2 * 3 + 1, none⟩ = some (.int .i64 y1) ∧ W.cell? ⟨g, (m + 1) * 3 + m2 * 3 + 2, none⟩ = some (.int .i64 y2))) := hide (fun W hW => by
             have e1 := edF_cells hW HJ.out.2.1 (by rw [hds, hn.out]; omega) (show m + 1 + (m2 + 1) < dk.size by rw [hds, hn.out]; omega) ((HJ.out.2.2.1.high _ (by omega)).trans hx)
             have e2 := edF_cells hW HJ.out.2.1 (by rw [hds, hn.out]; omega) (show m + 1 + m2 < dk.size by rw [hds, hn.out]; omega) ((HJ.out.2.2.1.high _ (by omega)).trans hy)
             rw [show (m + 1 + (m2 + 1)) * 3 = (m + 1) * 3 + (m2 + 1) * 3 by omega] at e1
             rw [show (m + 1 + m2) * 3 = (m + 1) * 3 + m2 * 3 by omega] at e2
             exact ⟨e1, e2⟩)
            have HE : Hid (Lib.keeps d (m + 1 + (m2 + 1)) = !decide (x0 = y0 ∧ x1 = y1 ∧ x2 = y2)) := hide (by
             unfold Lib.keeps
             rw [show m + 1 + (m2 + 1) - 1 = m + 1 + m2 by omega, hx, hy]
             simp)
            have HX := hide hx
            clear hx hy hs
            go_upto_region 11 with fail
            go_cut [44] from 35 to 44 (fun b wx => b = .bool (Lib.keeps d (m + 1 + (m2 + 1))) ∧ Hid (Mrw wx g 61 (cap * 3) f' (cap * 3) ∧ Only w wx (fun k => k = g)))
            case first =>
             obtain ⟨⟨p0, p1, p2⟩, q0, q1, q2⟩ := HC.out wj HJ.out.1
             by_cases g0 : x0 = y0
             · by_cases g1 : x1 = y1
               · by_cases g2 : x2 = y2
                 · subst g0 g1 g2
                   refine wp_region_phase 9 #[true, true, true, true, true, true, true, true, true, false] (by kernel_rfl) (by kernel_rfl) ?_
                   simp only [List.take_succ_cons, List.take_zero, List.drop_succ_cons, List.drop_zero]
                   repeat (go_big_quiet_step (fail))
                   refine wpQuiet_nil ?_
                   intro wz hz
                   obtain ⟨nq, rfl⟩ := hz
                   go_wp2_with fail
                   go_meet
                   exact ⟨by rw [HE.out]; simp [], hide ⟨HJ.out.1, HJ.out.2.2.2.trans (Only.ofBelow (below_drewN2 (Below.refl _ _) nq))⟩⟩
                 · subst g0 g1
                   refine wp_region_phase 9 #[true, true, true, true, true, true, true, true, true, false] (by kernel_rfl) (by kernel_rfl) ?_
                   simp only [List.take_succ_cons, List.take_zero, List.drop_succ_cons, List.drop_zero]
                   repeat (go_big_quiet_step (fail))
                   refine wpQuiet_nil ?_
                   intro wz hz
                   obtain ⟨nq, rfl⟩ := hz
                   go_wp2_with fail
                   go_meet
                   exact ⟨by rw [HE.out]; simp [g2], hide ⟨HJ.out.1, HJ.out.2.2.2.trans (Only.ofBelow (below_drewN2 (Below.refl _ _) nq))⟩⟩
               · subst g0
                 refine wp_region_phase 9 #[true, true, true, true, true, true, true, true, true, false] (by kernel_rfl) (by kernel_rfl) ?_
                 simp only [List.take_succ_cons, List.take_zero, List.drop_succ_cons, List.drop_zero]
                 repeat (go_big_quiet_step (fail))
                 refine wpQuiet_nil ?_
                 intro wz hz
                 obtain ⟨nq, rfl⟩ := hz
                 go_wp2_with fail
                 go_meet
                 exact ⟨by rw [HE.out]; simp [g1], hide ⟨HJ.out.1, HJ.out.2.2.2.trans (Only.ofBelow (below_drewN2 (Below.refl _ _) nq))⟩⟩
             · skip
               refine wp_region_phase 9 #[true, true, true, true, true, true, true, true, true, false] (by kernel_rfl) (by kernel_rfl) ?_
               simp only [List.take_succ_cons, List.take_zero, List.drop_succ_cons, List.drop_zero]
               repeat (go_big_quiet_step (fail))
               refine wpQuiet_nil ?_
               intro wz hz
               obtain ⟨nq, rfl⟩ := hz
               go_wp2_with fail
               go_meet
               exact ⟨by rw [HE.out]; simp [g0], hide ⟨HJ.out.1, HJ.out.2.2.2.trans (Only.ofBelow (below_drewN2 (Below.refl _ _) nq))⟩⟩
            case rest =>
             obtain ⟨rfl, HB2⟩ := hcut
             rename World => wy
             clear HE
             by_cases hk : Lib.keeps d (m + 1 + (m2 + 1)) = true
             · rw [hk]
               have HKK := hide hk
               clear hk
               obtain ⟨⟨p0, p1, p2⟩, _⟩ := HC.out wy HB2.out.1
               obtain ⟨u0, hu0⟩ := HB2.out.1.cell (kk * 3) (by omega)
               obtain ⟨u1, hu1⟩ := HB2.out.1.cell (kk * 3 + 1) (by omega)
               obtain ⟨u2, hu2⟩ := HB2.out.1.cell (kk * 3 + 2) (by omega)
               have f0 := HB2.out.1.fz (kk * 3)
               have f1 := HB2.out.1.fz (kk * 3 + 1)
               have f2 := HB2.out.1.fz (kk * 3 + 2)
               have k1 : (kk : Int) < (n : Int) := by omega
               have k2 : (0 : Int) ≤ (kk : Int) := by omega
               go_wp2_with fail
               exact ⟨⟨kk + 1, m2 + 1, dk.setIfInBounds kk (x0, x1, x2), _, by go_num, by go_num, by omega, hide ⟨((HB2.out.1.upd (kk * 3) _).upd (kk * 3 + 1) _).upd (kk * 3 + 2) _, HJ.out.2.1.set kk (x0, x1, x2), by have := HJ.out.2.2.1.keep (by rw [hn.out]; omega) HKK.out; rwa [HX.out] at this, HB2.out.2.trans (only3 wy g _ _ _ _ _ _)⟩⟩, by simp [intOf]; omega⟩
             · have hk' : Lib.keeps d (m + 1 + (m2 + 1)) = false := by simpa using hk
               rw [hk']
               have HKK := hide hk'
               clear hk hk'
               go_wp2_with fail
               exact ⟨⟨kk, m2 + 1, dk, f', by go_num, by go_num, by omega, hide ⟨HB2.out.1, HJ.out.2.1, HJ.out.2.2.1.skip HKK.out, HB2.out.2⟩⟩, by simp [intOf]; omega⟩
          · have l0 : ¬ (m2 : Int) + 1 < ((n - (m + 1) : Nat) : Int) := by omega
            have hend : m + 1 + (m2 + 1) = n := by omega
            rw [hend] at HJ
            obtain ⟨f2, hM2, hF2, hO2⟩ := set_cells (List.replicate ((n - kk) * 3) (.int .i64 0)) (kk * 3) HJ.out.1
            have hcl := fun ty => clear_run wj ty g (kk * 3) (n - kk) (cap - kk) (by omega) (fun j hj => by obtain ⟨u, hu⟩ := HJ.out.1.cell (kk * 3 + j) (by omega); rw [hu]; rfl) (fun j _ => HJ.out.1.fz _)
            have HZ := hide (And.intro hM2 (And.intro hF2 hO2))
            have k1 : kk ≤ n := by omega
            have k2 : kk ≤ cap := by omega
            have k3 : (kk : Int) ≤ (n : Int) := by omega
            have k4 : (kk : Int) ≤ (cap : Int) := by omega
            clear hM2 hF2 hO2 hs
            go_wp2
            go_ret
            obtain ⟨hM2, hF2, hO2⟩ := HZ.out
            have I := HJ.out.2.2.1
            refine ⟨by rw [I.len]; rfl, rd_low (n := n) (dk := dk) hM2 (by omega) (by rw [I.len]; omega) (fun j hj => I.low j (by rw [I.len] at hj; exact hj)) (fun j hj => ?_), HJ.out.2.2.2.trans hO2, _, hM2⟩
            rw [I.len] at hj
            rw [hF2 _ (by omega), hF2 _ (by omega), hF2 _ (by omega)]
            exact HJ.out.2.1 j (by rw [I.size, hn.out]; omega)
    · have j0 : ¬ (m : Int) + 1 < (n : Int) := by omega
      obtain rfl : n = m + 1 := by omega
      go_wp2
      go_ret
      obtain ⟨e1, e2⟩ := rd_all hn.out HK.out.1 (by omega) hF.out HK.out.2.2
      exact ⟨by rw [e1]; rfl, e2, Only.ofBelow HK.out.2.1, _, HK.out.1⟩
theorem rdE_cells {W : World} {B b cap : Nat} {X : List EdT} (h : W.ownsRow B 61 3 (.slice (some ⟨b, 0, none⟩) X.length cap) X.length (X.flatMap encE)) (j : Nat) (hj : j < X.length) : W.cell? ⟨b, j * 3, none⟩ = some (.int .i64 X[j].1) ∧ W.cell? ⟨b, j * 3 + 1, none⟩ = some (.int .i64 X[j].2.1) ∧ W.cell? ⟨b, j * 3 + 2, none⟩ = some (.int .i64 X[j].2.2) := by
 have hn : ∀ r, r < 3 → W.cell? ⟨b, j * 3 + r, none⟩ = (encE X[j])[r]? := fun r hr => by
  have c := h.cellAt (j * 3 + r) (show j * 3 + r < X.length * 3 by omega)
  rw [c, flat_get encE 3 encE_len X j r hj hr]
 exact ⟨hn 0 (by omega), hn 1 (by omega), hn 2 (by omega)⟩
theorem rdE_only {W W' : World} {R : Nat → Prop} {ao : Option Addr} {L : List EdT} (h : RdE W ao L) (ho : Only W W' R) (hn : ∀ g o, ao = some ⟨g, o, none⟩ → ¬ R g) : RdE W' ao L := fun j hj => by
 obtain ⟨g, o, e, c0, c1, c2⟩ := h j hj
 have hb := World.block_lt_of_cell? W _ c0
 have k := ho.block g hb (hn g o e)
 exact ⟨g, o, e, (World.cell?_of_block (a := ⟨g, o + j * 3, none⟩) k).trans c0, (World.cell?_of_block (a := ⟨g, o + j * 3 + 1, none⟩) k).trans c1, (World.cell?_of_block (a := ⟨g, o + j * 3 + 2, none⟩) k).trans c2⟩
theorem row_block {W : World} {B n : Nat} {v : Value} {L : List EdT} (h : W.ownsRow B 61 3 v n (L.flatMap encE)) (hn : n = L.length) : (v = .slice none 0 0 ∧ L = []) ∨ ∃ g cap f, v = .slice (some ⟨g, 0, none⟩) n cap ∧ n ≤ cap ∧ B ≤ g ∧ Mrw W g 61 (cap * 3) f (cap * 3) ∧ EdF f L.toArray := by
 rcases h.2 with ⟨rfl, h0⟩ | ⟨g, cap, cur, rfl, hB, hb, hnc, hcm, hcs, htake⟩
 · exact .inl ⟨rfl, List.eq_nil_of_length_eq_zero (by omega)⟩
 · refine .inr ⟨g, cap, fun c => cur[c]?.getD default, rfl, hnc, hB, ⟨cur, hb, hcs, fun j hj => ?_⟩, fun j hj => ?_⟩
   · show cur[j]? = some (cur[j]?.getD default)
     rw [Array.getElem?_eq_getElem (by omega)]; rfl
   · have hj' : j < L.length := by simpa using hj
     subst hn
     have c := rdE_cells h j hj'
     have e : L.toArray[j]! = L[j] := by rw [getElem!_pos _ j (by simpa using hj')]; simp
     rw [e]
     have k : ∀ r, r < 3 → W.cell? ⟨g, j * 3 + r, none⟩ = some (cur[j * 3 + r]?.getD default) := fun r hr => by
      have : j * 3 + r < cur.size := by omega
      rw [cell_of hb (Array.getElem?_eq_getElem this), Array.getElem?_eq_getElem this]; rfl
     obtain ⟨c0, c1, c2⟩ := c
     have k0 := k 0 (by omega)
     have k1 := k 1 (by omega)
     have k2 := k 2 (by omega)
     rw [Nat.add_zero] at k0
     exact ⟨Option.some.inj (k0.symm.trans c0), Option.some.inj (k1.symm.trans c1), Option.some.inj (k2.symm.trans c2)⟩
open Go.Shelf Go.Sort
theorem row_cut {w : World} {B g cap n : Nat} {e : TypeId} {sz : Nat} {xs : List Value} (h : w.ownsRow B e sz (.slice (some ⟨g, 0, none⟩) n cap) n xs) (m : Nat) (hm : m ≤ n) : w.ownsRow B e sz (.slice (some ⟨g, 0, none⟩) m cap) m (xs.take (m * sz)) := by
 have hle : m * sz ≤ n * sz := Nat.mul_le_mul_right _ hm
 refine ⟨by rw [List.length_take, h.1]; omega, ?_⟩
 rcases h.2 with ⟨hv, _⟩ | ⟨g', cap', cur, hv, hb, hg, h1, h2, h3, h4⟩
 · cases hv
 · cases hv
   exact .inr ⟨g, cap, cur, rfl, hb, hg, by omega, h2, h3, by rw [← h4, List.take_take, Nat.min_eq_left hle]⟩
def sortI (L : List Int) : List Int := L.mergeSort fun x y => decide (x ≤ y)
def riseL (L : List Int) : List Int := Lib.compact (sortI L)
theorem sortI_len (L : List Int) : (sortI L).length = L.length := List.length_mergeSort _
theorem compact_len {α : Type} [DecidableEq α] [Inhabited α] (zs : List α) : (Lib.compact zs).length ≤ zs.length := by
 unfold Lib.compact Lib.compactUpTo
 rw [List.length_map]
 exact Nat.le_trans (List.length_filter_le _ _) (by simp)
theorem ltI_is : (fun x y : Int => !(ltOf Lib.compareInt) y x) = fun x y => decide (x ≤ y) := by
 funext x y
 unfold ltOf
 rcases cmp_pos y x with ⟨h, e⟩ | ⟨h, e⟩ | ⟨h, e⟩ <;> rw [e] <;> simp <;> omega
theorem ltI_iff (x y : Int) : ltOf Lib.compareInt x y = true ↔ x < y := by
 unfold ltOf
 rcases cmp_pos x y with ⟨h, e⟩ | ⟨h, e⟩ | ⟨h, e⟩ <;> rw [e] <;> simp <;> omega
theorem ltI_not (x y : Int) : ltOf Lib.compareInt x y = false ↔ ¬ x < y := by rw [← ltI_iff, Bool.not_eq_true]
theorem swoI : SWO (ltOf Lib.compareInt) where
 irrefl x := by rw [ltI_not]; omega
 trans x y z h1 h2 := by rw [ltI_iff] at *; omega
 ntrans x y z h1 h2 := by rw [ltI_not] at *; omega
theorem row_partsI {w : World} {B g cap n : Nat} {L : List Int} (hn : n = L.length) (hv : w.ownsRow B 3 1 (.slice (some ⟨g, 0, none⟩) n cap) n (L.map (Value.int .i64))) : ∃ cur, B ≤ g ∧ w.heap[g]? = some (.cells cur 3 (0, 0)) ∧ L.length ≤ cap ∧ cap ≤ maxLen ∧ cur.size = cap * 1 ∧ cur.toList.take L.length = L.map (Value.int .i64) := by
 subst hn
 rcases hv.2 with ⟨hv, _⟩ | ⟨g', cap', cur, hv, hb, hg, h1, h2, h3, h4⟩
 · cases hv
 · cases hv
   exact ⟨cur, hb, hg, h1, h2, h3, by rw [← h4, Nat.mul_one]⟩
theorem sortI_any (W : World) (B g cap n : Nat) (L : List Int) (hn : n = L.length) (hv : W.ownsRow B 3 1 (.slice (some ⟨g, 0, none⟩) n cap) n (L.map (Value.int .i64))) (hl : n ≤ 4194304) :
 Calls Tryz.prog 157 #[.slice (some ⟨g, 0, none⟩) n cap, .func (.func 145) #[] #[]] W fun e w' => e = .returned (.tuple #[]) ∧ w'.ownsRow B 3 1 (.slice (some ⟨g, 0, none⟩) n cap) n ((sortI L).map (Value.int .i64)) ∧ W.grownBy w' (some g) := by
 obtain ⟨cur, hB, hb, h1, h2, h3, h4⟩ := row_partsI hn hv
 subst hn
 have hg : g < W.heap.size := (Array.getElem?_eq_some_iff.1 hb).1
 have eg : ∀ args w, (callFunc 145 args).run Tryz.prog w = .ok (.enter 145 args) w := enters_of Tryz.func145 (by kernel_rfl) rfl
 have H := Tryz.slices_SortFunc_total (Value.int .i64) (fun _ => rfl) Lib.compareInt swoI 145 #[] g 0 cap L.toArray W eg
  (fun m os dk _ x y => (cmpi_any x y _).mono fun _ _ ⟨he, hw⟩ => ⟨he, 0, #[], by rw [hw]; simp [grow, World.drewN]⟩) (holds_of_blockI hb h4) hg (by simp; omega) (fun x y a b => by rw [ltI_not] at a b; omega)
 have e1 : L.toArray.size = L.length := by simp
 rw [e1, ltI_is] at H
 refine Calls.mono H ?_
 rintro e w' ⟨rfl, k, os, rfl⟩
 exact ⟨rfl, ownsRow_sortedI (ts := sortI L) (ss := L) (sortI_len L) hB hb h1 h2 h3, grownBy_sortedI _⟩
theorem compactI_any (W : World) (B g cap n : Nat) (L : List Int) (hn : n = L.length) (hv : W.ownsRow B 3 1 (.slice (some ⟨g, 0, none⟩) n cap) n (L.map (Value.int .i64))) (hl : n ≤ 4194304) :
 Calls Tryz.prog 149 #[.slice (some ⟨g, 0, none⟩) n cap] W fun e w' => e = .returned (.slice (some ⟨g, 0, none⟩) (Lib.compact L).length cap) ∧ w'.ownsRow B 3 1 (.slice (some ⟨g, 0, none⟩) (Lib.compact L).length cap) (Lib.compact L).length ((Lib.compact L).map (Value.int .i64)) ∧ W.grownBy w' (some g) := by
 obtain ⟨cur, hB, hb, h1, h2, h3, h4⟩ := row_partsI hn hv
 subst hn
 refine (Tryz.slices_Compact_int g 0 cap L W (holds_of_blockI hb h4) (by omega) h1).mono ?_
 rintro e w' ⟨rfl, q, hw⟩
 have hc := compact_len L
 have hlen : (Lib.compact L ++ List.replicate (L.length - (Lib.compact L).length) 0).length = L.length := by
  rw [List.length_append, List.length_replicate]; omega
 have g0 : ∀ W : World, grow W #[] = W := fun W => by simp [grow]
 rw [← g0 (putRow _ _ _ _ _)] at hw
 have hrow := ownsRow_sortedI (n := q) (os := #[]) hlen hB hb h1 h2 h3
 rw [← hw] at hrow
 have hr := row_cut hrow _ hc
 rw [Nat.mul_one, List.map_append, List.take_left' (by simp)] at hr
 exact ⟨rfl, hr, by rw [hw]; exact grownBy_sortedI _⟩
theorem orderedI_any (w : World) (ao : Option Addr) (c : Nat) (L : List Int) (hA : Hid (RdN w ao L)) (hl : L.length ≤ 4194304) :
 Calls Tryz.prog 144 #[.slice ao L.length c, .func (.func 145) #[] #[]] w fun e w' => ∃ g' c', e = .returned (.slice (some ⟨g', 0, none⟩) (riseL L).length c') ∧ w'.ownsRow w.heap.size 3 1 (.slice (some ⟨g', 0, none⟩) (riseL L).length c') (riseL L).length ((riseL L).map (Value.int .i64)) ∧ Below w.heap.size w w' := by
 obtain ⟨i9, hi9, hz90, hz91, hz92⟩ := info_parts info3
 obtain ⟨m, hm⟩ : ∃ m, m = L.length := ⟨_, rfl⟩
 have HL := hide hm
 rw [← hm]
 rw [← hm] at hl
 clear hm
 go_enter Tryz.func144, Tryz.ntmps144
 go_wp2_with (at_make; refine wpList_make_full _ rfl _ _ 22 rfl w.heap.size 3 i9 (.int .i64 0) 1 Tryz.underlying22 hi9 hz90 hz91 _ _ _ _ m rfl rfl (by go_num) (by go_num) (by rw [hz92]; omega) (by unfold maxLen; omega) (Nat.le_refl _) ?_)
 intro w1 ho hg
 have D1 : Below w.heap.size w w1 := (Below.refl _ _).grown hg (Nat.le_refl _) (by intro k hk; cases hk)
 have hxy : ∃ cur : List Value, w1.heap[w.heap.size]? = some (.cells cur.toArray 3 (0, 0)) ∧ cur.length = m := by
  rcases ho.2 with ⟨hv, _⟩ | ⟨g', cap', cur, hv, hb, hg, h1, h2, h3, h4⟩
  · cases hv
  · cases hv
    exact ⟨cur.toList, by simpa using hg, by simpa using h3⟩
 obtain ⟨cur, hcur, hcl⟩ := hxy
 obtain ⟨X, hX⟩ : ∃ X, X = L.map (Value.int .i64) := ⟨_, rfl⟩
 have hXl : X.length = m := by rw [hX, List.length_map, HL.out]
 have HX := hide (And.intro hX hXl)
 have HC := hide (And.intro hcur (And.intro hcl D1))
 clear ho hg D1 hcur hcl hX hXl
 go_wp2_with (refine wpList_copy_splice rfl (.tmp 9) (.tmp 10) 22 22 rfl 3 Tryz.underlying22 (by rw [hi9]; simp [hz91]) _ _ _ _ _ _ rfl rfl w.heap.size 0 cur 3 HC.out.1 X (by rw [HX.out.2]; exact (Nat.min_self m).symm) ?_ (by rw [HX.out.2, HC.out.2.1]; omega) ?_ w.heap.size w HC.out.2.2 (Nat.le_refl _) ?_)
 · intro hp
   have h0 : 0 < L.length := by rw [← HL.out, ← HX.out.2]; exact hp
   obtain ⟨g, o, rfl, _⟩ := hA.out 0 h0
   refine ⟨_, rfl, fun j v hv => ?_⟩
   rw [HX.out.1, List.getElem?_map] at hv
   obtain ⟨x, hx, rfl⟩ := Option.map_eq_some_iff.1 hv
   obtain ⟨hj, rfl⟩ := List.getElem?_eq_some_iff.1 hx
   obtain ⟨g', o', e, c0⟩ := (hA.out.on HC.out.2.2) j hj
   cases e
   have ea : Addr.add ⟨g, o, none⟩ j = ⟨g, o + j, none⟩ := by
    unfold Addr.add
    by_cases q : j = 0
    · subst q; simp
    · simp [q]
   rw [ea]
   exact c0
 · intro v hv
   rw [HX.out.1] at hv
   obtain ⟨x, _, rfl⟩ := List.mem_map.1 hv
   rfl
 intro w2 HG2 d2
 have hr2 : w2.ownsRow w.heap.size 3 1 (.slice (some ⟨w.heap.size, 0, none⟩) m m) m (L.map (Value.int .i64)) := by
  have e : splice cur 0 X = L.map (Value.int .i64) := by
   unfold splice
   rw [List.take_zero, List.drop_eq_nil_of_le (by rw [HX.out.2, HC.out.2.1]; omega), List.nil_append, List.append_nil, HX.out.1]
  have hg := HG2.out
  rw [e] at hg
  exact ⟨by rw [List.length_map, ← HL.out]; omega, .inr ⟨_, m, _, rfl, Nat.le_refl _, hg, Nat.le_refl _, by unfold maxLen; omega, by simp [← HL.out], List.take_of_length_le (by simp [← HL.out])⟩⟩
 have HR := hide (And.intro hr2 d2)
 clear hr2 d2 HG2 HC
 go_wp2_with (go_at_call 157; refine (sortI_any _ w.heap.size w.heap.size m m L HL.out (by exact HR.out.1) hl).mono ?_; rintro e w3 ⟨rfl, hr3, hg3⟩)
 have HS := hide (And.intro hr3 (HR.out.2.grown hg3 HR.out.2.size (fun k hk => by cases hk; exact Nat.le_refl _)))
 clear hr3 hg3
 go_wp2_with (go_at_call 149; refine (compactI_any _ w.heap.size w.heap.size m m (sortI L) (by rw [sortI_len]; exact HL.out) (by exact HS.out.1) hl).mono ?_; rintro e w4 ⟨rfl, hr4, hg4⟩)
 go_ret
 exact ⟨_, _, rfl, hr4, HS.out.2.grown hg4 HS.out.2.size (fun k hk => by cases hk; exact Nat.le_refl _)⟩
theorem info59 : (Tryz.prog.info? 61).map (fun i => (i.zero, i.size, i.bytes)) = some (some (.agg #[.int .i64 0, .int .i64 0, .int .i64 0]), 3, 24) := by kernel_rfl
theorem run_copyE (w : World) (ty : TypeId) (g m dCap : Nat) (ao : Option Addr) (sCap : Nat) (L : List EdT) (hL : m = L.length) (cur : Array Value) (hg : w.heap[g]? = some (.cells cur 61 (0, 0))) (hcs : cur.size = m * 3) (hr : RdE w ao L) :
 (Builtin.copy_ #[23, 23] ty #[.slice (some ⟨g, 0, none⟩) m dCap, .slice ao m sCap]).run Tryz.prog w = .ok (goInt m) (w.setRow g (L.flatMap encE).toArray) := by
 obtain ⟨i5, hi5, _, hz51, _⟩ := info_parts info59
 have hm : Nat.min m m = m := Nat.min_self m
 have hfl : (L.flatMap encE).length = m * 3 := by rw [encE_flat, hL]
 have hst := run_storeCells_at Tryz.prog g 0 61 (L.flatMap encE) 0 cur w hg (by rw [hfl]; omega) (encE_one L)
 rw [hfl, Nat.zero_add, Nat.zero_add, List.take_zero, List.nil_append, List.drop_eq_nil_of_le (by simp [hcs]), List.append_nil] at hst
 by_cases h0 : L = []
 · subst h0
   obtain rfl : m = 0 := hL
   have hl : ∀ (x : Addr), (loadCells x 0).run Tryz.prog w = .ok #[] w := fun x => by simpa using run_loadCells_list (P := Tryz.prog) w x [] (by simp)
   obtain rfl : cur = #[] := Array.eq_empty_of_size_eq_zero (by omega)
   rw [show w.setRow g (([] : List EdT).flatMap encE).toArray = w from setRow_self w g #[] 61 (0, 0) hg]
   cases ao <;> simp [Builtin.copy_, run_underlying Tryz.underlying23, Builtin.lenOf, Builtin.firstCells, sizeOf, typeInfo, hi5, storeCells, hl]
 · obtain ⟨a, o, rfl, _⟩ := hr 0 (List.length_pos_iff.2 h0)
   have hl := run_loadCells_list (P := Tryz.prog) w ⟨a, o, none⟩ (L.flatMap encE) (fun j v hv => by
    have ea : Addr.add ⟨a, o, none⟩ j = ⟨a, o + j, none⟩ := by
     unfold Addr.add
     by_cases q : j = 0
     · subst q; simp
     · simp [q]
    rw [ea]
    exact edges_at hr j v hv)
   rw [hfl] at hl
   simp [Builtin.copy_, run_underlying Tryz.underlying23, Builtin.lenOf, Builtin.firstCells, sizeOf, typeInfo, hi5, hz51, hl, hst]
theorem wpList_copyE {w : World} {ops : Array Oper} {rest : List Oper} {o : Oper} {a : Act} {Q : Exit → Act → World → Prop} (hgd : o.guard = none) (d s : Operand)
 (ho : o.op = .call { callee := .builtin .copy, args := #[d, s], argTypes := #[23, 23] }) (g m dCap : Nat) (ao : Option Addr) (sCap : Nat) (L : List EdT) (hd : a.eval d = .slice (some ⟨g, 0, none⟩) m dCap) (hs : a.eval s = .slice ao m sCap) (hL : m = L.length)
 (cur : Array Value) (hg : w.heap[g]? = some (.cells cur 61 (0, 0))) (hcs : cur.size = m * 3) (hr : RdE w ao L) (B : Nat) (w0 : World) (hb : Below B w0 w) (hBg : B ≤ g)
 (h : ∀ w', Hid (w'.heap[g]? = some (.cells (L.flatMap encE).toArray 61 (0, 0)) ∧ Below B w0 w') → wpList Tryz.prog ops Q rest (a.put o.dst (goInt m)) w') : wpList Tryz.prog ops Q (o :: rest) a w := by
 refine wpList_plain hgd fun K hK => ?_
 have hrun := run_copyE w o.type g m dCap ao sCap L hL cur hg hcs hr
 unfold Oper.wp
 simp [execOp, ho, resolve, invoke, builtin, hd, hs, hrun, Result.andThen]
 exact hK _ _ (h _ (hide ⟨setRow_heap w g _ _ 61 _ hg, below_setRow hb hBg _⟩))
def riseE (L : List EdT) : List EdT := Lib.compact (sortE L)
theorem row_ofRd {w : World} {B g cap : Nat} {f : Nat → Value} {K : List EdT} (hM : Mrw w g 61 (cap * 3) f (cap * 3)) (hr : RdE w (some ⟨g, 0, none⟩) K) (hk : K.length ≤ cap) (hc : cap ≤ maxLen) (hB : B ≤ g) : w.ownsRow B 61 3 (.slice (some ⟨g, 0, none⟩) K.length cap) K.length (K.flatMap encE) := by
 obtain ⟨cur, hg, hz, _⟩ := hM
 refine ⟨encE_flat K, .inr ⟨g, cap, cur, rfl, hB, hg, hk, hc, hz, ?_⟩⟩
 have hfl := encE_flat K
 have hle : K.length * 3 ≤ cap * 3 := Nat.mul_le_mul_right _ hk
 apply List.ext_getElem?
 intro j
 by_cases hj : j < K.length * 3
 · rw [List.getElem?_take_of_lt hj, List.getElem?_eq_getElem (by omega : j < (K.flatMap encE).length)]
   have c := edges_at hr j _ (List.getElem?_eq_getElem (by omega : j < (K.flatMap encE).length))
   rw [Nat.zero_add] at c
   have hjc : j < cur.size := by omega
   have e := cell_of hg (Array.getElem?_eq_getElem hjc)
   rw [e] at c
   rw [Array.getElem?_toList, Array.getElem?_eq_getElem hjc, Option.some.inj c]
 · rw [List.getElem?_take_eq_none (by omega), List.getElem?_eq_none (by omega)]
theorem compactE_own (w : World) (B g cap n : Nat) (L : List EdT) (hn : n = L.length) (hv : w.ownsRow B 61 3 (.slice (some ⟨g, 0, none⟩) n cap) L.length (L.flatMap encE)) (hl : n ≤ 4194304) :
 Calls Tryz.prog 160 #[.slice (some ⟨g, 0, none⟩) n cap] w fun e w' => e = .returned (.slice (some ⟨g, 0, none⟩) (Lib.compact L).length cap) ∧ w'.ownsRow B 61 3 (.slice (some ⟨g, 0, none⟩) (Lib.compact L).length cap) (Lib.compact L).length ((Lib.compact L).flatMap encE) ∧ Only w w' (fun k => k = g) := by
 subst hn
 have hmax : cap ≤ maxLen ∧ B ≤ g := by
  rcases hv.2 with ⟨hv, _⟩ | ⟨g', cap', cur, hv, hb, hg, h1, h2, h3, h4⟩
  · cases hv
  · cases hv; exact ⟨h2, hb⟩
 rcases row_block hv rfl with ⟨hq, _⟩ | ⟨g', cap', f, hq, hc, _, hM, hF⟩
 · cases hq
 · cases hq
   refine (compactA w g cap L.length L.toArray (hide (by simp)) f (hide hM) (hide hF) hc hl).mono ?_
   rintro e w' ⟨rfl, hr, ho, f', hM'⟩
   have e0 : Lib.compactUpTo L.toArray L.length = Lib.compact L := by simp [Lib.compact]
   rw [e0] at hr ⊢
   exact ⟨rfl, row_ofRd hM' hr (Nat.le_trans (compact_len L) hc) hmax.1 hmax.2, ho⟩
theorem orderedE_any (w : World) (ao : Option Addr) (c : Nat) (L : List EdT) (hA : Hid (RdE w ao L)) (hl : L.length ≤ 4194304) :
 Calls Tryz.prog 146 #[.slice ao L.length c, .func (.func 147) #[] #[]] w fun e w' => ∃ g' c', e = .returned (.slice (some ⟨g', 0, none⟩) (riseE L).length c') ∧ w'.ownsRow w.heap.size 61 3 (.slice (some ⟨g', 0, none⟩) (riseE L).length c') (riseE L).length ((riseE L).flatMap encE) ∧ Below w.heap.size w w' := by
 obtain ⟨i5, hi5, hz50, hz51, hz52⟩ := info_parts info59
 obtain ⟨m, hm⟩ : ∃ m, m = L.length := ⟨_, rfl⟩
 have HL := hide hm
 rw [← hm]
 rw [← hm] at hl
 clear hm
 go_enter Tryz.func146, Tryz.ntmps146
 go_wp2_with (at_make; refine wpList_make_full _ rfl _ _ 23 rfl w.heap.size 61 i5 (.agg #[.int .i64 0, .int .i64 0, .int .i64 0]) 3 Tryz.underlying23 hi5 hz50 hz51 _ _ _ _ m rfl rfl (by go_num) (by go_num) (by rw [hz52]; omega) (by unfold maxLen; omega) (Nat.le_refl _) ?_)
 intro w1 ho hg
 have D1 : Below w.heap.size w w1 := (Below.refl _ _).grown hg (Nat.le_refl _) (by intro k hk; cases hk)
 have hxy : ∃ cur, w1.heap[w.heap.size]? = some (.cells cur 61 (0, 0)) ∧ cur.size = m * 3 := by
  rcases ho.2 with ⟨hv, _⟩ | ⟨g', cap', cur, hv, hb, hg, h1, h2, h3, h4⟩
  · cases hv
  · cases hv
    exact ⟨cur, hg, h3⟩
 obtain ⟨cur, hcur, hcl⟩ := hxy
 have HC := hide (And.intro hcur (And.intro hcl D1))
 clear ho hg D1 hcur hcl
 go_wp2_with (refine wpList_copyE rfl (.tmp 9) (.tmp 10) rfl w.heap.size m m ao c L rfl rfl HL.out cur HC.out.1 HC.out.2.1 (hA.out.on HC.out.2.2) w.heap.size w HC.out.2.2 (Nat.le_refl _) ?_)
 intro w2 HG2
 have hr2 : w2.ownsRow w.heap.size 61 3 (.slice (some ⟨w.heap.size, 0, none⟩) m m) L.length (L.flatMap encE) := by
  have hfl := encE_flat L
  rw [← HL.out] at hfl ⊢
  exact ⟨hfl, .inr ⟨_, m, _, rfl, Nat.le_refl _, HG2.out.1, Nat.le_refl _, by unfold maxLen; omega, by simpa using hfl, List.take_of_length_le (by simpa using Nat.le_of_eq hfl)⟩⟩
 have HR := hide (And.intro hr2 HG2.out.2)
 clear hr2 HG2 HC
 have hl2 : L.length ≤ 4194304 := by rw [← HL.out]; exact hl
 go_wp2_with (go_at_call 159; refine (sortE_any _ w.heap.size _ L (by exact HR.out.1) (by rw [← HL.out]; exact hl)).mono ?_; rintro e w3 ⟨rfl, hr3, hg3⟩)
 have HS := hide (And.intro hr3 (HR.out.2.trans (hg3.toBelow HR.out.2.size (fun k hk => by cases hk; exact Nat.le_refl _))))
 clear hr3 hg3
 refine (compactE_own w3 w.heap.size w.heap.size m m (sortE L) (by rw [sortE_len]; exact HL.out) (by rw [sortE_len]; exact HS.out.1) hl).mono ?_
 rintro e w4 ⟨rfl, hr4, ho4⟩
 have HT := hide (And.intro hr4 (HS.out.2.trans (ho4.toBelow HS.out.2.size (fun k hk => Nat.le_of_eq hk.symm))))
 clear hr4 ho4
 go_wp2_with fail
 go_ret
 exact ⟨_, _, rfl, HT.out⟩
theorem states_any (w : World) (ao : Option Addr) (c : Nat) (L : List Int) (hA : Hid (RdN w ao L)) (hl : L.length ≤ 4194304) :
 Calls Tryz.prog 120 #[.slice ao L.length c] w fun e w' => ∃ g' c', e = .returned (.slice (some ⟨g', 0, none⟩) (riseL L).length c') ∧ w'.ownsRow w.heap.size 3 1 (.slice (some ⟨g', 0, none⟩) (riseL L).length c') (riseL L).length ((riseL L).map (Value.int .i64)) ∧ Below w.heap.size w w' := by
 have T := orderedI_any w ao c L hA hl
 go_enter Tryz.func120, Tryz.ntmps120
 go_wp2_with (go_at_call 144; refine T.mono ?_; rintro e w1 ⟨g', c', rfl, hr, d⟩)
 go_ret
 exact ⟨_, _, rfl, hr, d⟩
theorem edges_any (w : World) (ao : Option Addr) (c : Nat) (L : List EdT) (hA : Hid (RdE w ao L)) (hl : L.length ≤ 4194304) :
 Calls Tryz.prog 121 #[.slice ao L.length c] w fun e w' => ∃ g' c', e = .returned (.slice (some ⟨g', 0, none⟩) (riseE L).length c') ∧ w'.ownsRow w.heap.size 61 3 (.slice (some ⟨g', 0, none⟩) (riseE L).length c') (riseE L).length ((riseE L).flatMap encE) ∧ Below w.heap.size w w' := by
 have T := orderedE_any w ao c L hA hl
 go_enter Tryz.func121, Tryz.ntmps121
 go_wp2_with (go_at_call 146; refine T.mono ?_; rintro e w1 ⟨g', c', rfl, hr, d⟩)
 go_ret
 exact ⟨_, _, rfl, hr, d⟩
theorem rdE_own {W : World} {B b cap : Nat} {X : List EdT} (h : W.ownsRow B 61 3 (.slice (some ⟨b, 0, none⟩) X.length cap) X.length (X.flatMap encE)) : RdE W (some ⟨b, 0, none⟩) X := fun j hj => by
 have := rdE_cells h j hj
 exact ⟨b, 0, rfl, by simpa using this⟩
theorem own_rdE {W : World} {B c : Nat} {b : Option Addr} {X : List EdT} (h : W.ownsRow B 61 3 (.slice b X.length c) X.length (X.flatMap encE)) : RdE W b X := by
 rcases h.2 with ⟨hv, hn⟩ | ⟨g, cap, cur, hv, _⟩
 · intro j hj; omega
 · cases hv
   exact rdE_own h
theorem own_on {w w' : World} {B C g cap n : Nat} {e : TypeId} {sz : Nat} {xs : List Value} (h : w.ownsRow B e sz (.slice (some ⟨g, 0, none⟩) n cap) n xs) (d : Below C w w') (hC : g < C) : w'.ownsRow B e sz (.slice (some ⟨g, 0, none⟩) n cap) n xs := by
 refine ⟨h.1, ?_⟩
 rcases h.2 with ⟨hv, _⟩ | ⟨g', cap', cur, hv, hb, hg, rest⟩
 · cases hv
 · cases hv
   exact .inr ⟨g, cap, cur, rfl, hb, (d.block _ hC).trans hg, rest⟩
theorem own_at {w : World} {B g cap n : Nat} {e : TypeId} {sz : Nat} {xs : List Value} (h : w.ownsRow B e sz (.slice (some ⟨g, 0, none⟩) n cap) n xs) : B ≤ g ∧ g < w.heap.size := by
 rcases h.2 with ⟨hv, _⟩ | ⟨g', cap', cur, hv, hb, hg, rest⟩
 · cases hv
 · cases hv
   exact ⟨hb, (Array.getElem?_eq_some_iff.1 hg).1⟩
theorem own_only {w w' : World} {B q g cap n : Nat} {e : TypeId} {sz : Nat} {xs : List Value} (h : w.ownsRow B e sz (.slice (some ⟨g, 0, none⟩) n cap) n xs) (ho : Only w w' (fun k => k = q)) (hq : g ≠ q) : w'.ownsRow B e sz (.slice (some ⟨g, 0, none⟩) n cap) n xs :=
 row_only h ho fun k hk => by cases hk; exact hq
theorem set5 (w : World) (b : Nat) (v0 v1 v2 v3 v4 u0 u1 u2 u3 u4 : Value) (t : TypeId) (h : w.heap[b]? = some (.cells #[v0, v1, v2, v3, v4] t (0, 0))) :
 (((((w.setCell ⟨b, 0, none⟩ u0).setCell ⟨b, 1, none⟩ u1).setCell ⟨b, 2, none⟩ u2).setCell ⟨b, 3, none⟩ u3).setCell ⟨b, 4, none⟩ u4).heap[b]? = some (.cells #[u0, u1, u2, u3, u4] t (0, 0)) :=
 heap_setCell_same _ _ 4 _ t _ (heap_setCell_same _ _ 3 _ t _ (heap_setCell_same _ _ 2 _ t _ (heap_setCell_same _ _ 1 _ t _ (heap_setCell_same _ _ 0 _ t _ h))))
theorem only5 (w : World) (b : Nat) (u0 u1 u2 u3 u4 : Value) : Only w (((((w.setCell ⟨b, 0, none⟩ u0).setCell ⟨b, 1, none⟩ u1).setCell ⟨b, 2, none⟩ u2).setCell ⟨b, 3, none⟩ u3).setCell ⟨b, 4, none⟩ u4) (fun k => k = b) :=
 ((((only_set w _ 0 _).trans (only_set _ _ 1 _)).trans (only_set _ _ 2 _)).trans (only_set _ _ 3 _)).trans (only_set _ _ 4 _)
structure Own (B : Nat) (w : World) (g1 k1 g2 k2 g3 k3 : Nat) (S F : List Int) (E : List EdT) : Prop where
 s : w.ownsRow B 3 1 (.slice (some ⟨g1, 0, none⟩) S.length k1) S.length (S.map (Value.int .i64))
 f : w.ownsRow B 3 1 (.slice (some ⟨g2, 0, none⟩) F.length k2) F.length (F.map (Value.int .i64))
 e : w.ownsRow B 61 3 (.slice (some ⟨g3, 0, none⟩) E.length k3) E.length (E.flatMap encE)
 n12 : g1 ≠ g2
 n13 : g1 ≠ g3
 n23 : g2 ≠ g3
theorem inOrder_any (w : World) (n m : Int) (a1 a2 a3 : Option Addr) (c1 c2 c3 : Nat) (St Fi : List Int) (Ed : List EdT) (hA : Hid (RdA w a1 a2 a3 St Fi Ed)) (h1 : St.length ≤ 4194304) (h2 : Fi.length ≤ 4194304) (h3 : Ed.length ≤ 4194304) :
 Calls Tryz.prog 81 #[.agg #[.int .i64 n, .int .i64 m, .slice a1 St.length c1, .slice a2 Fi.length c2, .slice a3 Ed.length c3]] w fun e w' => ∃ g1 k1 g2 k2 g3 k3, e = .returned (.agg #[.int .i64 n, .int .i64 m, .slice (some ⟨g1, 0, none⟩) (riseL St).length k1, .slice (some ⟨g2, 0, none⟩) (riseL Fi).length k2, .slice (some ⟨g3, 0, none⟩) (riseE Ed).length k3]) ∧ Own w.heap.size w' g1 k1 g2 k2 g3 k3 (riseL St) (riseL Fi) (riseE Ed) ∧ Below w.heap.size w w' := by
 obtain ⟨W0, hW0⟩ : ∃ W0, (w.alloc (.cells #[.int .i64 n, .int .i64 m, .slice a1 St.length c1, .slice a2 Fi.length c2, .slice a3 Ed.length c3] 25)).alloc (.cells #[.int .i64 0, .int .i64 0, .slice none 0 0, .slice none 0 0, .slice none 0 0] 25) = W0 := ⟨_, rfl⟩
 have d0 : Below w.heap.size w W0 := by rw [← hW0]; exact ((Below.refl _ _).alloc (Nat.le_refl _) _).alloc (by simp) _
 have b0 : W0.heap[w.heap.size]? = some (.cells #[.int .i64 n, .int .i64 m, .slice a1 St.length c1, .slice a2 Fi.length c2, .slice a3 Ed.length c3] 25 (0, 0)) := by rw [← hW0]; exact (Below.heap_alloc _ _ _ (by simp)).trans (World.alloc_heap_new _ _)
 have b1 : W0.heap[w.heap.size + 1]? = some (.cells #[.int .i64 0, .int .i64 0, .slice none 0 0, .slice none 0 0, .slice none 0 0] 25 (0, 0)) := by
  rw [← hW0]
  have := World.alloc_heap_new (w.alloc (.cells #[.int .i64 n, .int .i64 m, .slice a1 St.length c1, .slice a2 Fi.length c2, .slice a3 Ed.length c3] 25)) (.cells #[.int .i64 0, .int .i64 0, .slice none 0 0, .slice none 0 0, .slice none 0 0] 25)
  simpa using this
 have z0 : W0.heap.size = w.heap.size + 2 := by rw [← hW0]; simp
 have HA := hide (hA.out.on d0)
 have HD := hide (And.intro d0 (And.intro b0 (And.intro b1 z0)))
 have CK := hide (fun (W2 : World) (d : Below W0.heap.size W0 W2) => show W2.cell? ⟨w.heap.size, 0, none⟩ = some (.int .i64 n) ∧ W2.cell? ⟨w.heap.size, 1, none⟩ = some (.int .i64 m) ∧ W2.cell? ⟨w.heap.size, 2, none⟩ = some (.slice a1 St.length c1) ∧ W2.cell? ⟨w.heap.size, 3, none⟩ = some (.slice a2 Fi.length c2) ∧ W2.cell? ⟨w.heap.size, 4, none⟩ = some (.slice a3 Ed.length c3) from by
  have e := blk_on HD.out.2.1 d
  exact ⟨cell_of e rfl, cell_of e rfl, cell_of e rfl, cell_of e rfl, cell_of e rfl⟩)
 have FK := hide (fun (W2 : World) (d : Below W0.heap.size W0 W2) => show W2.heap[w.heap.size + 1]? = some (.cells #[.int .i64 0, .int .i64 0, .slice none 0 0, .slice none 0 0, .slice none 0 0] 25 (0, 0)) from blk_on HD.out.2.2.1 d)
 have T1 := hide (fun (W2 : World) (d : Below W0.heap.size W0 W2) => states_any W2 a1 c1 St (hide (HA.out.s.on d)) h1)
 have T2 := hide (fun (W2 : World) (d : Below W0.heap.size W0 W2) => states_any W2 a2 c2 Fi (hide (HA.out.f.on d)) h2)
 have T3 := hide (fun (W2 : World) (d : Below W0.heap.size W0 W2) => edges_any W2 a3 c3 Ed (hide (HA.out.e.on d)) h3)
 generalize riseL St = S1 at T1 ⊢
 generalize riseL Fi = F1 at T2 ⊢
 generalize riseE Ed = E1 at T3 ⊢
 have S0 := CK.out W0 (Below.refl _ _)
 clear d0 b0 b1 z0
 go_enter Tryz.func81, Tryz.ntmps81
 go_upto_region 1 with fail
 go_region_held3 (fun W2 => W2.cell? ⟨w.heap.size, 0, none⟩ = some (.int .i64 n) ∧ W2.cell? ⟨w.heap.size, 1, none⟩ = some (.int .i64 m) ∧ W2.cell? ⟨w.heap.size, 2, none⟩ = some (.slice a1 St.length c1) ∧ W2.cell? ⟨w.heap.size, 3, none⟩ = some (.slice a2 Fi.length c2) ∧ W2.cell? ⟨w.heap.size, 4, none⟩ = some (.slice a3 Ed.length c3))
  (first | go_keep | assumption)
  ((first
   | (go_at_call_of 120 a1; refine (T1.out _ (by exact (Below.refl _ W0).drew)).mono ?_; rintro e wa ⟨g1, k1, rfl, hr1, da⟩; have da2 : Below W0.heap.size W0 wa := ⟨da.os, da.tape, da.output, da.size, da.block⟩; have S2 := CK.out wa da2; have H1 := hide (And.intro hr1 da2); clear hr1 da da2)
   | (go_at_call_of 120 a2; refine (T2.out wa H1.out.2).mono ?_; rintro e wb ⟨g2, k2, rfl, hr2, db⟩; have db2 : Below W0.heap.size W0 wb := H1.out.2.trans (db.mono H1.out.2.size); have S3 := CK.out wb db2; have H2 := hide (And.intro hr2 (And.intro db db2)); clear hr2 db db2)
   | (go_at_call_of 121 a3; refine (T3.out wb H2.out.2.2).mono ?_; rintro e wc ⟨g3, k3, rfl, hr3, dc⟩; have dc2 : Below W0.heap.size W0 wc := H2.out.2.2.trans (dc.mono H2.out.2.2.size); have S4 := CK.out wc dc2; have F3 := FK.out wc dc2; obtain ⟨o0, o1, o2, o3, o4⟩ := zd5 F3 rfl rfl rfl rfl rfl; have f0 : wc.frozen? ⟨w.heap.size + 1, 0, none⟩ = false := fz_of F3; have f1 : wc.frozen? ⟨w.heap.size + 1, 1, none⟩ = false := fz_of F3; have f2 : wc.frozen? ⟨w.heap.size + 1, 2, none⟩ = false := fz_of F3; have f3 : wc.frozen? ⟨w.heap.size + 1, 3, none⟩ = false := fz_of F3; have f4 : wc.frozen? ⟨w.heap.size + 1, 4, none⟩ = false := fz_of F3; have H3 := hide (And.intro hr3 (And.intro dc dc2)); clear hr3 dc dc2)))
 obtain ⟨W6, hW6⟩ : ∃ W6, (((((wc.setCell ⟨w.heap.size + 1, 0, none⟩ (.int .i64 n)).setCell ⟨w.heap.size + 1, 1, none⟩ (.int .i64 m)).setCell ⟨w.heap.size + 1, 2, none⟩ (.slice (some ⟨g1, 0, none⟩) S1.length k1)).setCell ⟨w.heap.size + 1, 3, none⟩ (.slice (some ⟨g2, 0, none⟩) F1.length k2)).setCell ⟨w.heap.size + 1, 4, none⟩ (.slice (some ⟨g3, 0, none⟩) E1.length k3)) = W6 := ⟨_, rfl⟩
 rw [hW6]
 have e6 : W6.heap[w.heap.size + 1]? = some (.cells #[.int .i64 n, .int .i64 m, .slice (some ⟨g1, 0, none⟩) S1.length k1, .slice (some ⟨g2, 0, none⟩) F1.length k2, .slice (some ⟨g3, 0, none⟩) E1.length k3] 25 (0, 0)) := by
  rw [← hW6]
  exact set5 _ _ _ _ _ _ _ _ _ _ _ _ 25 F3
 have O6 : Only wc W6 (fun k => k = w.heap.size + 1) := by
  rw [← hW6]
  exact only5 _ _ _ _ _ _ _
 have HZ := hide (And.intro e6 O6)
 clear o0 o1 o2 o3 o4 f0 f1 f2 f3 f4 F3 S2 S3 S4 hW6 e6 O6 T1 T2 T3
 go_wp2_with fail
 refine bodyPost_ret (results_cell_row (p := 2) (ty := 25) rfl _ _ (w.heap.size + 1) 25 _ (0, 0) _ rfl HZ.out.1 Tryz.underlying25 rfl (by kernel_rfl)) rfl ?_
 have O6 := HZ.out.2
 have z0 := HD.out.2.2.2
 have q1 := own_at H1.out.1
 have q2 := own_at H2.out.1
 have q3 := own_at H3.out.1
 have y1 := H1.out.2.size
 have y2 := H2.out.2.1.size
 have y3 := H3.out.2.1.size
 have zz : W0.drew.heap.size = W0.heap.size := rfl
 refine ⟨g1, k1, g2, k2, g3, k3, rfl, ⟨?_, ?_, ?_, by omega, by omega, by omega⟩, ?_⟩
 · exact own_only (own_on (own_on (ownsRow_base H1.out.1 (by omega)) H2.out.2.1 q1.2) H3.out.2.1 (by omega)) O6 (by omega)
 · exact own_only (own_on (ownsRow_base H2.out.1 (by omega)) H3.out.2.1 q2.2) O6 (by omega)
 · exact own_only (ownsRow_base H3.out.1 (by omega)) O6 (by omega)
 · exact (HD.out.1.trans (H3.out.2.2.mono (by omega))).trans (O6.toBelow (by omega) (fun k hk => by omega))
def imgF (back : Bool) (X : Nat) (sym : Int) (L : List EdT) : Nat := L.foldl (fun R e => if e.2.1 = sym ∧ hasB X (ends back e).1 = true then R ||| 2 ^ (ends back e).2.toNat else R) 0
theorem imgF_test (back : Bool) (X : Nat) (sym : Int) (L : List EdT) (q : Nat) : (imgF back X sym L).testBit q = true ↔ ∃ e ∈ L, e.2.1 = sym ∧ hasB X (ends back e).1 = true ∧ (ends back e).2.toNat = q := by
 suffices h : ∀ R : Nat, (L.foldl (fun (R : Nat) (e : EdT) => if e.2.1 = sym ∧ hasB X (ends back e).1 = true then R ||| 2 ^ (ends back e).2.toNat else R) R).testBit q = true ↔ R.testBit q = true ∨ ∃ e ∈ L, e.2.1 = sym ∧ hasB X (ends back e).1 = true ∧ (ends back e).2.toNat = q by
  unfold imgF
  rw [h]
  simp
 induction L with
 | nil => intro R; simp
 | cons a L ih =>
  intro R
  rw [List.foldl_cons, ih]
  by_cases hc : a.2.1 = sym ∧ hasB X (ends back a).1 = true
  · rw [if_pos hc, Nat.testBit_or, Nat.testBit_two_pow]
    simp only [Bool.or_eq_true, decide_eq_true_eq, List.mem_cons, exists_eq_or_imp]
    constructor
    · rintro ((h | h) | h)
      · exact .inl h
      · exact .inr (.inl ⟨hc.1, hc.2, h⟩)
      · exact .inr (.inr h)
    · rintro (h | ⟨_, _, h⟩ | h)
      · exact .inl (.inl h)
      · exact .inl (.inr h)
      · exact .inr h
  · rw [if_neg hc]
    simp only [List.mem_cons, exists_eq_or_imp]
    constructor
    · rintro (h | h)
      · exact .inl h
      · exact .inr (.inr h)
    · rintro (h | ⟨h1, h2, _⟩ | h)
      · exact .inl h
      · exact absurd ⟨h1, h2⟩ hc
      · exact .inr h
theorem may_parts {n m : Int} {St Fi : List Int} {Ed : List EdT} (h : mayA n m St Fi Ed = true) : (0 ≤ n ∧ n ≤ 4096) ∧ (0 ≤ m ∧ m ≤ 128) ∧ Ed.length ≤ 65536 ∧ St.all (inB n) = true ∧ Fi.all (inB n) = true ∧ ∀ e ∈ Ed, (0 ≤ e.1 ∧ e.1 < n) ∧ (0 ≤ e.2.1 ∧ e.2.1 < m) ∧ 0 ≤ e.2.2 ∧ e.2.2 < n := by
 unfold mayA at h
 simp only [Bool.and_eq_true, decide_eq_true_eq, inB_iff] at h
 obtain ⟨⟨⟨⟨⟨h1, h2⟩, h3⟩, h4⟩, h5⟩, h6⟩ := h
 refine ⟨by omega, by omega, h3, h4, h5, fun e he => ?_⟩
 have := List.all_eq_true.1 h6 e he
 simp only [edOk, Bool.and_eq_true, inB_iff] at this
 exact ⟨this.1.1, this.1.2, this.2⟩
def wordErr (n m : Int) (St Fi : List Int) (Ed : List EdT) (Wd : List Int) : Int := if mayA n m St Fi Ed then if Wd.all (inB m) then 0 else 7 else 2
theorem results_c1 {P : Program} {fn : Func} {p q : Tmp} {ty : TypeId} (h : fn.results = #[.cell p ty, .tmp q]) (tmps : Array Value) (w : World) (g : Nat) (t : TypeId) (cs : Array Value) (fr : Nat × Nat) (d : TypeDesc) (x : Value)
 (hp : tmps.getD p undef = .pointer (some ⟨g, 0, none⟩)) (hq : tmps.getD q undef = x) (hg : w.heap[g]? = some (.cells cs t fr))
 (hu : P.underlying ty = some d) (hd : (match d with | .struct _ | .array _ _ => true | _ => false) = true) (hi : (P.info? ty).map (·.size) = some cs.size) :
 (results fn tmps).run P w = .ok (.tuple #[.agg cs, x]) w := by
 have hp' : tmps[p]?.getD undef = .pointer (some ⟨g, 0, none⟩) := by simpa using hp
 have hq' : tmps[q]?.getD undef = x := by simpa using hq
 simp [results, h, hp', hq', asAddr, run_loadVar_row w g t ty cs fr d hg hu hd hi]
theorem box2 (w : World) (A Z : Array Value) (t : TypeId) : Below w.heap.size w ((w.alloc (.cells A t)).alloc (.cells Z t)) ∧ ((w.alloc (.cells A t)).alloc (.cells Z t)).heap[w.heap.size]? = some (.cells A t (0, 0)) ∧ ((w.alloc (.cells A t)).alloc (.cells Z t)).heap[w.heap.size + 1]? = some (.cells Z t (0, 0)) ∧ ((w.alloc (.cells A t)).alloc (.cells Z t)).heap.size = w.heap.size + 2 := by
 refine ⟨((Below.refl _ _).alloc (Nat.le_refl _) _).alloc (by simp) _, (Below.heap_alloc _ _ _ (by simp)).trans (World.alloc_heap_new _ _), ?_, by simp⟩
 have := World.alloc_heap_new (w.alloc (.cells A t)) (.cells Z t)
 simpa using this
theorem normal_bad (w : World) (n m : Int) (a1 a2 a3 : Option Addr) (c1 c2 c3 : Nat) (St Fi : List Int) (Ed : List EdT) (hA : Hid (RdA w a1 a2 a3 St Fi Ed)) (h1 : St.length ≤ 4194304) (h2 : Fi.length ≤ 4194304) (h3 : Ed.length ≤ 4194304) (em : mayA n m St Fi Ed = false) :
 Calls Tryz.prog 48 #[.agg #[.int .i64 n, .int .i64 m, .slice a1 St.length c1, .slice a2 Fi.length c2, .slice a3 Ed.length c3]] w fun e w' => e = .returned (.tuple #[.agg #[.int .i64 0, .int .i64 0, .slice none 0 0, .slice none 0 0, .slice none 0 0], .int .i64 2]) ∧ Below w.heap.size w w' := by
 obtain ⟨W0, hW0⟩ : ∃ W0, (w.alloc (.cells #[.int .i64 n, .int .i64 m, .slice a1 St.length c1, .slice a2 Fi.length c2, .slice a3 Ed.length c3] 25)).alloc (.cells #[.int .i64 0, .int .i64 0, .slice none 0 0, .slice none 0 0, .slice none 0 0] 25) = W0 := ⟨_, rfl⟩
 have HD := hide (box2 w #[.int .i64 n, .int .i64 m, .slice a1 St.length c1, .slice a2 Fi.length c2, .slice a3 Ed.length c3] #[.int .i64 0, .int .i64 0, .slice none 0 0, .slice none 0 0, .slice none 0 0] 25)
 rw [hW0] at HD
 have B0 := HD.out.2.1
 have T1 := valid_any W0 n m a1 a2 a3 c1 c2 c3 St Fi Ed (hide (hA.out.on HD.out.1)) h1 h2 h3
 obtain ⟨k0, k1, k2, k3, k4⟩ := zd5 B0 rfl rfl rfl rfl rfl
 clear B0
 rw [em] at T1
 have T1 : Calls Tryz.prog 75 #[.agg #[.int .i64 n, .int .i64 m, .slice a1 St.length c1, .slice a2 Fi.length c2, .slice a3 Ed.length c3]] W0 fun e w' => e = .returned (.int .i64 2) ∧ Below W0.heap.size W0 w' := T1
 go_enter Tryz.func48, Tryz.ntmps48
 go_upto_region 3 with (go_at_call 75; refine T1.mono ?_; rintro e w1 ⟨rfl, d1⟩)
 have F3 := blk_on HD.out.2.2.1 d1
 obtain ⟨o0, o1, o2, o3, o4⟩ := zd5 F3 rfl rfl rfl rfl rfl
 have f0 : w1.frozen? ⟨w.heap.size + 1, 0, none⟩ = false := fz_of F3
 have f1 : w1.frozen? ⟨w.heap.size + 1, 1, none⟩ = false := fz_of F3
 have f2 : w1.frozen? ⟨w.heap.size + 1, 2, none⟩ = false := fz_of F3
 have f3 : w1.frozen? ⟨w.heap.size + 1, 3, none⟩ = false := fz_of F3
 have f4 : w1.frozen? ⟨w.heap.size + 1, 4, none⟩ = false := fz_of F3
 have O6 := hide (And.intro (set5 w1 (w.heap.size + 1) _ _ _ _ _ (.int .i64 0) (.int .i64 0) (.slice none 0 0) (.slice none 0 0) (.slice none 0 0) 25 F3) (only5 w1 (w.heap.size + 1) (.int .i64 0) (.int .i64 0) (.slice none 0 0) (.slice none 0 0) (.slice none 0 0)))
 clear F3
 go_wp2_with fail
 refine bodyPost_ret (results_c1 (p := 2) (q := 3) (ty := 25) rfl _ _ (w.heap.size + 1) 25 _ (0, 0) _ _ rfl rfl O6.out.1 Tryz.underlying25 rfl (by kernel_rfl)) rfl ?_
 have z0 := HD.out.2.2.2
 have z1 := d1.size
 exact ⟨rfl, (HD.out.1.trans (d1.mono (by omega))).trans (O6.out.2.toBelow (by omega) (fun k hk => by omega))⟩
theorem normal_ok (w : World) (n m : Int) (a1 a2 a3 : Option Addr) (c1 c2 c3 : Nat) (St Fi : List Int) (Ed : List EdT) (hA : Hid (RdA w a1 a2 a3 St Fi Ed)) (h1 : St.length ≤ 4194304) (h2 : Fi.length ≤ 4194304) (h3 : Ed.length ≤ 4194304) (em : mayA n m St Fi Ed = true) :
 Calls Tryz.prog 48 #[.agg #[.int .i64 n, .int .i64 m, .slice a1 St.length c1, .slice a2 Fi.length c2, .slice a3 Ed.length c3]] w fun e w' => ∃ g1 k1 g2 k2 g3 k3, e = .returned (.tuple #[.agg #[.int .i64 n, .int .i64 m, .slice (some ⟨g1, 0, none⟩) (riseL St).length k1, .slice (some ⟨g2, 0, none⟩) (riseL Fi).length k2, .slice (some ⟨g3, 0, none⟩) (riseE Ed).length k3], .int .i64 0]) ∧ Own w.heap.size w' g1 k1 g2 k2 g3 k3 (riseL St) (riseL Fi) (riseE Ed) ∧ Below w.heap.size w w' := by
 obtain ⟨W0, hW0⟩ : ∃ W0, (w.alloc (.cells #[.int .i64 n, .int .i64 m, .slice a1 St.length c1, .slice a2 Fi.length c2, .slice a3 Ed.length c3] 25)).alloc (.cells #[.int .i64 0, .int .i64 0, .slice none 0 0, .slice none 0 0, .slice none 0 0] 25) = W0 := ⟨_, rfl⟩
 have HD := hide (box2 w #[.int .i64 n, .int .i64 m, .slice a1 St.length c1, .slice a2 Fi.length c2, .slice a3 Ed.length c3] #[.int .i64 0, .int .i64 0, .slice none 0 0, .slice none 0 0, .slice none 0 0] 25)
 rw [hW0] at HD
 have B0 := HD.out.2.1
 have T1 := valid_any W0 n m a1 a2 a3 c1 c2 c3 St Fi Ed (hide (hA.out.on HD.out.1)) h1 h2 h3
 obtain ⟨k0, k1, k2, k3, k4⟩ := zd5 B0 rfl rfl rfl rfl rfl
 clear B0
 rw [em] at T1
 have T1 : Calls Tryz.prog 75 #[.agg #[.int .i64 n, .int .i64 m, .slice a1 St.length c1, .slice a2 Fi.length c2, .slice a3 Ed.length c3]] W0 fun e w' => e = .returned (.int .i64 0) ∧ Below W0.heap.size W0 w' := T1
 have T2 := hide (fun (w1 : World) (d1 : Below W0.heap.size W0 w1) => inOrder_any w1 n m a1 a2 a3 c1 c2 c3 St Fi Ed (hide ((hA.out.on HD.out.1).on d1)) h1 h2 h3)
 generalize riseL St = S1 at T2 ⊢
 generalize riseL Fi = F1 at T2 ⊢
 generalize riseE Ed = E1 at T2 ⊢
 go_enter Tryz.func48, Tryz.ntmps48
 go_upto_region 4 with (go_at_call 75; refine T1.mono ?_; rintro e w1 ⟨rfl, d1⟩)
 have B1 := blk_on HD.out.2.1 d1
 have H1 := hide (And.intro d1 (blk_on HD.out.2.2.1 d1))
 obtain ⟨y0, y1, y2, y3, y4⟩ := zd5 B1 rfl rfl rfl rfl rfl
 clear k0 k1 k2 k3 k4 B1 d1 T1 hA
 go_wp2_with (go_at_call 81; refine (T2.out w1 H1.out.1).mono ?_; rintro e w2 ⟨g1, k1, g2, k2, g3, k3, rfl, hO, d2⟩; have F3 := blk_on H1.out.2 d2; obtain ⟨o0, o1, o2, o3, o4⟩ := zd5 F3 rfl rfl rfl rfl rfl; have f0 : w2.frozen? ⟨w.heap.size + 1, 0, none⟩ = false := fz_of F3; have f1 : w2.frozen? ⟨w.heap.size + 1, 1, none⟩ = false := fz_of F3; have f2 : w2.frozen? ⟨w.heap.size + 1, 2, none⟩ = false := fz_of F3; have f3 : w2.frozen? ⟨w.heap.size + 1, 3, none⟩ = false := fz_of F3; have f4 : w2.frozen? ⟨w.heap.size + 1, 4, none⟩ = false := fz_of F3; have H2 := hide (And.intro hO (And.intro d2 F3)); clear hO d2 F3)
 have O6 := hide (And.intro (set5 w2 (w.heap.size + 1) _ _ _ _ _ (.int .i64 n) (.int .i64 m) (.slice (some ⟨g1, 0, none⟩) S1.length k1) (.slice (some ⟨g2, 0, none⟩) F1.length k2) (.slice (some ⟨g3, 0, none⟩) E1.length k3) 25 H2.out.2.2) (only5 w2 (w.heap.size + 1) (.int .i64 n) (.int .i64 m) (.slice (some ⟨g1, 0, none⟩) S1.length k1) (.slice (some ⟨g2, 0, none⟩) F1.length k2) (.slice (some ⟨g3, 0, none⟩) E1.length k3)))
 refine bodyPost_ret (results_c1 (p := 2) (q := 3) (ty := 25) rfl _ _ (w.heap.size + 1) 25 _ (0, 0) _ _ rfl rfl O6.out.1 Tryz.underlying25 rfl (by kernel_rfl)) rfl ?_
 have z0 := HD.out.2.2.2
 have z1 := H1.out.1.size
 have z2 := H2.out.2.1.size
 obtain ⟨o1, o2, o3, n1, n2, n3⟩ := H2.out.1
 have q1 := own_at o1
 have q2 := own_at o2
 have q3 := own_at o3
 refine ⟨g1, k1, g2, k2, g3, k3, rfl, ⟨own_only (ownsRow_base (base := w1.heap.size) o1 (by omega)) O6.out.2 (by omega), own_only (ownsRow_base (base := w1.heap.size) o2 (by omega)) O6.out.2 (by omega), own_only (ownsRow_base (base := w1.heap.size) o3 (by omega)) O6.out.2 (by omega), n1, n2, n3⟩, ?_⟩
 exact ((HD.out.1.trans (H1.out.1.mono (by omega))).trans (H2.out.2.1.mono (by omega))).trans (O6.out.2.toBelow (by omega) (fun k hk => by omega))
theorem info4 : (Tryz.prog.info? 4).map (fun i => (i.zero, i.size, i.bytes)) = some (some (.bool false), 1, 1) := by kernel_rfl
def MaskG (B : Nat) (w : World) (g N : Nat) (M : Nat → Bool) : Prop := B ≤ g ∧ Mrw w g 4 N (fun q => .bool (M q)) N
theorem mask_made {B : Nat} {w1 : World} {g N : Nat} (h : w1.ownsRow B 4 1 (.slice (some ⟨g, 0, none⟩) N N) N (madeCells #[.bool false] N).toList) : MaskG B w1 g N (fun _ => false) := by
 rw [toList_madeCells_one] at h
 rcases h.2 with ⟨hv, _⟩ | ⟨g', cap', cur, hv, hb, hg, h1, h2, h3, h4⟩
 · cases hv
 · cases hv
   refine ⟨hb, cur, hg, by omega, fun j hj => ?_⟩
   rw [List.take_of_length_le (by simp; omega)] at h4
   have : cur.toList[j]? = some (.bool false) := by rw [h4]; simp [hj]
   simpa using this
theorem own_below {W W' : World} {B n sz : Nat} {e : TypeId} {v : Value} {xs : List Value} (h : W.ownsRow B e sz v n xs) (d : Below W.heap.size W W') : W'.ownsRow B e sz v n xs := row_only h (Only.ofBelow (R := fun _ => False) d) (fun _ _ => id)
theorem owns_down {W : World} {B C : Nat} {e : TypeId} {sz : Nat} {v : Value} {n : Nat} {xs : List Value} (h : W.ownsRow B e sz v n xs) (hC : C ≤ B) : W.ownsRow C e sz v n xs :=
 ⟨h.1, h.2.imp id (fun ⟨g, cap, cur, h1, h2, h3, h4⟩ => ⟨g, cap, cur, h1, Nat.le_trans hC h2, h3, h4⟩)⟩
theorem own_slice {W : World} {B n sz : Nat} {e : TypeId} {v : Value} {xs : List Value} (h : W.ownsRow B e sz v n xs) : ∃ b c, v = .slice b n c := by
 rcases h.2 with ⟨hv, hn⟩ | ⟨g, cap, cur, hv, _⟩
 · exact ⟨none, 0, by rw [hv, hn]⟩
 · exact ⟨_, cap, hv⟩
theorem three_cells {W : World} {x : EdT} {t : TypeId} {p : Nat} (z : W.heap[p]? = some (.cells #[.int .i64 x.1, .int .i64 x.2.1, .int .i64 x.2.2] t (0, 0))) : ∀ (j : Nat) (u : Value), (encE x)[j]? = some u → W.cell? ((⟨p, 0, none⟩ : Addr).add j) = some u := fun j u hu => by
 rw [Addr.add_lit]
 match j, hu with
 | 0, hu => exact cell_of z (by simpa [encE] using hu)
 | 1, hu => exact cell_of z (by simpa [encE] using hu)
 | 2, hu => exact cell_of z (by simpa [encE] using hu)
 | (j + 3), hu => simp [encE] at hu
theorem wpList_appE {ops : Array Oper} {rest : List Oper} {o : Oper} {a : Act} {Q : Exit → Act → World → Prop} {w : World} (hgd : o.guard = none) (s x : Operand)
 (ho : o.op = .call { callee := .builtin .append, args := #[s, x], argTypes := #[23, 23] }) (B : Nat) (v : Value) (X : List EdT) (hs : a.eval s = v) (hown : w.ownsRow B 61 3 v X.length (X.flatMap encE)) (p : Nat) (y : EdT) (hx : a.eval x = .slice (some ⟨p, 0, none⟩) 1 1) (hp : w.heap[p]? = some (.cells #[.int .i64 y.1, .int .i64 y.2.1, .int .i64 y.2.2] 61 (0, 0))) (hl : X.length ≤ 16777216) (w0 : World) (D : Below B w0 w) (hB : B ≤ w0.heap.size)
 (h : ∀ v' w', Hid (w'.ownsRow B 61 3 v' (X ++ [y]).length ((X ++ [y]).flatMap encE)) → Hid (Below B w0 w') → wpList Tryz.prog ops Q rest (a.put o.dst v') w') : wpList Tryz.prog ops Q (o :: rest) a w := by
 obtain ⟨i5, hi5, hz50, hz51, hz52⟩ := info_parts info59
 have hs0 := D.size
 refine wpList_append_own_at _ hgd s x 23 ho B 61 i5 _ 3 24 Tryz.underlying23 hi5 hz50 hz51 hz52 rfl (by omega) v X.length (X.flatMap encE) hs hown ⟨p, 0, none⟩ 1 1 (encE y) hx rfl (three_cells hp) (by simp [encE, Value.oneCell']) (by unfold maxLen; omega) (by omega) (by omega) ?_
 intro v2 w2 h2 hgr _ _
 have hb := hown.lt
 exact h v2 w2 (hide (by rw [List.flatMap_append, List.length_append]; simpa using h2)) (hide (D.grown hgr (by omega) (fun k hk => (hb k hk).1)))
def symOk (m : Int) : Bool := decide (0 ≤ m ∧ m ≤ 128)
def badS (m x : Int) : Bool := decide (x < 0 ∨ m ≤ x)
theorem mayBe_any (w : World) (m : Int) : Calls Tryz.prog 54 #[.int .i64 m] w fun e w' => e = .returned (.bool (symOk m)) ∧ w' = w := by
 by_cases h0 : 0 ≤ m
 · by_cases h1 : m ≤ 128
   · have e : symOk m = true := decide_eq_true ⟨h0, h1⟩
     rw [e]
     clear e
     go_enter Tryz.func54, Tryz.ntmps54
     go_wp2_with fail
     go_ret
     exact ⟨rfl, rfl⟩
   · have e : symOk m = false := decide_eq_false (fun h => h1 h.2)
     rw [e]
     clear e
     go_enter Tryz.func54, Tryz.ntmps54
     go_wp2_with fail
     go_ret
     exact ⟨rfl, rfl⟩
 · have e : symOk m = false := decide_eq_false (fun h => h0 h.1)
   rw [e]
   clear e
   have h0' : m < 0 := by omega
   go_enter Tryz.func54, Tryz.ntmps54
   go_wp2_with fail
   go_ret
   exact ⟨rfl, rfl⟩
theorem clos53 (w : World) (b : Nat) (m x : Int) (hb : w.cell? ⟨b, 0, none⟩ = some (.int .i64 m)) : Calls Tryz.prog 53 #[.int .i64 x, .pointer (some ⟨b, 0, none⟩)] w fun e w' => e = .returned (.bool (badS m x)) ∧ Below w.heap.size w w' := by
 by_cases h0 : x < 0
 · have e : badS m x = true := decide_eq_true (.inl h0)
   rw [e]
   clear e
   go_enter Tryz.func53, Tryz.ntmps53
   go_wp2_with fail
   go_ret
   exact ⟨rfl, Below.refl _ _⟩
 · by_cases h1 : m ≤ x
   · have e : badS m x = true := decide_eq_true (.inr h1)
     rw [e]
     clear e
     have h0' : 0 ≤ x := by omega
     go_enter Tryz.func53, Tryz.ntmps53
     go_wp2_with fail
     go_ret
     exact ⟨rfl, Below.refl _ _⟩
   · have e : badS m x = false := decide_eq_false (fun h => h.elim h0 h1)
     rw [e]
     clear e
     have h0' : 0 ≤ x := by omega
     have h1' : x < m := by omega
     go_enter Tryz.func53, Tryz.ntmps53
     go_wp2_with fail
     go_ret
     exact ⟨rfl, Below.refl _ _⟩
theorem clos122 (w : World) (b gf N q : Nat) (f : Nat → Bool) (hb : w.cell? ⟨b, 0, none⟩ = some (.slice (some ⟨gf, 0, none⟩) N N)) (hM : Mrw w gf 4 N (fun c => .bool (f c)) N) (hq : q < N) : Calls Tryz.prog 122 #[.int .i64 (q : Int), .pointer (some ⟨b, 0, none⟩)] w fun e w' => e = .returned (.bool (f q)) ∧ Below w.heap.size w w' := by
 have q0 : (0 : Int) ≤ (q : Int) := by omega
 have q1 : (q : Int) < (N : Int) := by omega
 have c1 := hM.at q hq
 clear hM
 generalize f q = y at c1
 go_enter Tryz.func122, Tryz.ntmps122
 go_wp2_with fail
 go_ret
 exact ⟨rfl, Below.refl _ _⟩
theorem clos128 (w : World) (b gf N q : Nat) (f : Nat → Bool) (hb : w.cell? ⟨b, 0, none⟩ = some (.slice (some ⟨gf, 0, none⟩) N N)) (hM : Mrw w gf 4 N (fun c => .bool (f c)) N) (hq : q < N) : Calls Tryz.prog 128 #[.int .i64 (q : Int), .pointer (some ⟨b, 0, none⟩)] w fun e w' => e = .returned (.bool (f q)) ∧ Below w.heap.size w w' := by
 have q0 : (0 : Int) ≤ (q : Int) := by omega
 have q1 : (q : Int) < (N : Int) := by omega
 have c1 := hM.at q hq
 clear hM
 generalize f q = y at c1
 go_enter Tryz.func128, Tryz.ntmps128
 go_wp2_with fail
 go_ret
 exact ⟨rfl, Below.refl _ _⟩
theorem idx53 (w : World) (ao : Option Addr) (c : Nat) (L : List Int) (b : Nat) (m : Int) (hb : Hid (w.cell? ⟨b, 0, none⟩ = some (.int .i64 m))) (hr : Hid (RdN w ao L)) (hl : L.length ≤ 4194304) :
 Calls Tryz.prog 87 #[.slice ao L.length c, .func (.func 53) #[] #[.pointer (some ⟨b, 0, none⟩)]] w fun e w' => ∃ r : Int, e = .returned (.int .i64 r) ∧ decide (0 ≤ r) = L.any (badS m) ∧ Below w.heap.size w w' := by
 obtain ⟨n, en⟩ : ∃ n, L.length = n := ⟨_, rfl⟩
 rw [en]
 rw [en] at hl
 have HN := hide en
 clear en
 go_enter Tryz.func87, Tryz.ntmps87
 go_wp2_with fail
 go_loopw [8] (fun iv wr => ∃ i : Nat, i ≤ n ∧ iv = .int .i64 (i : Int) ∧ Hid ((∀ x ∈ L.take i, (badS m) x = false) ∧ Below w.heap.size w wr)) (fun iv _ => n - (intOf iv).toNat)
 case atStart => exact ⟨0, Nat.zero_le _, rfl, hide ⟨fun x hx => by simp at hx, Below.refl _ _⟩⟩
 case round =>
  obtain ⟨i, hi, rfl, HY⟩ := hrel
  by_cases hlt : i < n
  · have l0 : (i : Int) < (n : Int) := by omega
    have i0 : (0 : Int) ≤ (i : Int) := by omega
    have hil : i < L.length := by have := HN.out; omega
    obtain ⟨g, o, ea, ca⟩ := (hr.out.on HY.out.2) i hil
    subst ea
    have HX := hide (List.getElem_mem hil)
    have HT := hide (List.take_succ_eq_append_getElem hil)
    have HG := hide (show L[i] ∈ L from List.getElem_mem hil)
    obtain ⟨x, hx⟩ : ∃ x, L[i] = x := ⟨_, rfl⟩
    rw [hx] at ca HT HG
    clear hx HX
    have TC : Calls Tryz.prog 53 #[.int .i64 x, .pointer (some ⟨b, 0, none⟩)] wr fun e w' => e = .returned (.bool ((badS m) x)) ∧ Below wr.heap.size wr w' := clos53 wr b m x ((HY.out.2.cell (World.block_lt_of_cell? w _ hb.out)).trans hb.out)
    obtain ⟨y, hy⟩ : ∃ y, (badS m) x = y := ⟨_, rfl⟩
    rw [hy] at TC
    have HP := hide hy
    clear hy
    go_wp2_with fail
    refine TC.mono ?_
    rintro e w2 ⟨rfl, d2⟩
    have HD := hide (HY.out.2.trans (d2.mono HY.out.2.size))
    clear d2 TC
    cases y with
    | true =>
     go_wp2_with fail
     go_ret
     refine ⟨(i : Int), rfl, ?_, HD.out⟩
     rw [decide_eq_true i0, eq_comm, List.any_eq_true]
     exact ⟨x, HG.out, HP.out⟩
    | false =>
     go_wp2_with fail
     go_roundw
     case rel => exact ⟨i + 1, by omega, by go_num, hide ⟨fun z hz => by
      rw [HT.out] at hz
      rcases List.mem_append.1 hz with hz | hz
      · exact HY.out.1 z hz
      · rw [List.mem_singleton.1 hz]; exact HP.out, HD.out⟩⟩
     case measure => simp [intOf]; omega
  · have l0 : ¬ (i : Int) < (n : Int) := by omega
    have e : L.any (badS m) = false := by
     have hi2 : i = n := by omega
     have t := HY.out.1
     rw [hi2, List.take_of_length_le (by have := HN.out; omega)] at t
     rw [List.any_eq_false]
     intro x hx hc
     have t2 := t x hx
     rw [show (badS m) x = true from hc] at t2
     cases t2
    have HE := hide e
    clear e
    go_wp2_with fail
    go_ret
    exact ⟨-1, rfl, by rw [HE.out]; decide, HY.out.2⟩
theorem cont53 (w : World) (ao : Option Addr) (c : Nat) (L : List Int) (b : Nat) (m : Int) (hb : Hid (w.cell? ⟨b, 0, none⟩ = some (.int .i64 m))) (hr : Hid (RdN w ao L)) (hl : L.length ≤ 4194304) :
 Calls Tryz.prog 52 #[.slice ao L.length c, .func (.func 53) #[] #[.pointer (some ⟨b, 0, none⟩)]] w fun e w' => e = .returned (.bool (L.any (badS m))) ∧ Below w.heap.size w w' := by
 have T := idx53 w ao c L b m hb hr hl
 obtain ⟨y, hy⟩ : ∃ y, L.any (badS m) = y := ⟨_, rfl⟩
 rw [hy] at T ⊢
 generalize L.length = n at T
 clear hy
 go_enter Tryz.func52, Tryz.ntmps52
 go_wp2_with fail
 refine T.mono ?_
 rintro e w2 ⟨r, rfl, hr2, d2⟩
 have HR := hide (And.intro hr2 d2)
 clear hr2 d2 T
 go_wp2_with fail
 go_ret
 exact ⟨by rw [← HR.out.1]; rfl, HR.out.2⟩
theorem idx122 (w : World) (ao : Option Addr) (c : Nat) (L : List Int) (b gf N : Nat) (f : Nat → Bool) (hb : Hid (w.cell? ⟨b, 0, none⟩ = some (.slice (some ⟨gf, 0, none⟩) N N))) (hM : Hid (Mrw w gf 4 N (fun c => .bool (f c)) N)) (hin : Hid (∀ x ∈ L, ∃ q : Nat, q < N ∧ x = (q : Int))) (hr : Hid (RdN w ao L)) (hl : L.length ≤ 4194304) :
 Calls Tryz.prog 87 #[.slice ao L.length c, .func (.func 122) #[] #[.pointer (some ⟨b, 0, none⟩)]] w fun e w' => ∃ r : Int, e = .returned (.int .i64 r) ∧ decide (0 ≤ r) = L.any (fun x => f x.toNat) ∧ Below w.heap.size w w' := by
 obtain ⟨n, en⟩ : ∃ n, L.length = n := ⟨_, rfl⟩
 rw [en]
 rw [en] at hl
 have HN := hide en
 clear en
 go_enter Tryz.func87, Tryz.ntmps87
 go_wp2_with fail
 go_loopw [8] (fun iv wr => ∃ i : Nat, i ≤ n ∧ iv = .int .i64 (i : Int) ∧ Hid ((∀ x ∈ L.take i, (fun x => f x.toNat) x = false) ∧ Below w.heap.size w wr)) (fun iv _ => n - (intOf iv).toNat)
 case atStart => exact ⟨0, Nat.zero_le _, rfl, hide ⟨fun x hx => by simp at hx, Below.refl _ _⟩⟩
 case round =>
  obtain ⟨i, hi, rfl, HY⟩ := hrel
  by_cases hlt : i < n
  · have l0 : (i : Int) < (n : Int) := by omega
    have i0 : (0 : Int) ≤ (i : Int) := by omega
    have hil : i < L.length := by have := HN.out; omega
    obtain ⟨g, o, ea, ca⟩ := (hr.out.on HY.out.2) i hil
    subst ea
    have HX := hide (List.getElem_mem hil)
    have HT := hide (List.take_succ_eq_append_getElem hil)
    have HG := hide (show L[i] ∈ L from List.getElem_mem hil)
    obtain ⟨x, hx⟩ : ∃ x, L[i] = x := ⟨_, rfl⟩
    rw [hx] at ca HT HG
    clear hx HX
    have TC : Calls Tryz.prog 122 #[.int .i64 x, .pointer (some ⟨b, 0, none⟩)] wr fun e w' => e = .returned (.bool ((fun x => f x.toNat) x)) ∧ Below wr.heap.size wr w' := (by
     obtain ⟨q, hq, e⟩ := hin.out x HG.out
     have t := clos122 wr b gf N q f ((HY.out.2.cell (World.block_lt_of_cell? w _ hb.out)).trans hb.out) (hM.out.below HY.out.2 hM.out.lt) hq
     subst e
     exact t)
    obtain ⟨y, hy⟩ : ∃ y, (fun x => f x.toNat) x = y := ⟨_, rfl⟩
    rw [hy] at TC
    have HP := hide hy
    clear hy
    go_wp2_with fail
    refine TC.mono ?_
    rintro e w2 ⟨rfl, d2⟩
    have HD := hide (HY.out.2.trans (d2.mono HY.out.2.size))
    clear d2 TC
    cases y with
    | true =>
     go_wp2_with fail
     go_ret
     refine ⟨(i : Int), rfl, ?_, HD.out⟩
     rw [decide_eq_true i0, eq_comm, List.any_eq_true]
     exact ⟨x, HG.out, HP.out⟩
    | false =>
     go_wp2_with fail
     go_roundw
     case rel => exact ⟨i + 1, by omega, by go_num, hide ⟨fun z hz => by
      rw [HT.out] at hz
      rcases List.mem_append.1 hz with hz | hz
      · exact HY.out.1 z hz
      · rw [List.mem_singleton.1 hz]; exact HP.out, HD.out⟩⟩
     case measure => simp [intOf]; omega
  · have l0 : ¬ (i : Int) < (n : Int) := by omega
    have e : L.any (fun x => f x.toNat) = false := by
     have hi2 : i = n := by omega
     have t := HY.out.1
     rw [hi2, List.take_of_length_le (by have := HN.out; omega)] at t
     rw [List.any_eq_false]
     intro x hx hc
     have t2 := t x hx
     rw [show (fun x => f x.toNat) x = true from hc] at t2
     cases t2
    have HE := hide e
    clear e
    go_wp2_with fail
    go_ret
    exact ⟨-1, rfl, by rw [HE.out]; decide, HY.out.2⟩
theorem cont122 (w : World) (ao : Option Addr) (c : Nat) (L : List Int) (b gf N : Nat) (f : Nat → Bool) (hb : Hid (w.cell? ⟨b, 0, none⟩ = some (.slice (some ⟨gf, 0, none⟩) N N))) (hM : Hid (Mrw w gf 4 N (fun c => .bool (f c)) N)) (hin : Hid (∀ x ∈ L, ∃ q : Nat, q < N ∧ x = (q : Int))) (hr : Hid (RdN w ao L)) (hl : L.length ≤ 4194304) :
 Calls Tryz.prog 52 #[.slice ao L.length c, .func (.func 122) #[] #[.pointer (some ⟨b, 0, none⟩)]] w fun e w' => e = .returned (.bool (L.any (fun x => f x.toNat))) ∧ Below w.heap.size w w' := by
 have T := idx122 w ao c L b gf N f hb hM hin hr hl
 obtain ⟨y, hy⟩ : ∃ y, L.any (fun x => f x.toNat) = y := ⟨_, rfl⟩
 rw [hy] at T ⊢
 generalize L.length = n at T
 clear hy
 go_enter Tryz.func52, Tryz.ntmps52
 go_wp2_with fail
 refine T.mono ?_
 rintro e w2 ⟨r, rfl, hr2, d2⟩
 have HR := hide (And.intro hr2 d2)
 clear hr2 d2 T
 go_wp2_with fail
 go_ret
 exact ⟨by rw [← HR.out.1]; rfl, HR.out.2⟩
theorem idx128 (w : World) (ao : Option Addr) (c : Nat) (L : List Int) (b gf N : Nat) (f : Nat → Bool) (hb : Hid (w.cell? ⟨b, 0, none⟩ = some (.slice (some ⟨gf, 0, none⟩) N N))) (hM : Hid (Mrw w gf 4 N (fun c => .bool (f c)) N)) (hin : Hid (∀ x ∈ L, ∃ q : Nat, q < N ∧ x = (q : Int))) (hr : Hid (RdN w ao L)) (hl : L.length ≤ 4194304) :
 Calls Tryz.prog 87 #[.slice ao L.length c, .func (.func 128) #[] #[.pointer (some ⟨b, 0, none⟩)]] w fun e w' => ∃ r : Int, e = .returned (.int .i64 r) ∧ decide (0 ≤ r) = L.any (fun x => f x.toNat) ∧ Below w.heap.size w w' := by
 obtain ⟨n, en⟩ : ∃ n, L.length = n := ⟨_, rfl⟩
 rw [en]
 rw [en] at hl
 have HN := hide en
 clear en
 go_enter Tryz.func87, Tryz.ntmps87
 go_wp2_with fail
 go_loopw [8] (fun iv wr => ∃ i : Nat, i ≤ n ∧ iv = .int .i64 (i : Int) ∧ Hid ((∀ x ∈ L.take i, (fun x => f x.toNat) x = false) ∧ Below w.heap.size w wr)) (fun iv _ => n - (intOf iv).toNat)
 case atStart => exact ⟨0, Nat.zero_le _, rfl, hide ⟨fun x hx => by simp at hx, Below.refl _ _⟩⟩
 case round =>
  obtain ⟨i, hi, rfl, HY⟩ := hrel
  by_cases hlt : i < n
  · have l0 : (i : Int) < (n : Int) := by omega
    have i0 : (0 : Int) ≤ (i : Int) := by omega
    have hil : i < L.length := by have := HN.out; omega
    obtain ⟨g, o, ea, ca⟩ := (hr.out.on HY.out.2) i hil
    subst ea
    have HX := hide (List.getElem_mem hil)
    have HT := hide (List.take_succ_eq_append_getElem hil)
    have HG := hide (show L[i] ∈ L from List.getElem_mem hil)
    obtain ⟨x, hx⟩ : ∃ x, L[i] = x := ⟨_, rfl⟩
    rw [hx] at ca HT HG
    clear hx HX
    have TC : Calls Tryz.prog 128 #[.int .i64 x, .pointer (some ⟨b, 0, none⟩)] wr fun e w' => e = .returned (.bool ((fun x => f x.toNat) x)) ∧ Below wr.heap.size wr w' := (by
     obtain ⟨q, hq, e⟩ := hin.out x HG.out
     have t := clos128 wr b gf N q f ((HY.out.2.cell (World.block_lt_of_cell? w _ hb.out)).trans hb.out) (hM.out.below HY.out.2 hM.out.lt) hq
     subst e
     exact t)
    obtain ⟨y, hy⟩ : ∃ y, (fun x => f x.toNat) x = y := ⟨_, rfl⟩
    rw [hy] at TC
    have HP := hide hy
    clear hy
    go_wp2_with fail
    refine TC.mono ?_
    rintro e w2 ⟨rfl, d2⟩
    have HD := hide (HY.out.2.trans (d2.mono HY.out.2.size))
    clear d2 TC
    cases y with
    | true =>
     go_wp2_with fail
     go_ret
     refine ⟨(i : Int), rfl, ?_, HD.out⟩
     rw [decide_eq_true i0, eq_comm, List.any_eq_true]
     exact ⟨x, HG.out, HP.out⟩
    | false =>
     go_wp2_with fail
     go_roundw
     case rel => exact ⟨i + 1, by omega, by go_num, hide ⟨fun z hz => by
      rw [HT.out] at hz
      rcases List.mem_append.1 hz with hz | hz
      · exact HY.out.1 z hz
      · rw [List.mem_singleton.1 hz]; exact HP.out, HD.out⟩⟩
     case measure => simp [intOf]; omega
  · have l0 : ¬ (i : Int) < (n : Int) := by omega
    have e : L.any (fun x => f x.toNat) = false := by
     have hi2 : i = n := by omega
     have t := HY.out.1
     rw [hi2, List.take_of_length_le (by have := HN.out; omega)] at t
     rw [List.any_eq_false]
     intro x hx hc
     have t2 := t x hx
     rw [show (fun x => f x.toNat) x = true from hc] at t2
     cases t2
    have HE := hide e
    clear e
    go_wp2_with fail
    go_ret
    exact ⟨-1, rfl, by rw [HE.out]; decide, HY.out.2⟩
theorem cont128 (w : World) (ao : Option Addr) (c : Nat) (L : List Int) (b gf N : Nat) (f : Nat → Bool) (hb : Hid (w.cell? ⟨b, 0, none⟩ = some (.slice (some ⟨gf, 0, none⟩) N N))) (hM : Hid (Mrw w gf 4 N (fun c => .bool (f c)) N)) (hin : Hid (∀ x ∈ L, ∃ q : Nat, q < N ∧ x = (q : Int))) (hr : Hid (RdN w ao L)) (hl : L.length ≤ 4194304) :
 Calls Tryz.prog 52 #[.slice ao L.length c, .func (.func 128) #[] #[.pointer (some ⟨b, 0, none⟩)]] w fun e w' => e = .returned (.bool (L.any (fun x => f x.toNat))) ∧ Below w.heap.size w w' := by
 have T := idx128 w ao c L b gf N f hb hM hin hr hl
 obtain ⟨y, hy⟩ : ∃ y, L.any (fun x => f x.toNat) = y := ⟨_, rfl⟩
 rw [hy] at T ⊢
 generalize L.length = n at T
 clear hy
 go_enter Tryz.func52, Tryz.ntmps52
 go_wp2_with fail
 refine T.mono ?_
 rintro e w2 ⟨r, rfl, hr2, d2⟩
 have HR := hide (And.intro hr2 d2)
 clear hr2 d2 T
 go_wp2_with fail
 go_ret
 exact ⟨by rw [← HR.out.1]; rfl, HR.out.2⟩
def finB (Fi : List Int) (q : Nat) : Bool := decide ((q : Int) ∈ Fi)
theorem finB_next {Fi : List Int} {i f : Nat} (hi : i < Fi.length) (ef : Fi[i] = (f : Int)) (c : Nat) : finB (Fi.take (i + 1)) c = if c = f then true else finB (Fi.take i) c := by
 unfold finB
 rw [List.take_succ_eq_append_getElem hi, ef]
 by_cases e : c = f
 · subst e
   rw [if_pos rfl]
   exact decide_eq_true (by simp)
 · rw [if_neg e]
   refine decide_eq_decide.2 ?_
   rw [List.mem_append, List.mem_singleton]
   constructor
   · rintro (h | h)
     · exact h
     · exact absurd (Int.ofNat.inj h) e
   · exact .inl
theorem finals_any (w : World) (N : Nat) (mv : Int) (a1 a2 a3 : Option Addr) (c1 c2 c3 n1 n3 : Nat) (Fi : List Int) (hf : Hid (RdN w a2 Fi)) (hin : Hid (∀ x ∈ Fi, ∃ q : Nat, q < N ∧ x = (q : Int))) (hl : Fi.length ≤ 4194304) (hN : N ≤ 8192) :
 Calls Tryz.prog 93 #[.agg #[.int .i64 (N : Int), .int .i64 mv, .slice a1 n1 c1, .slice a2 Fi.length c2, .slice a3 n3 c3]] w fun e w' => ∃ gf, e = .returned (.slice (some ⟨gf, 0, none⟩) N N) ∧ Hid (Mrw w' gf 4 N (fun c => .bool (finB Fi c)) N ∧ w.heap.size ≤ gf) ∧ Below w.heap.size w w' := by
 obtain ⟨n2, e2⟩ : ∃ n, Fi.length = n := ⟨_, rfl⟩
 rw [e2]
 rw [e2] at hl
 have HE := hide e2
 clear e2
 obtain ⟨W0, hW0⟩ : ∃ W0, w.alloc (.cells #[.int .i64 (N : Int), .int .i64 mv, .slice a1 n1 c1, .slice a2 n2 c2, .slice a3 n3 c3] 25) = W0 := ⟨_, rfl⟩
 have HB : Hid (W0.heap[w.heap.size]? = some (.cells #[.int .i64 (N : Int), .int .i64 mv, .slice a1 n1 c1, .slice a2 n2 c2, .slice a3 n3 c3] 25 (0, 0)) ∧ Below w.heap.size w W0) := hide (by rw [← hW0]; exact ⟨World.alloc_heap_new _ _, (Below.refl _ _).alloc (Nat.le_refl _) _⟩)
 have q0 : W0.cell? ⟨w.heap.size, 0, none⟩ = some (.int .i64 (N : Int)) := cell_of HB.out.1 rfl
 obtain ⟨i4, hi4, hz40, hz41, hz42⟩ := info_parts info4
 go_enter Tryz.func93, Tryz.ntmps93
 go_upto_region 2 with (at_make; refine wpList_make_full _ rfl _ _ 77 rfl W0.heap.size 4 i4 (.bool false) 1 Tryz.underlying77 hi4 hz40 hz41 _ _ _ _ N rfl rfl (by go_num) (by go_num) (by rw [hz42]; omega) (by unfold maxLen; omega) (Nat.le_refl _) ?_; intro w6 ho hg)
 have D6 : Below W0.heap.size W0 w6 := (Below.refl _ _).grown hg (Nat.le_refl _) (by intro k hk; cases hk)
 have M6 : Mrw w6 W0.heap.size 4 N (fun c => .bool (finB (Fi.take 0) c)) N := by
  have t := ho
  rw [Nat.mul_one] at t
  exact (mask_made t).2.congr (fun c _ => by simp [finB])
 have H6 := hide (And.intro M6 D6)
 have B1 := blk_on HB.out.1 D6
 have q3 : w6.cell? ⟨w.heap.size, 3, none⟩ = some (.slice a2 n2 c2) := cell_of B1 rfl
 clear ho hg D6 M6 q0 hW0 B1
 go_wp2_with fail
 go_loopw [12] (fun iv wr => ∃ i : Nat, i ≤ n2 ∧ iv = .int .i64 (i : Int) ∧ Hid (Mrw wr W0.heap.size 4 N (fun c => .bool (finB (Fi.take i) c)) N ∧ Below W0.heap.size W0 wr)) (fun iv _ => n2 - (intOf iv).toNat)
 case atStart => exact ⟨0, Nat.zero_le _, rfl, H6⟩
 case round =>
  obtain ⟨i, hi, rfl, HY⟩ := hrel
  clear H6
  by_cases hlt : i < n2
  · have l0 : (i : Int) < (n2 : Int) := by omega
    have i0 : (0 : Int) ≤ (i : Int) := by omega
    have hil : i < Fi.length := by have := HE.out; omega
    obtain ⟨g, o, ea, ca⟩ := (hf.out.on (HB.out.2.trans (HY.out.2.mono HB.out.2.size))) i hil
    subst ea
    obtain ⟨f, hf2, ef⟩ := hin.out _ (List.getElem_mem hil)
    have HN := hide (finB_next hil ef)
    rw [ef] at ca
    have f0 : (0 : Int) ≤ (f : Int) := by omega
    have f1 : (f : Int) < (N : Int) := by omega
    have cu := HY.out.1.at f hf2
    have zu : wr.frozen? ⟨W0.heap.size, f, none⟩ = false := HY.out.1.fz f
    have J : Hid (Mrw (wr.setCell ⟨W0.heap.size, f, none⟩ (.bool true)) W0.heap.size 4 N (fun c => .bool (finB (Fi.take (i + 1)) c)) N ∧ Below W0.heap.size W0 (wr.setCell ⟨W0.heap.size, f, none⟩ (.bool true))) := hide ⟨(HY.out.1.upd f (.bool true)).congr (fun c _ => by rw [HN.out c]; by_cases e : c = f <;> simp [e]), HY.out.2.setCell (Nat.le_refl _) _⟩
    clear HY ef
    go_wp2_with fail
    go_roundw
    case rel => exact ⟨i + 1, by omega, by go_num, J⟩
    case measure => simp [intOf]; omega
  · have l0 : ¬ (i : Int) < (n2 : Int) := by omega
    have J : Hid (Mrw wr W0.heap.size 4 N (fun c => .bool (finB Fi c)) N ∧ Below w.heap.size w wr) := hide (by
     have t := HY.out.1
     rw [List.take_of_length_le (by have := HE.out; omega)] at t
     exact ⟨t, HB.out.2.trans (HY.out.2.mono HB.out.2.size)⟩)
    have hs := HB.out.2.size
    clear HY
    go_wp2_with fail
    go_ret
    exact ⟨_, rfl, hide ⟨J.out.1, hs⟩, J.out.2⟩
def emptB (St Fi : List Int) : Bool := St.any fun x => finB Fi x.toNat
theorem takesEmpty_any (w : World) (N : Nat) (mv : Int) (a1 a2 a3 : Option Addr) (c1 c2 c3 n3 : Nat) (St Fi : List Int) (hs : Hid (RdN w a1 St)) (hf : Hid (RdN w a2 Fi)) (hins : Hid (∀ x ∈ St, ∃ q : Nat, q < N ∧ x = (q : Int))) (hinf : Hid (∀ x ∈ Fi, ∃ q : Nat, q < N ∧ x = (q : Int))) (h1 : St.length ≤ 4194304) (hl : Fi.length ≤ 4194304) (hN : N ≤ 8192) :
 Calls Tryz.prog 88 #[.agg #[.int .i64 (N : Int), .int .i64 mv, .slice a1 St.length c1, .slice a2 Fi.length c2, .slice a3 n3 c3]] w fun e w' => e = .returned (.bool (emptB St Fi)) ∧ Below w.heap.size w w' := by
 obtain ⟨W0, hW0⟩ : ∃ W0, w.alloc (.cells #[.int .i64 (N : Int), .int .i64 mv, .slice a1 St.length c1, .slice a2 Fi.length c2, .slice a3 n3 c3] 25) = W0 := ⟨_, rfl⟩
 have HB : Hid (W0.heap[w.heap.size]? = some (.cells #[.int .i64 (N : Int), .int .i64 mv, .slice a1 St.length c1, .slice a2 Fi.length c2, .slice a3 n3 c3] 25 (0, 0)) ∧ Below w.heap.size w W0) := hide (by rw [← hW0]; exact ⟨World.alloc_heap_new _ _, (Below.refl _ _).alloc (Nat.le_refl _) _⟩)
 obtain ⟨y, hy⟩ : ∃ y, emptB St Fi = y := ⟨_, rfl⟩
 rw [hy]
 have HYY := hide hy
 clear hy
 have T93 := finals_any W0 N mv a1 a2 a3 c1 c2 c3 St.length n3 Fi (hide (hf.out.on HB.out.2)) hinf hl hN
 obtain ⟨q0, q1, q2, q3, q4⟩ := zd5 HB.out.1 rfl rfl rfl rfl rfl
 go_enter Tryz.func88, Tryz.ntmps88
 go_upto_region 2 with (go_at_call 93; refine T93.mono ?_; rintro e w1 ⟨gf, rfl, HM, d1⟩)
 obtain ⟨b, hb⟩ : ∃ k, w1.heap.size = k := ⟨_, rfl⟩
 rw [hb]
 obtain ⟨w2, hw2⟩ : ∃ W, w1.alloc (.cells #[.slice (some ⟨gf, 0, none⟩) N N] 77) = W := ⟨_, rfl⟩
 rw [hw2]
 have H2 : Hid (w2.cell? ⟨b, 0, none⟩ = some (.slice (some ⟨gf, 0, none⟩) N N) ∧ Mrw w2 gf 4 N (fun c => .bool (finB Fi c)) N ∧ w2.heap[w.heap.size]? = some (.cells #[.int .i64 (N : Int), .int .i64 mv, .slice a1 St.length c1, .slice a2 Fi.length c2, .slice a3 n3 c3] 25 (0, 0)) ∧ Below w.heap.size w w2) := hide (by
  have d : Below w1.heap.size w1 w2 := by rw [← hw2]; exact (Below.refl _ _).alloc (Nat.le_refl _) _
  have dd := d1.trans (d.mono d1.size)
  exact ⟨by rw [← hw2, ← hb]; exact cell_of (World.alloc_heap_new _ _) rfl, HM.out.1.below d HM.out.1.lt, blk_on HB.out.1 dd, HB.out.2.trans (dd.mono HB.out.2.size)⟩)
 clear T93 d1 HM hw2 hb q0 q1 q2 q3 q4 hW0
 have T52 := cont128 w2 a1 c1 St b gf N (finB Fi) (hide H2.out.1) (hide H2.out.2.1) hins (hide (hs.out.on H2.out.2.2.2)) h1
 have q2 : w2.cell? ⟨w.heap.size, 2, none⟩ = some (.slice a1 St.length c1) := cell_of H2.out.2.2.1 rfl
 rw [show (St.any fun x => finB Fi x.toNat) = emptB St Fi from rfl, HYY.out] at T52
 go_wp2_with fail
 refine T52.mono ?_
 rintro e w3 ⟨rfl, d3⟩
 have HZ := hide (H2.out.2.2.2.trans (d3.mono H2.out.2.2.2.size))
 clear d3 T52 q2
 go_wp2_with fail
 go_ret
 exact ⟨rfl, HZ.out⟩
theorem box4 (w : World) (o1 o2 o3 o4 : Obj) : Below w.heap.size w ((((w.alloc o1).alloc o2).alloc o3).alloc o4) ∧ ((((w.alloc o1).alloc o2).alloc o3).alloc o4).heap[w.heap.size]? = some o1 ∧ ((((w.alloc o1).alloc o2).alloc o3).alloc o4).heap[w.heap.size + 1]? = some o2 ∧ ((((w.alloc o1).alloc o2).alloc o3).alloc o4).heap[w.heap.size + 1 + 1]? = some o3 ∧ ((((w.alloc o1).alloc o2).alloc o3).alloc o4).heap[w.heap.size + 1 + 1 + 1]? = some o4 := by
 refine ⟨((((Below.refl _ _).alloc (Nat.le_refl _) _).alloc (by simp) _).alloc (by simp <;> omega) _).alloc (by simp <;> omega) _, ?_, ?_, ?_, ?_⟩
 · exact (Below.heap_alloc _ _ _ (by simp <;> omega)).trans ((Below.heap_alloc _ _ _ (by simp <;> omega)).trans ((Below.heap_alloc _ _ _ (by simp)).trans (World.alloc_heap_new _ _)))
 · have := World.alloc_heap_new (w.alloc o1) o2
   rw [World.size_alloc] at this
   exact (Below.heap_alloc _ _ _ (by simp <;> omega)).trans ((Below.heap_alloc _ _ _ (by simp)).trans this)
 · have := World.alloc_heap_new ((w.alloc o1).alloc o2) o3
   rw [World.size_alloc, World.size_alloc] at this
   exact (Below.heap_alloc _ _ _ (by simp)).trans this
 · have := World.alloc_heap_new (((w.alloc o1).alloc o2).alloc o3) o4
   rw [World.size_alloc, World.size_alloc, World.size_alloc] at this
   exact this
end Go.Proofs.YtchoopnjckcohaaGreatDoor
namespace Go.Proofs.YtchoopnjckcohaaGreatDoor
open Go.RowKit
def SeqP (n gf : Nat) (lb : Array Value) (E : List Value) (Kp : World → World → Prop) (w : World) : Prop :=
 ∀ (l : Nat) (J : Nat → World → Prop) (W : World), Below w.heap.size w W → (∀ k A A', J k A → Below A.heap.size A A' → J k A') →
  (∀ (k : Nat) (W1 : World) (hk : k < E.length), J k W1 → YieldAt Fence.wide (n - 1) Tryz.prog l #[E[k]] W1 fun e W' => e = .returned (.bool true) ∧ J (k + 1) W' ∧ Kp W1 W') →
  J 0 W → CallsIn Fence.wide n Tryz.prog gf (#[.func (.yield l) #[] #[]] ++ lb) W fun e W' => (∃ v, e = .returned v) ∧ J E.length W'
def goesOn (L : Nat) (Kp : World → World → Prop) (I : Nat → World → Prop) (k : Nat) (W : World) : Exit → Act → World → Prop
 | .normal, _, W' => (W'.heap[L]? = W.heap[L]? ∧ W'.heap[L + 1]? = W.heap[L + 1]?) ∧ Kp W W' ∧ I k W'
 | _, _, _ => False
theorem range_in_order {n : Nat} {g : Operand} {t : Tmp} {assign body : Code} {Q : Exit → Act → World → Prop} {a : Act} {w w0 : World} {gf : Nat} {lb : Array Value} {E : List Value} {Kp : World → World → Prop}
 (h1 : 1 ≤ n) (hg : a.eval g = .func (.func gf) #[] lb) (eg : ∀ args w, (callFunc gf args).run Tryz.prog w = .ok (.enter gf args) w) (hseq : SeqP (n - 1) gf lb E Kp w0)
 (hKt : ∀ {A B C : World}, Kp A B → Kp B C → Kp A C) (hKb : ∀ (W : World) (r r' : Loop), W.heap[w.heap.size + 1]? = some (.loop r) → Kp W (W.putObj (w.heap.size + 1) (.loop r'))) (hb0 : Below w0.heap.size w0 w)
 (I : Nat → World → Prop) (hI : ∀ k A A', I k A → Below A.heap.size A A' → I k A') (hIp : ∀ k (A : World) (r r' : Loop), I k A → A.heap[w.heap.size + 1]? = some (.loop r) → I k (A.putObj (w.heap.size + 1) (.loop r'))) (h0 : I 0 w) (a₁ : Value → Act)
 (hassign : ∀ (l : Nat) (x : Value) (W : World) (K : Act → World → Prop), K (a₁ x) W → assign.wpIn (Fence.wide.inRound l) (n - 1 - 1) Tryz.prog (Exit.then K (fun _ _ _ => False)) { tmps := (#[t].zip #[x]).foldl (fun t (p, v) => t.setIfInBounds p v) a.tmps, defers := [] } W)
 (hbody : ∀ (l k : Nat) (W : World) (hk : k < E.length), I k W → W.heap[w.heap.size]? = some (.deferred (some [])) → (∃ r, W.heap[w.heap.size + 1]? = some (.loop r)) → body.wpIn (Fence.wide.inRound l) (n - 1 - 1) Tryz.prog (goesOn w.heap.size Kp I (k + 1) W) (a₁ E[k]) W)
 (hdone : ∀ (D : Nat) (W : World), w.heap.size ≤ D → I E.length W → W.heap[D]? = some (.deferred (some [])) → Q .normal { a with defers := { target := .collected D, args := #[] } :: a.defers } W) :
 (Code.rangeFunc g #[t] assign body).wpIn Fence.wide n Tryz.prog Q a w := by
 refine wpIn_rangeFunc fun fn hfn => ?_
 obtain ⟨rec, hrec⟩ : ∃ rec : LoopState → Option Code → Loop, rec = fun st pe => { state := st, pending := pe, fn, tmps := a.tmps, params := #[t], assign, body, defers := w.heap.size } := ⟨_, rfl⟩
 obtain ⟨Wl, hWl⟩ : ∃ Wl, (w.alloc (.deferred (some []))).alloc (.loop (rec .ready none)) = Wl := ⟨_, rfl⟩
 have hLl : Wl.heap[w.heap.size + 1]? = some (.loop (rec .ready none)) := by
  rw [← hWl]; have := World.alloc_heap_new (w.alloc (.deferred (some []))) (.loop (rec .ready none)); rwa [World.size_alloc] at this
 have hDl : Wl.heap[w.heap.size]? = some (.deferred (some [])) := by
  rw [← hWl]; exact (Below.heap_alloc _ _ _ (by simp)).trans (World.alloc_heap_new w _)
 have hIl : I 0 Wl := by rw [← hWl]; exact hI _ _ _ (hI _ _ _ h0 ((Below.refl _ _).alloc (Nat.le_refl _) _)) ((Below.refl _ _).alloc (Nat.le_refl _) _)
 have hzl : Wl.heap.size = w.heap.size + 1 + 1 := by rw [← hWl]; simp
 have hbl : Below w0.heap.size w0 Wl := by
  rw [← hWl]; exact hb0.trans ((((Below.refl _ w).alloc (Nat.le_refl _) _).alloc (by simp) _).mono hb0.size)
 refine ⟨w.heap.size + 1, [{ target := .collected w.heap.size, args := #[] }], Wl, { target := .fn (.func gf) lb, args := #[.func (.yield (w.heap.size + 1)) #[] #[]] }, Wl, gf,
  #[.func (.yield (w.heap.size + 1)) #[] #[]] ++ lb, Wl, by rw [← hWl, hrec]; exact run_enterLoop_outer _ _ _ _ _, by simp only [resolve, hg]; simp [go_sem], fun f' hf' => trivial, by simp [invoke, go_sem, eg], fun _ => h1, ?_⟩
 refine (hseq (w.heap.size + 1) (fun k W => I k W ∧ W.heap[w.heap.size + 1]? = some (.loop (rec .ready none)) ∧ W.heap[w.heap.size]? = some (.deferred (some []))) Wl hbl ?_ ?_ ⟨hIl, hLl, hDl⟩).mono ?_
 · rintro k A A' ⟨hi, hl, hd⟩ hb
   exact ⟨hI _ _ _ hi hb, (hb.block _ (Array.getElem?_eq_some_iff.1 hl).1).trans hl, (hb.block _ (Array.getElem?_eq_some_iff.1 hd).1).trans hd⟩
 · rintro k W hk ⟨hi, hl, hd⟩
   have hlt : w.heap.size + 1 < W.heap.size := (Array.getElem?_eq_some_iff.1 hl).1
   have hy := run_yield (P := Tryz.prog) (args := #[E[k]]) hl (by rw [hrec]; rfl)
   rw [hrec] at hy
   refine ⟨fn, _, assign, body, hy, roundIn_of_wpIn hfn (hassign _ E[k] W _ ⟨_, run_beginRound hl (by rw [hrec]), ?_⟩)⟩
   obtain ⟨busy, hbusy⟩ : ∃ busy : Loop, busy = { rec .ready none with state := .busy } := ⟨_, rfl⟩
   have hl2 : (W.putObj (w.heap.size + 1) (.loop busy)).heap[w.heap.size + 1]? = some (.loop busy) := World.putObj_heap_same hlt
   have hd2 : (W.putObj (w.heap.size + 1) (.loop busy)).heap[w.heap.size]? = some (.deferred (some [])) := (World.putObj_heap_other (by omega)).trans hd
   have hkp : Kp W (W.putObj (w.heap.size + 1) (.loop busy)) := hKb _ _ _ hl
   rw [← hbusy]
   refine wpIn_mono (hbody _ k _ hk (hIp _ _ _ _ hi hl) hd2 ⟨_, hl2⟩) ?_
   rintro e a3 W3 hp
   cases e with
   | normal =>
    obtain ⟨hk3, hkp3, hi3⟩ := hp
    have hl3 := hk3.2.trans hl2
    have hr3 := run_endRound (P := Tryz.prog) none hl3
    rw [hbusy, hrec] at hr3
    refine ⟨_, _, hr3, rfl, ⟨hIp _ _ _ _ hi3 hl3, ?_, (World.putObj_heap_other (by omega)).trans (hk3.1.trans hd2)⟩, hKt (hKt hkp hkp3) (hKb _ _ _ hl3)⟩
    rw [hrec]
    exact World.putObj_heap_same (Array.getElem?_eq_some_iff.1 hl3).1
   | ret => exact hp.elim
   | exit id => exact hp.elim
   | goto t => exact hp.elim
   | panic ch => exact hp.elim
   | outgrown => exact hp.elim
 · rintro e W2 ⟨⟨v, rfl⟩, hi, hl, hd⟩
   exact ⟨none, _, by have := run_endLoop (P := Tryz.prog) hl (by rw [hrec]; simp); rw [hrec] at this; exact this, hdone _ _ (Nat.le_refl _) (hIp _ _ _ _ hi hl) ((World.putObj_heap_other (by omega)).trans hd)⟩
end Go.Proofs.YtchoopnjckcohaaGreatDoor
namespace Go.Proofs.YtchoopnjckcohaaGreatDoor
open Go.RowKit Go.Shelf
attribute [local go_sem] Oper.semAt_some
structure KpU (B : Nat) (W W' : World) : Prop where
 size : W.heap.size ≤ W'.heap.size
 tab : W'.heap[0]? = W.heap[0]?
 words : ∀ (b : Nat) (cs : Array Value) (fr : Nat × Nat), B ≤ b → W.heap[b]? = some (.cells cs 143 fr) → W'.heap[b]? = some (.cells cs 143 fr)
theorem KpU.refl (B : Nat) (W : World) : KpU B W W := ⟨Nat.le_refl _, rfl, fun _ _ _ _ h => h⟩
theorem KpU.trans {B : Nat} {W1 W2 W3 : World} (h : KpU B W1 W2) (k : KpU B W2 W3) : KpU B W1 W3 :=
 ⟨Nat.le_trans h.size k.size, k.tab.trans h.tab, fun b cs fr hb hc => k.words b cs fr hb (h.words b cs fr hb hc)⟩
theorem TabAt.kp {B : Nat} {W W' : World} (h : TabAt W) (k : KpU B W W') : TabAt W' := fun j hj => (World.cell?_of_block (a := ⟨0, j, none⟩) k.tab).trans (h j hj)
theorem elems_pre (X m : Nat) : ∀ k, k ≤ m → elems (64 * k) X <+: elems (64 * m) X := by
 intro k hk
 induction m with
 | zero => obtain rfl : k = 0 := by omega
           exact List.prefix_refl _
 | succ m ih =>
  by_cases h : k = m + 1
  · subst h; exact List.prefix_refl _
  · rw [elems_succ]; exact (ih (by omega)).trans (List.prefix_append _ _)
theorem round_any {m : Nat} (m' : Nat) {l : Nat} {f : FuncId} {tmps : Array Value} {assign body : Code} {w : World} {R : Ending → World → Prop}
 (h : RoundIn Fence.wide m Tryz.prog l f tmps assign body w R) : RoundIn Fence.wide m' Tryz.prog l f tmps assign body w R := ⟨h.1, fun c cs _ => h.2 c cs (room_wide _)⟩
theorem pre_at {E p s : List Nat} {x : Nat} (h : p ++ [x] ++ s = E) : ∃ hc : p.length < E.length, E[p.length] = x := by
 subst h
 exact ⟨by simp, by simp⟩
theorem walk_in (n l B g cap m X : Nat) (E : List Nat) (hE : Hid (elems (64 * m) X = E)) (J : Nat → World → Prop)
 (hY : ∀ (k c : Nat) (W1 : World) (hc : c < E.length), J c W1 → YieldAt Fence.wide k Tryz.prog l #[.int .i64 (E[c] : Int)] W1 fun e W' => e = .returned (.bool true) ∧ J (c + 1) W' ∧ KpU B W1 W')
 (W : World) (hT : TabAt W) (hblk : ∃ cs fr, W.heap[g]? = some (.cells cs 143 fr)) (hword : ∀ k, k < m → W.cell? ⟨g, k, none⟩ = some (.int .u64 (wordAt X k))) (hBg : B ≤ g) (hm : m ≤ 128) (h0 : J 0 W) :
 CallsIn Fence.wide n Tryz.prog 117 #[.slice (some ⟨g, 0, none⟩) m cap, .func (.yield l) #[] #[]] W fun e W' => (∃ v, e = .returned v) ∧ J E.length W' := by
 have hwk : ∀ wr k, KpU B W wr → k < m → wr.cell? ⟨g, k, none⟩ = some (.int .u64 (wordAt X k)) := by
  intro wr k hk hlt
  obtain ⟨cs, fr, hc⟩ := hblk
  exact (World.cell?_of_block (a := ⟨g, k, none⟩) ((hk.words g cs fr hBg hc).trans hc.symm)).trans (hword k hlt)
 have HW := hide hwk
 clear hwk hword hblk
 refine callsIn_of_wp Tryz.func117 rfl trivial ?_ rfl
 simp only [Tryz.ntmps117, List.size_toArray, List.length_cons, List.length_nil, Nat.reduceAdd, Nat.reduceSub, Array.replicate_succ, Array.replicate_zero, List.push_toArray, List.append_toArray, List.nil_append, List.cons_append]
 gi_wp2
 gi_loopw [8] (fun i wr => ∃ (k : Nat), k ≤ m ∧ i = .int .i64 k ∧ KpU B W wr ∧ J (elems (64 * k) X).length wr) (fun i _ => m - (intOf i).toNat)
 case atStart => exact ⟨0, Nat.zero_le _, rfl, KpU.refl _ _, by simpa [elems] using h0⟩
 case round =>
  obtain ⟨k, hk, rfl, hkp, hJ⟩ := hrel
  by_cases hlt : k < m
  · have hcw : wr.cell? ⟨g, k, none⟩ = some (.int .u64 (wordAt X k)) := HW.out wr k hkp hlt
    have hwl := wordAt_lt X k
    gi_wp2
    gi_loopw [5] (fun yy wi => ∃ (y : Nat) (pre : List Nat), yy = .int .u64 y ∧ y < 18446744073709551616 ∧ KpU B W wi ∧ J pre.length wi ∧ pre ++ (elems 64 y).map (64 * k + ·) = elems (64 * (k + 1)) X) (fun yy _ => (intOf yy).toNat)
    case atStart => exact ⟨_, elems (64 * k) X, rfl, hwl, hkp, hJ, (elems_succ X k).symm⟩
    case round =>
     clear hkp hJ hcw
     obtain ⟨y, pre, rfl, hy, hkp, hJ, hacc⟩ := hrel
     have HA := hide hacc
     clear hacc
     by_cases h0 : y = 0
     · have hyb : ((y : Int) != 0) = false := by simp [h0]
       have HY := hide h0
       clear h0
       gi_wp2
       go_roundw
       case rel =>
        have e := HA.out
        rw [HY.out, elems_zero] at e
        simp at e
        rw [e] at hJ
        exact ⟨k + 1, by omega, by go_num, hkp, hJ⟩
       case measure => simp [intOf]; omega
     · have hyb : ((y : Int) != 0) = true := by simp [h0]
       have hT2 : TabAt wr := hT.kp hkp
       have hc64 : Lib.ctz 64 y < 64 := by obtain ⟨_, _, h⟩ := ctz_spec y h0 hy; exact h
       have hstep : Hid (pre ++ [64 * k + Lib.ctz 64 y] ++ (elems 64 (y &&& (y - 1))).map (64 * k + ·) = elems (64 * (k + 1)) X) := by
        rw [← HA.out, elems_step y h0 hy]
        show _ = _
        simp
       obtain ⟨hc, hv⟩ : ∃ hc : pre.length < E.length, E[pre.length] = 64 * k + Lib.ctz 64 y := by
        obtain ⟨t, ht⟩ := elems_pre X m (k + 1) (by omega)
        rw [hE.out, ← hstep.out] at ht
        exact pre_at (s := (elems 64 (y &&& (y - 1))).map (64 * k + ·) ++ t) (by rw [← ht]; simp)
       have hyp := and_pred_u64 y h0 hy
       have hlt2 := and_pred_lt y h0
       obtain ⟨fn, tmps, assign, body, hyy, hR⟩ := hY (n - 1) pre.length wr hc hJ
       rw [hv] at hyy
       clear hv
       rw [show ((64 * k + Lib.ctz 64 y : Nat) : Int) = (k : Int) * 64 + (Lib.ctz 64 y : Int) by omega] at hyy
       gi_wp2
       refine ⟨trivial, (fun h => by cases h), (callsIn_wide.2 (tz_any y hy h0 _ hT2)).mono ?_⟩
       rintro e w' ⟨rfl, hw⟩
       obtain rfl := hw.symm
       clear hw
       gi_wp2
       refine ⟨(fun h => by cases h), hR.mono ?_⟩
       rintro e W3 ⟨rfl, hJ3, hk3⟩
       gi_wp2
       go_roundw
       case rel => exact ⟨y &&& (y - 1), pre ++ [64 * k + Lib.ctz 64 y], rfl, by omega, hkp.trans hk3, by simpa using hJ3, by simpa using hstep.out⟩
       case measure => simp [intOf]; omega
  · gi_wp2
    go_end0
    have hke : k = m := by omega
    subst hke
    rw [hE.out] at hJ
    exact ⟨⟨_, rfl⟩, hJ⟩
theorem own_words {W : World} {B g cap n X : Nat} (h : W.ownsRow B 143 1 (.slice (some ⟨g, 0, none⟩) (nw n) cap) (nw n) (wordVals n X)) :
 B ≤ g ∧ (∃ cs fr, W.heap[g]? = some (.cells cs 143 fr)) ∧ ∀ k, k < nw n → W.cell? ⟨g, k, none⟩ = some (.int .u64 (wordAt X k)) := by
 refine ⟨(h.lt g rfl).1, ?_, fun k hk => ?_⟩
 · rcases h.2 with ⟨h1, _⟩ | ⟨g', cap', cur, hv, _, hg, _⟩
   · cases h1
   · cases hv
     exact ⟨_, _, hg⟩
 · have := h.cells (g := g) rfl k _ (wordVals_get n X k hk)
   rw [Addr.add_lit] at this
   simpa using this
theorem info99 : (Tryz.prog.info? 143).map (fun i => (i.zero, i.size, i.bytes)) = some (some (.int .u64 0), 1, 8) := by kernel_rfl
theorem words_one (n X : Nat) : ∀ u ∈ wordVals n X, u.oneCell' = true := by
 intro u hu
 obtain ⟨k, _, rfl⟩ := List.mem_map.1 hu
 rfl
theorem new_cells {w : World} {g : Nat} {vs : List Value} (hg : g < w.heap.size) (h : ∀ (j : Nat) (u : Value), vs[j]? = some u → w.cell? ((⟨g, 0, none⟩ : Addr).add j) = some u) (o : Obj) :
 ∀ (j : Nat) (u : Value), vs[j]? = some u → (w.alloc o).cell? ((⟨g, 0, none⟩ : Addr).add j) = some u := fun j u hu => by
 have := h j u hu
 rw [Addr.add_lit] at this ⊢
 rw [World.cell?_of_block (w := w) (Below.heap_alloc w o g hg)]
 exact this
theorem clone_any (g cap n X : Nat) (w : World) (hn : n ≤ 8192) (hown : w.ownsRow 0 143 1 (.slice (some ⟨g, 0, none⟩) (nw n) cap) (nw n) (wordVals n X)) :
 Calls Tryz.prog 164 #[.slice (some ⟨g, 0, none⟩) (nw n) cap] w fun e w' => ∃ g' cap', e = .returned (.slice (some ⟨g', 0, none⟩) (nw n) cap') ∧ w'.ownsRow w.heap.size 143 1 (.slice (some ⟨g', 0, none⟩) (nw n) cap') (nw n) (wordVals n X) ∧ Below w.heap.size w w' := by
 obtain ⟨i0, hi, hz0, hz1, hz2⟩ := info_parts info99
 have hnw := nw_le hn
 have hglt := (hown.lt g rfl).2
 have hcells := hown.cells (g := g) rfl
 have heq : ∀ W : World, (binOp .eql 118 (.slice (some ⟨g, 0, none⟩) (nw n) cap) (.slice none 0 0)).run Tryz.prog W = .ok (.bool false) W := fun W => by
  have := Lib.run_eql_slice_nil (P := Tryz.prog) W 118 143 (some ⟨g, 0, none⟩) (nw n) cap 0 0 Tryz.underlying118
  simpa using this
 have hlen := wordVals_length n X
 have HL := hide hlen
 have HC := hide hcells
 clear hlen hcells
 go_enter Tryz.func164, Tryz.ntmps164
 go_wp2_with (at_builtin; refine wpList_append_own _ rfl _ _ _ rfl w.heap.size 143 i0 _ 1 8 Tryz.underlying118 hi hz0 hz1 hz2 rfl (by omega) (.slice (some ⟨w.heap.size, 0, none⟩) 0 0) 0 [] rfl (World.ownsRow_made w #[] 0 (Nat.le_refl _) (Nat.zero_le _) rfl) ⟨g, 0, none⟩ (nw n) cap (wordVals n X) rfl (by rw [HL.out, Nat.mul_one]) (new_cells hglt HC.out _) (words_one n X) (by unfold maxLen; omega) (by omega) (by simp) ?_)
 intro v' w1 ho hgr hnil
 have hv : ∃ g' cap', v' = .slice (some ⟨g', 0, none⟩) (nw n) cap' := by
  rcases ho.2 with ⟨hv, _⟩ | ⟨g', cap', cur, hv, _⟩
  · exact absurd hv hnil
  · exact ⟨g', cap', hv⟩
 obtain ⟨g', cap', rfl⟩ := hv
 have hb : Below w.heap.size w w1 := ((Below.refl _ _).alloc (Nat.le_refl _) _).grown hgr (by simp) (by intro k hk; simp [Value.ownBlock] at hk; omega)
 clear hgr hnil HC hown heq
 go_wp2
 go_ret
 exact ⟨g', cap', rfl, ho, hb⟩
theorem all_any (p : Option Addr) (w : World) :
 Calls Tryz.prog 151 #[.pointer p] w fun e w' => e = .returned (.func (.func 163) #[] #[.pointer (some ⟨w.heap.size, 0, none⟩)]) ∧ w' = w.alloc (.cells #[.pointer p] 81) := by
 go_enter Tryz.func151, Tryz.ntmps151
 go_wp2
 go_ret
 exact ⟨rfl, rfl⟩
theorem all_seq (n Bs b g cap m X : Nat) (w : World) (hbx : Boxed w Bs 81 (.pointer (some ⟨b, 0, none⟩))) (hs : IsSet w b g cap m X) (hT : TabAt w) :
 SeqP n 163 #[.pointer (some ⟨Bs, 0, none⟩)] (intV (elems m X)) (KpU w.heap.size) w := by
 intro l J W hW hJ hY h0
 have hpos : 0 < w.heap.size := Nat.lt_of_le_of_lt (Nat.zero_le _) hs.blt
 have hs1 := hs.below hW
 have hT1 := hT.below hW hpos
 have hb1 : Boxed W Bs 81 (.pointer (some ⟨b, 0, none⟩)) := (hW.block Bs hbx.lt).trans hbx
 have hc0 := hb1.cell
 have hc1 := hs1.c1
 have hn := hs.hn
 have hsz := hW.size
 have hfull := elems_full m (64 * nw m) X hs.hX (by unfold nw; omega)
 have HF : Hid (elems (64 * nw m) X = elems m X) := hfull
 have HO := hide hs1.own
 have HJ := hide hJ
 have HY := hide hY
 clear hfull hs1 hs hbx hW hb1 hJ hY
 refine callsIn_of_wp Tryz.func163 rfl trivial ?_ rfl
 simp only [Tryz.ntmps163, List.size_toArray, List.length_cons, List.length_nil, Nat.reduceAdd, Nat.reduceSub, Array.replicate_succ, Array.replicate_zero, List.push_toArray, List.append_toArray, List.nil_append, List.cons_append]
 gi_wp2
 refine ⟨trivial, (fun h => by cases h), (callsIn_wide.2 (clone_any g cap m X _ hn HO.out)).mono ?_⟩
 rintro e W2 ⟨g', cap', rfl, ho, hb2⟩
 obtain ⟨hg1, hblk, hword⟩ := own_words ho
 have hT2 := hT1.below hb2 (by omega)
 have hJ2 : J 0 W2 := HJ.out 0 W W2 h0 hb2
 clear ho hc0 hc1 HO
 gi_wp2
 refine ⟨trivial, (fun h => by cases h), (walk_in _ l w.heap.size g' cap' (nw m) X (elems m X) HF J (fun k c W1 hc hj => ?_) W2 hT2 hblk hword (by omega) (nw_le hn) hJ2).mono ?_⟩
 · obtain ⟨fn, tmps, assign, body, hy, hR⟩ := HY.out c W1 (by simpa [intV] using hc) hj
   have hv : (intV (elems m X))[c]'(by simpa [intV] using hc) = .int .i64 ((elems m X)[c] : Int) := by simp [intV]
   rw [hv] at hy
   exact ⟨fn, tmps, assign, body, hy, round_any k hR⟩
 · rintro e W3 ⟨⟨v, rfl⟩, hr⟩
   gi_wp2
   go_end0
   exact ⟨⟨_, rfl⟩, by simpa [intV] using hr⟩
end Go.Proofs.YtchoopnjckcohaaGreatDoor
namespace Go.Proofs.YtchoopnjckcohaaGreatDoor
open Go.RowKit Go.Maps
def SsE (l : List EdT) : Prop := l.Pairwise fun a b => ltE a b = true
theorem ltE_ir (x : EdT) : ltE x x = false := swoE.irrefl x
theorem ltE_as {x y : EdT} (h : ltE x y = true) (k : ltE y x = true) : False := by rw [ltE_iff] at h k; omega
theorem ss_eq : ∀ (A B : List EdT), SsE A → SsE B → (∀ x, x ∈ A ↔ x ∈ B) → A = B
 | [], [], _, _, _ => rfl
 | [], b :: B, _, _, h => absurd ((h b).2 (by simp)) (by simp)
 | a :: A, [], _, _, h => absurd ((h a).1 (by simp)) (by simp)
 | a :: A, b :: B, hA, hB, h => by
  unfold SsE at hA hB
  rw [List.pairwise_cons] at hA hB
  have e : a = b := by
   rcases List.mem_cons.1 ((h a).1 (by simp)) with q | q
   · exact q
   · rcases List.mem_cons.1 ((h b).2 (by simp)) with r | r
     · exact r.symm
     · exact (ltE_as (hB.1 a q) (hA.1 b r)).elim
  subst e
  congr 1
  refine ss_eq A B hA.2 hB.2 fun x => ⟨fun q => ?_, fun q => ?_⟩
  · rcases List.mem_cons.1 ((h x).1 (by simp [q])) with r | r
    · subst r; have := hA.1 x q; rw [ltE_ir] at this; cases this
    · exact r
  · rcases List.mem_cons.1 ((h x).2 (by simp [q])) with r | r
    · subst r; have := hB.1 x q; rw [ltE_ir] at this; cases this
    · exact r
theorem cp_mem {α : Type} [Inhabited α] [DecidableEq α] {zs : List α} {x : α} (h : x ∈ Lib.compact zs) : x ∈ zs := by
 unfold Lib.compact Lib.compactUpTo at h
 obtain ⟨j, hj, rfl⟩ := List.mem_map.1 h
 have hj' := List.mem_range.1 (List.mem_filter.1 hj).1
 rw [getElem!_pos _ j (by simpa using hj')]
 simp
theorem cp_has {α : Type} [Inhabited α] [DecidableEq α] {zs : List α} : ∀ (j : Nat) (h : j < zs.length), zs[j] ∈ Lib.compact zs
 | 0, h => by
  unfold Lib.compact Lib.compactUpTo
  refine List.mem_map.2 ⟨0, List.mem_filter.2 ⟨List.mem_range.2 h, by simp [Lib.keeps]⟩, ?_⟩
  simp [h]
 | j + 1, h => by
  by_cases e : zs[j + 1] = zs[j]
  · rw [e]; exact cp_has j (by omega)
  · unfold Lib.compact Lib.compactUpTo
    refine List.mem_map.2 ⟨j + 1, List.mem_filter.2 ⟨List.mem_range.2 h, ?_⟩, ?_⟩
    · unfold Lib.keeps
      rw [decide_eq_true_eq]
      right
      rw [getElem!_pos _ (j + 1) (by simpa using h), getElem!_pos _ (j + 1 - 1) (by simp; omega)]
      simpa using e
    · simp [h]
theorem cpE_ss {zs : List EdT} (hs : zs.Pairwise fun a b => ltE b a = false) : SsE (Lib.compact zs) := by
 have key : ∀ m, m ≤ zs.length → (Lib.compactUpTo zs.toArray m).Pairwise (fun a b => ltE a b = true) ∧ (∀ x ∈ Lib.compactUpTo zs.toArray m, ∃ j, j < m ∧ ∃ h : j < zs.length, x = zs[j]) := by
  intro m
  induction m with
  | zero => intro _; exact ⟨by simp [Lib.compactUpTo], fun x hx => by simp [Lib.compactUpTo] at hx⟩
  | succ m ih =>
   intro hm
   obtain ⟨k1, k2⟩ := ih (by omega)
   rw [Lib.compactUpTo_succ]
   by_cases hk : Lib.keeps zs.toArray m = true
   · rw [if_pos hk]
     have hm' : m < zs.length := by omega
     have em : zs.toArray[m]! = zs[m] := by simp [hm']
     refine ⟨?_, fun x hx => ?_⟩
     · rw [List.pairwise_append]
       refine ⟨k1, by simp, fun x hx y hy => ?_⟩
       rw [List.mem_singleton.1 hy, em]
       obtain ⟨j, hj, hjl, rfl⟩ := k2 x hx
       unfold Lib.keeps at hk
       rw [decide_eq_true_eq] at hk
       have hm0 : m ≠ 0 := by omega
       have hk2 := hk.resolve_left hm0
       have e1 : zs.toArray[m - 1]! = zs[m - 1] := by simp [show m - 1 < zs.length by omega]
       rw [em, e1] at hk2
       have l1 : ltE zs[m] zs[m - 1] = false := (List.pairwise_iff_getElem.1 hs) (m - 1) m (by omega) hm' (by omega)
       have l3 : ltE zs[m - 1] zs[m] = true := by
        cases q : ltE zs[m - 1] zs[m]
        · exact absurd (totE _ _ l1 q) hk2
        · rfl
       rcases Nat.lt_or_ge j (m - 1) with q | q
       · have l2 : ltE zs[m - 1] zs[j] = false := (List.pairwise_iff_getElem.1 hs) j (m - 1) hjl (by omega) q
         rw [ltE_iff] at l3 ⊢
         rw [ltE_not] at l2
         omega
       · have : j = m - 1 := by omega
         subst this; exact l3
     · rcases List.mem_append.1 hx with hx | hx
       · obtain ⟨j, hj, q⟩ := k2 x hx
         exact ⟨j, by omega, q⟩
       · rw [List.mem_singleton.1 hx]; exact ⟨m, by omega, hm', em⟩
   · rw [if_neg hk, List.append_nil]
     exact ⟨k1, fun x hx => by obtain ⟨j, hj, q⟩ := k2 x hx; exact ⟨j, by omega, q⟩⟩
 exact (key zs.length (Nat.le_refl _)).1
theorem sortE_up (L : List EdT) : (sortE L).Pairwise fun a b => ltE b a = false := by
 have hp : (sortE L).Pairwise fun a b => (!ltE b a) = true := List.pairwise_mergeSort (le := fun x y => !ltE y x) (fun a b c h1 h2 => by
  simp only [Bool.not_eq_true', ltE_not] at *
  omega) (fun a b => by
  cases h1 : ltE b a
  · simp
  · cases h2 : ltE a b
    · simp
    · exact (ltE_as h1 h2).elim) L
 exact hp.imp fun q => by simpa using q
theorem riseE_ss (L : List EdT) : SsE (riseE L) := cpE_ss (sortE_up L)
theorem riseE_iff (L : List EdT) (x : EdT) : x ∈ riseE L ↔ x ∈ L := by
 constructor
 · intro h
   have := cp_mem h
   unfold sortE at this
   exact List.mem_mergeSort.1 this
 · intro h
   have h' : x ∈ sortE L := by unfold sortE; exact List.mem_mergeSort.2 h
   obtain ⟨j, hj, rfl⟩ := List.getElem_of_mem h'
   exact cp_has j hj
theorem riseE_len (L : List EdT) : (riseE L).length ≤ L.length := Nat.le_trans (compact_len _) (Nat.le_of_eq (sortE_len L))
theorem riseL_iff (L : List Int) (x : Int) : x ∈ riseL L ↔ x ∈ L := by
 constructor
 · intro h
   have := cp_mem h
   unfold sortI at this
   exact List.mem_mergeSort.1 this
 · intro h
   have h' : x ∈ sortI L := by unfold sortI; exact List.mem_mergeSort.2 h
   obtain ⟨j, hj, rfl⟩ := List.getElem_of_mem h'
   exact cp_has j hj
theorem riseL_len (L : List Int) : (riseL L).length ≤ L.length := Nat.le_trans (compact_len _) (Nat.le_of_eq (sortI_len L))
theorem pre_count {α : Type} (P : α → Bool) : ∀ (L : List α), (L.Pairwise fun a b => P b = true → P a = true) → ∀ (i : Nat) (h : i < L.length), (P L[i] = true ↔ i < (L.filter P).length)
 | [], _, i, h => absurd h (Nat.not_lt_zero i)
 | a :: L, hp, i, h => by
  rw [List.pairwise_cons] at hp
  cases ha : P a
  · have hn : ∀ b ∈ L, P b = false := fun b hb => by
     cases hb2 : P b
     · rfl
     · rw [hp.1 b hb hb2] at ha; cases ha
    have hf : (a :: L).filter P = [] := by
     rw [List.filter_eq_nil_iff]
     intro b hb
     rcases List.mem_cons.1 hb with rfl | hb
     · simp [ha]
     · simp [hn b hb]
    rw [hf]
    cases i with
    | zero => simp [ha]
    | succ i =>
     have h2 : i < L.length := by simpa using h
     simp [hn L[i] (List.getElem_mem h2)]
  · rw [List.filter_cons_of_pos ha, List.length_cons]
    cases i with
    | zero => simp [ha]
    | succ i =>
     have h2 : i < L.length := by simpa using h
     have := pre_count P L hp.2 i h2
     rw [List.getElem_cons_succ, this]
     omega
def fromL (Es : List EdT) (p : Nat) (y : Int) : List EdT := Es.filter fun e => decide (e.1 = (p : Int) ∧ e.2.1 = y)
theorem fromL_iff {Es : List EdT} {p : Nat} {y : Int} {x : EdT} : x ∈ fromL Es p y ↔ x ∈ Es ∧ x.1 = (p : Int) ∧ x.2.1 = y := by
 unfold fromL
 rw [List.mem_filter, decide_eq_true_eq]
theorem fromL_ss {Es : List EdT} (hS : SsE Es) (p : Nat) (y : Int) : SsE (fromL Es p y) := List.Pairwise.filter _ hS
def subL (Es : List EdT) (lo hi : Nat) : List EdT := (Es.drop lo).take (hi - lo)
theorem subL_len {Es : List EdT} {lo hi : Nat} (h : hi ≤ Es.length) : (subL Es lo hi).length = hi - lo := by
 unfold subL; rw [List.length_take, List.length_drop]; omega
theorem subL_get {Es : List EdT} {lo hi : Nat} (t : Nat) (h : t < (subL Es lo hi).length) : ∃ h2 : lo + t < Es.length, (subL Es lo hi)[t] = Es[lo + t] := by
 unfold subL at h ⊢
 rw [List.length_take, List.length_drop] at h
 refine ⟨by omega, ?_⟩
 rw [List.getElem_take, List.getElem_drop]
theorem subL_ss {Es : List EdT} (hS : SsE Es) (lo hi : Nat) : SsE (subL Es lo hi) := List.Pairwise.sublist ((List.take_sublist _ _).trans (List.drop_sublist _ _)) hS
theorem subL_rd {w : World} {g o : Nat} {Es : List EdT} (h : RdE w (some ⟨g, o, none⟩) Es) (lo hi : Nat) : RdE w (some ⟨g, o + lo * 3, none⟩) (subL Es lo hi) := fun j hj => by
 obtain ⟨h2, e⟩ := subL_get j hj
 obtain ⟨g', o', he, q1, q2, q3⟩ := h (lo + j) h2
 cases he
 rw [e]
 have z : o + lo * 3 + j * 3 = o + (lo + j) * 3 := by omega
 exact ⟨g, o + lo * 3, rfl, by rw [z]; exact q1, by rw [z]; exact q2, by rw [z]; exact q3⟩
open Go.Shelf
def itl (l : List Nat) : List Int := l.map fun (i : Nat) => (i : Int)
theorem itl_len (l : List Nat) : (itl l).length = l.length := List.length_map _
theorem intV_itl (l : List Nat) : intV l = (itl l).map (Value.int .i64) := by simp [intV, itl]
theorem mem_itl {l : List Nat} {x : Int} : x ∈ itl l ↔ ∃ i ∈ l, (i : Int) = x := by simp [itl]
theorem setI_test (n : Nat) (q : Nat) (L : List Int) : (setI n L).testBit q = true ↔ ∃ i ∈ L, (0 ≤ i ∧ i < (n : Int)) ∧ i.toNat = q := by
 have key : ∀ (L : List Int) (X : Nat), (L.foldl (fun X i => if 0 ≤ i ∧ i < (n : Int) then X ||| 2 ^ i.toNat else X) X).testBit q = true ↔ X.testBit q = true ∨ ∃ i ∈ L, (0 ≤ i ∧ i < (n : Int)) ∧ i.toNat = q := by
  intro L
  induction L with
  | nil => intro X; simp
  | cons a L ih =>
   intro X
   rw [List.foldl_cons, ih]
   simp only [List.mem_cons, exists_eq_or_imp]
   by_cases h : 0 ≤ a ∧ a < (n : Int)
   · rw [if_pos h, Nat.testBit_or, Bool.or_eq_true, Nat.testBit_two_pow, decide_eq_true_eq]
     simp only [h, true_and, and_self]
     exact or_assoc
   · rw [if_neg h]
     simp only [h, false_and, false_or]
 unfold setI
 rw [key]
 simp
end Go.Proofs.YtchoopnjckcohaaGreatDoor
namespace Go.Proofs.YtchoopnjckcohaaGreatDoor
open Go.RowKit
attribute [local go_sem] Oper.semAt_some
theorem setOf_any (w : World) (N : Nat) (m : Int) (a1 a2 a3 ao : Option Addr) (n1 n2 n3 c1 c2 c3 cp : Nat) (L : List Int) (hr : Hid (RdN w ao L)) (hl : L.length ≤ 4194304) (hN : N ≤ 4096) (hin : Hid (L.all (inB N) = true)) :
 Calls Tryz.prog 126 #[.agg #[.int .i64 (N : Nat), .int .i64 m, .slice a1 n1 c1, .slice a2 n2 c2, .slice a3 n3 c3], .slice ao L.length cp] w fun e w' => ∃ b g cap, e = .returned (.pointer (some ⟨b, 0, none⟩)) ∧ IsSet w' b g cap N (setI N L) ∧ w.heap.size ≤ b ∧ w.heap.size ≤ g ∧ b ≠ g ∧ Below w.heap.size w w' := by
 obtain ⟨W0, hW0⟩ : ∃ W0, w.alloc (.cells #[.int .i64 (N : Nat), .int .i64 m, .slice a1 n1 c1, .slice a2 n2 c2, .slice a3 n3 c3] 25) = W0 := ⟨_, rfl⟩
 have d0 : Below w.heap.size w W0 := by rw [← hW0]; exact (Below.refl _ _).alloc (Nat.le_refl _) _
 have B0 : W0.heap[w.heap.size]? = some (.cells #[.int .i64 (N : Nat), .int .i64 m, .slice a1 n1 c1, .slice a2 n2 c2, .slice a3 n3 c3] 25 (0, 0)) := by rw [← hW0]; exact World.alloc_heap_new _ _
 have k0 : W0.cell? ⟨w.heap.size, 0, none⟩ = some (.int .i64 (N : Nat)) := cell_of B0 rfl
 have T : Calls Tryz.prog 150 #[.int .i64 N, .slice ao L.length cp] W0 fun e w' => ∃ b g cap, e = .returned (.tuple #[.pointer (some ⟨b, 0, none⟩), .int .i64 0]) ∧ IsSet w' b g cap N (setI N L) ∧ W0.heap.size ≤ b ∧ W0.heap.size ≤ g ∧ b ≠ g ∧ Below W0.heap.size W0 w' := (of81_any ao cp N L W0 (by omega) (readsI_of (hr.out.on d0)) (by omega)).mono fun e w' h => by
  rcases h with ⟨_, h⟩ | ⟨hf, _⟩
  · exact h
  · rw [okI_of hin.out] at hf
    cases hf
 have HD := hide d0
 clear d0 B0
 go_enter Tryz.func126, Tryz.ntmps126
 go_upto_region 2 with (go_at_call 150; refine T.mono ?_; rintro e w1 ⟨b, g, cap, rfl, hs, hb, hg, hbg, d1⟩)
 have HS := hide (And.intro hs (And.intro hb (And.intro hg (And.intro hbg d1))))
 clear hs hb hg hbg d1
 go_wp2
 go_ret
 obtain ⟨hs, hb, hg, hbg, d1⟩ := HS.out
 have z := HD.out.size
 exact ⟨b, g, cap, rfl, hs, by omega, by omega, hbg, HD.out.trans (d1.mono HD.out.size)⟩
open Go.Maps
theorem checkWord_any (w : World) (n m : Int) (a1 a2 a3 : Option Addr) (c1 c2 c3 : Nat) (St Fi : List Int) (Ed : List EdT) (hA : Hid (RdA w a1 a2 a3 St Fi Ed)) (h1 : St.length ≤ 4194304) (h2 : Fi.length ≤ 4194304) (h3 : Ed.length ≤ 4194304) (aw : Option Addr) (cw : Nat) (Wd : List Int) (hQ : Hid (RdN w aw Wd)) (hq : Wd.length ≤ 4194304) :
 Calls Tryz.prog 85 #[.agg #[.int .i64 n, .int .i64 m, .slice a1 St.length c1, .slice a2 Fi.length c2, .slice a3 Ed.length c3], .slice aw Wd.length cw] w fun e w' => e = .returned (.int .i64 (wordErr n m St Fi Ed Wd)) ∧ Below w.heap.size w w' := by
 obtain ⟨W0, hW0⟩ : ∃ W0, w.alloc (.cells #[.int .i64 n, .int .i64 m, .slice a1 St.length c1, .slice a2 Fi.length c2, .slice a3 Ed.length c3] 25) = W0 := ⟨_, rfl⟩
 have d0 : Below w.heap.size w W0 := by rw [← hW0]; exact (Below.refl _ _).alloc (Nat.le_refl _) _
 have B0 : W0.heap[w.heap.size]? = some (.cells #[.int .i64 n, .int .i64 m, .slice a1 St.length c1, .slice a2 Fi.length c2, .slice a3 Ed.length c3] 25 (0, 0)) := by rw [← hW0]; exact World.alloc_heap_new _ _
 have T1 := valid_any W0 n m a1 a2 a3 c1 c2 c3 St Fi Ed (hide (hA.out.on d0)) h1 h2 h3
 obtain ⟨k0, k1, k2, k3, k4⟩ := zd5 B0 rfl rfl rfl rfl rfl
 have HD := hide (And.intro d0 B0)
 have HQ := hide (hQ.out.on d0)
 clear d0 B0 hA hQ
 go_enter Tryz.func85, Tryz.ntmps85
 cases em : mayA n m St Fi Ed
 · rw [em] at T1
   have T1 : Calls Tryz.prog 75 #[.agg #[.int .i64 n, .int .i64 m, .slice a1 St.length c1, .slice a2 Fi.length c2, .slice a3 Ed.length c3]] W0 fun e w' => e = .returned (.int .i64 2) ∧ Below W0.heap.size W0 w' := T1
   go_wp2_with (go_at_call 75; refine T1.mono ?_; rintro e w1 ⟨rfl, d1⟩)
   go_ret
   exact ⟨by simp [wordErr, em], HD.out.1.trans (d1.mono HD.out.1.size)⟩
 · rw [em] at T1
   have T1 : Calls Tryz.prog 75 #[.agg #[.int .i64 n, .int .i64 m, .slice a1 St.length c1, .slice a2 Fi.length c2, .slice a3 Ed.length c3]] W0 fun e w' => e = .returned (.int .i64 0) ∧ Below W0.heap.size W0 w' := T1
   go_wp2_with (first
    | (go_at_call 75; refine T1.mono ?_; rintro e w1 ⟨rfl, d1⟩; have H1 := hide (And.intro d1 (blk_on HD.out.2 d1)); have y1 : w1.cell? ⟨w.heap.size, 1, none⟩ = some (.int .i64 m) := cell_of H1.out.2 rfl; have T2 := allWithin_any aw cw Wd m w1 (hide (HQ.out.on d1)) hq; clear d1)
    | (go_at_call 112; refine T2.mono ?_; rintro e w2 ⟨rfl, hw⟩; obtain rfl := hw.symm; cases e4 : Wd.all (inB m)))
   · go_wp2_with fail
     go_ret
     exact ⟨by simp [wordErr, em, e4], HD.out.1.trans (H1.out.1.mono HD.out.1.size)⟩
   · go_wp2_with fail
     go_ret
     exact ⟨by simp [wordErr, em, e4], HD.out.1.trans (H1.out.1.mono HD.out.1.size)⟩
theorem box3 (w : World) (A Z : Array Value) (t u : TypeId) : Below w.heap.size w ((w.alloc (.cells A t)).alloc (.cells Z u)) ∧ ((w.alloc (.cells A t)).alloc (.cells Z u)).heap[w.heap.size]? = some (.cells A t (0, 0)) ∧ ((w.alloc (.cells A t)).alloc (.cells Z u)).heap[w.heap.size + 1]? = some (.cells Z u (0, 0)) ∧ ((w.alloc (.cells A t)).alloc (.cells Z u)).heap.size = w.heap.size + 2 := by
 refine ⟨((Below.refl _ _).alloc (Nat.le_refl _) _).alloc (by simp) _, (Below.heap_alloc _ _ _ (by simp)).trans (World.alloc_heap_new _ _), ?_, by simp⟩
 have := World.alloc_heap_new (w.alloc (.cells A t)) (.cells Z u)
 simpa using this
theorem set6 (w : World) (b : Nat) (v0 v1 v2 v3 v4 v5 u0 u1 u2 u3 u4 u5 : Value) (t : TypeId) (h : w.heap[b]? = some (.cells #[v0, v1, v2, v3, v4, v5] t (0, 0))) :
 ((((((w.setCell ⟨b, 0, none⟩ u0).setCell ⟨b, 1, none⟩ u1).setCell ⟨b, 2, none⟩ u2).setCell ⟨b, 3, none⟩ u3).setCell ⟨b, 4, none⟩ u4).setCell ⟨b, 5, none⟩ u5).heap[b]? = some (.cells #[u0, u1, u2, u3, u4, u5] t (0, 0)) :=
 heap_setCell_same _ _ 5 _ t _ (heap_setCell_same _ _ 4 _ t _ (heap_setCell_same _ _ 3 _ t _ (heap_setCell_same _ _ 2 _ t _ (heap_setCell_same _ _ 1 _ t _ (heap_setCell_same _ _ 0 _ t _ h)))))
theorem only6 (w : World) (b : Nat) (u0 u1 u2 u3 u4 u5 : Value) : Only w ((((((w.setCell ⟨b, 0, none⟩ u0).setCell ⟨b, 1, none⟩ u1).setCell ⟨b, 2, none⟩ u2).setCell ⟨b, 3, none⟩ u3).setCell ⟨b, 4, none⟩ u4).setCell ⟨b, 5, none⟩ u5) (fun k => k = b) :=
 (only5 w b u0 u1 u2 u3 u4).trans (only_set _ _ 5 _)
def cntAt (L : List EdT) (c : Nat) : Nat := (L.filter fun e => decide (e.1 + 1 = (c : Int))).length
def lessC (L : List EdT) (c : Nat) : Nat := (L.filter fun e => decide (e.1 < (c : Int))).length
theorem cntAt_le (L : List EdT) (c : Nat) : cntAt L c ≤ L.length := List.length_filter_le _ _
theorem lessC_le (L : List EdT) (c : Nat) : lessC L c ≤ L.length := List.length_filter_le _ _
theorem cntAt_snoc (L : List EdT) (x : EdT) (c : Nat) : cntAt (L ++ [x]) c = cntAt L c + if x.1 + 1 = (c : Int) then 1 else 0 := by
 unfold cntAt
 rw [List.filter_append, List.length_append]
 by_cases h : x.1 + 1 = (c : Int) <;> simp [h]
theorem lessC_succ (L : List EdT) (c : Nat) : lessC L (c + 1) = cntAt L (c + 1) + lessC L c := by
 unfold lessC cntAt
 induction L with
 | nil => rfl
 | cons x L ih =>
  simp only [List.filter_cons]
  rcases Int.lt_trichotomy x.1 (c : Int) with h | h | h
  · rw [if_pos (by simp; omega), if_neg (by simp; omega), if_pos (by simpa using h), List.length_cons, List.length_cons, ih]; omega
  · rw [if_pos (by simp; omega), if_pos (by simp; omega), if_neg (by simp; omega), List.length_cons, List.length_cons, ih]; omega
  · rw [if_neg (by simp; omega), if_neg (by simp; omega), if_neg (by simp; omega), ih]
theorem lessC_zero (L : List EdT) (h : ∀ e ∈ L, 0 ≤ e.1) : lessC L 0 = 0 ∧ cntAt L 0 = 0 := by
 unfold lessC cntAt
 constructor <;> rw [List.length_eq_zero_iff, List.filter_eq_nil_iff] <;> intro e he <;> have := h e he <;> simp <;> omega
def firstV (L : List EdT) (p c : Nat) : Value := .int .i64 ((if c ≤ p then lessC L c else cntAt L c : Nat) : Int)
theorem newWalk_any (w : World) (N : Nat) (m : Int) (a1 a2 a3 : Option Addr) (l1 l2 c1 c2 c3 : Nat) (Ed : List EdT) (hN : N ≤ 4096) (hE : Hid (RdE w a3 Ed)) (hl : Ed.length ≤ 4194304) (hF : Hid (∀ e ∈ Ed, 0 ≤ e.1 ∧ e.1 < (N : Int))) :
 Calls Tryz.prog 125 #[.agg #[.int .i64 (N : Int), .int .i64 m, .slice a1 l1 c1, .slice a2 l2 c2, .slice a3 Ed.length c3]] w fun e w' => ∃ g, e = .returned (.agg #[.int .i64 (N : Int), .int .i64 m, .slice a1 l1 c1, .slice a2 l2 c2, .slice a3 Ed.length c3, .slice (some ⟨g, 0, none⟩) (N + 1) (N + 1)]) ∧ Mrw w' g 3 (N + 1) (fun c => .int .i64 (lessC Ed c : Nat)) (N + 1) ∧ w.heap.size ≤ g ∧ Below w.heap.size w w' := by
 obtain ⟨i9, hi9, hz90, hz91, hz92⟩ := info_parts info3
 obtain ⟨M, hM⟩ : ∃ M, M = madeCells (Value.int .i64 0).cells ((((N : Nat) : Int) + 1).toNat * i9.size) := ⟨_, rfl⟩
 have hmk : ∀ W : World, (Instr.makeSlice 22 (.int .i64 ((N : Int) + 1)) (.int .i64 ((N : Int) + 1))).run Tryz.prog W = .ok (.slice (some ⟨W.heap.size, 0, none⟩) (N + 1) (N + 1)) (W.alloc (.cells M 3)) := fun W => by
  have h := run_make (P := Tryz.prog) W 22 3 i9 (.int .i64 0) Tryz.underlying22 hi9 hz90 .i64 .i64 ((N : Int) + 1) ((N : Int) + 1) (by omega) (by omega) (by rw [hz92]; omega) (by omega)
  rw [← hM] at h
  rw [h]
  have : ((N : Int) + 1).toNat = N + 1 := by omega
  rw [this]
 have hwr : IntKind.i64.wrap ((N : Int) + 1) = (N : Int) + 1 := by unfold IntKind.wrap; simp [IntKind.bits, IntKind.signed]; omega
 have hmk : ∀ W : World, (Instr.makeSlice 22 (.int .i64 (IntKind.i64.wrap ((N : Int) + 1))) (.int .i64 (IntKind.i64.wrap ((N : Int) + 1)))).run Tryz.prog W = .ok (.slice (some ⟨W.heap.size, 0, none⟩) (N + 1) (N + 1)) (W.alloc (.cells M 3)) := by rw [hwr]; exact hmk
 clear hwr
 have HM := hide (And.intro hM hz91)
 clear hM hi9 hz90 hz91 hz92
 obtain ⟨W0, hW0⟩ : ∃ W0, (w.alloc (.cells #[.int .i64 (N : Int), .int .i64 m, .slice a1 l1 c1, .slice a2 l2 c2, .slice a3 Ed.length c3] 25)).alloc (.cells #[.int .i64 0, .int .i64 0, .slice none 0 0, .slice none 0 0, .slice none 0 0, .slice none 0 0] 124) = W0 := ⟨_, rfl⟩
 have HD := hide (box3 w #[.int .i64 (N : Int), .int .i64 m, .slice a1 l1 c1, .slice a2 l2 c2, .slice a3 Ed.length c3] #[.int .i64 0, .int .i64 0, .slice none 0 0, .slice none 0 0, .slice none 0 0, .slice none 0 0] 25 124)
 rw [hW0] at HD
 have B0 := HD.out.2.1
 obtain ⟨k0, k1, k2, k3, k4⟩ := zd5 B0 rfl rfl rfl rfl rfl
 clear B0
 go_enter Tryz.func125, Tryz.ntmps125
 go_upto_region 1 with fail
 go_cut [3] from 3 to 12 (fun p3 W => ∃ b g, p3 = .pointer (some ⟨b, 0, none⟩) ∧ Hid (W.heap[b]? = some (.cells #[.int .i64 (N : Int), .int .i64 m, .slice a1 l1 c1, .slice a2 l2 c2, .slice a3 Ed.length c3, .slice (some ⟨g, 0, none⟩) (N + 1) (N + 1)] 124 (0, 0)) ∧ W.heap[g]? = some (.cells M 3 (0, 0)) ∧ b ≠ g ∧ W0.heap.size ≤ b ∧ W0.heap.size ≤ g ∧ Below W0.heap.size W0 W))
 case first =>
  go_region_held3 (fun W2 => W2.cell? ⟨w.heap.size, 0, none⟩ = some (.int .i64 (N : Int)) ∧ W2.cell? ⟨w.heap.size, 1, none⟩ = some (.int .i64 m) ∧ W2.cell? ⟨w.heap.size, 2, none⟩ = some (.slice a1 l1 c1) ∧ W2.cell? ⟨w.heap.size, 3, none⟩ = some (.slice a2 l2 c2) ∧ W2.cell? ⟨w.heap.size, 4, none⟩ = some (.slice a3 Ed.length c3))
   (first | go_keep | assumption)
   (fail)
  · go_wp2_with fail
    go_meet
    refine ⟨W0.heap.size + 1, W0.heap.size, rfl, hide ?_⟩
    have q := box3 W0 M #[.int .i64 (N : Int), .int .i64 m, .slice a1 l1 c1, .slice a2 l2 c2, .slice a3 Ed.length c3, .slice (some ⟨W0.heap.size, 0, none⟩) (N + 1) (N + 1)] 3 124
    exact ⟨q.2.2.1, q.2.1, by omega, by omega, by omega, q.1.drew⟩
  · go_wp2_with fail
    go_meet
    refine ⟨W0.heap.size, W0.heap.size + 1, rfl, hide ?_⟩
    have q := box3 W0 #[.int .i64 (N : Int), .int .i64 m, .slice a1 l1 c1, .slice a2 l2 c2, .slice a3 Ed.length c3, .slice (some ⟨W0.heap.size + 1, 0, none⟩) (N + 1) (N + 1)] M 124 3
    exact ⟨q.2.1, q.2.2.1, by omega, by omega, by omega, q.1.drew⟩
 case rest =>
  obtain ⟨b, g, rfl, HX⟩ := hcut
  rename World => wx
  clear hmk k0 k1 k2 k3 k4
  have y4 : wx.cell? ⟨w.heap.size, 4, none⟩ = some (.slice a3 Ed.length c3) := cell_of (blk_on HD.out.2.1 HX.out.2.2.2.2.2) rfl
  have m0 : Mrw wx g 3 (N + 1) (fun c => .int .i64 (cntAt (Ed.take 0) c : Nat)) (N + 1) := by
   refine ⟨M, HX.out.2.1, by rw [HM.out.1, HM.out.2, size_madeCells]; omega, fun j hj => ?_⟩
   rw [HM.out.1, HM.out.2]
   rw [← Array.getElem?_toList, show (Value.int .i64 0).cells = #[Value.int .i64 0] from rfl, toList_madeCells_one, List.getElem?_replicate, if_pos (by omega)]
   simp [cntAt]
  have H0 := hide (And.intro m0 (And.intro HX.out.1 HX.out.2.2.2.2.2))
  have HP := hide (And.intro HX.out.2.2.1 (And.intro HX.out.2.2.2.1 HX.out.2.2.2.2.1))
  clear m0 HX
  go_wp2
  go_loopw [16] (fun iv wr => ∃ i : Nat, i ≤ Ed.length ∧ iv = .int .i64 i ∧ Hid (Mrw wr g 3 (N + 1) (fun c => .int .i64 (cntAt (Ed.take i) c : Nat)) (N + 1) ∧ wr.heap[b]? = some (.cells #[.int .i64 (N : Int), .int .i64 m, .slice a1 l1 c1, .slice a2 l2 c2, .slice a3 Ed.length c3, .slice (some ⟨g, 0, none⟩) (N + 1) (N + 1)] 124 (0, 0)) ∧ Below W0.heap.size W0 wr)) (fun iv _ => Ed.length - (intOf iv).toNat)
  case atStart => exact ⟨0, Nat.zero_le _, rfl, H0⟩
  case round =>
   obtain ⟨i, hi, rfl, HY⟩ := hrel
   clear H0 y4
   by_cases hil : i < Ed.length
   · have i0 : (0 : Int) ≤ (i : Int) := by omega
     have i1 : (i : Int) < (Ed.length : Int) := by omega
     obtain ⟨ge, o, rfl, q1, q2, q3⟩ := (hE.out.on (HD.out.1.trans (HY.out.2.2.mono HD.out.1.size))) i hil
     have HTk := hide (show Ed.take (i + 1) = Ed.take i ++ [Ed[i]] by rw [List.take_add_one, List.getElem?_eq_getElem hil]; rfl)
     have HN := hide (hF.out Ed[i] (List.getElem_mem hil))
     obtain ⟨x, hx⟩ : ∃ x, Ed[i] = x := ⟨_, rfl⟩
     rw [hx] at q1 q2 q3 HTk HN
     clear hx
     obtain ⟨x1, x2, x3⟩ := x
     obtain ⟨j1, hj1⟩ := Int.eq_ofNat_of_zero_le HN.out.1
     have hj1 : x1 = (j1 : Int) := hj1
     subst hj1
     have hl1 : j1 < N := by have := HN.out.2; simp only at this; omega
     obtain ⟨W1, hW1⟩ : ∃ W1, wr.alloc (.cells #[.int .i64 (j1 : Int), .int .i64 x2, .int .i64 x3] 61) = W1 := ⟨_, rfl⟩
     have HW : Hid (W1.heap[wr.heap.size]? = some (.cells #[.int .i64 (j1 : Int), .int .i64 x2, .int .i64 x3] 61 (0, 0)) ∧ Below wr.heap.size wr W1) := hide (by rw [← hW1]; exact ⟨World.alloc_heap_new _ _, (Below.refl _ _).alloc (Nat.le_refl _) _⟩)
     have y0 : W1.cell? ⟨wr.heap.size, 0, none⟩ = some (.int .i64 (j1 : Int)) := cell_of HW.out.1 rfl
     have y5 : W1.cell? ⟨b, 5, none⟩ = some (.slice (some ⟨g, 0, none⟩) (N + 1) (N + 1)) := cell_of (blk_on HY.out.2.1 HW.out.2) rfl
     have M1 : Hid (Mrw W1 g 3 (N + 1) (fun c => .int .i64 (cntAt (Ed.take i) c : Nat)) (N + 1)) := hide (HY.out.1.below HW.out.2 HY.out.1.lt)
     have r0 := M1.out.at (j1 + 1) (by omega)
     have r1 := M1.out.fz (j1 + 1)
     have hc := Nat.le_trans (cntAt_le (Ed.take i) (j1 + 1)) (by rw [List.length_take]; omega : (Ed.take i).length ≤ i)
     obtain ⟨cn, hcn⟩ : ∃ cn, cntAt (Ed.take i) (j1 + 1) = cn := ⟨_, rfl⟩
     simp only [hcn] at r0 hc
     have HC := hide hcn
     have i2 : (0 : Int) ≤ (j1 : Int) := by omega
     have i3 : (j1 : Int) < (N : Int) := by omega
     have i4 : (j1 : Int) + 1 < (N : Int) + 1 := by omega
     have i5 : (0 : Int) ≤ (j1 : Int) + 1 := by omega
     have i6 : (cn : Int) ≤ 4194304 := by omega
     have i7 : (0 : Int) ≤ (cn : Int) := by omega
     clear hcn
     go_wp2
     have hb1 := blk_on HY.out.2.1 HW.out.2
     refine ⟨⟨i + 1, by omega, by go_num, hide ⟨(M1.out.upd (j1 + 1) _).congr fun c hc => ?_, ((only_set W1 g (j1 + 1) _).block b (Array.getElem?_eq_some_iff.1 hb1).1 (fun e => HP.out.1 e)).trans hb1, (HY.out.2.2.trans (HW.out.2.mono HY.out.2.2.size)).trans ((only_set W1 g (j1 + 1) _).toBelow (Nat.le_trans HY.out.2.2.size HW.out.2.size) (fun k hk => by rw [hk]; exact HP.out.2.2))⟩⟩, by simp [intOf]; omega⟩
     rw [HTk.out, cntAt_snoc]
     by_cases e : c = j1 + 1
     · subst e
       rw [if_pos rfl, if_pos (by simp), HC.out]
       rfl
     · rw [if_neg e, if_neg (by simp only; omega)]
       rfl
   · obtain rfl : Ed.length = i := by omega
     have i1 : ¬ (Ed.length : Int) < (Ed.length : Int) := by omega
     have y0 : wr.cell? ⟨w.heap.size, 0, none⟩ = some (.int .i64 (N : Int)) := cell_of (blk_on HD.out.2.1 HY.out.2.2) rfl
     have HZ : Hid (Mrw wr g 3 (N + 1) (firstV Ed 0) (N + 1) ∧ wr.heap[b]? = some (.cells #[.int .i64 (N : Int), .int .i64 m, .slice a1 l1 c1, .slice a2 l2 c2, .slice a3 Ed.length c3, .slice (some ⟨g, 0, none⟩) (N + 1) (N + 1)] 124 (0, 0)) ∧ Below W0.heap.size W0 wr) := hide ⟨HY.out.1.congr (fun c _ => by
      unfold firstV
      rw [List.take_length]
      by_cases e : c ≤ 0
      · obtain rfl : c = 0 := by omega
        have q := lessC_zero Ed (fun e he => (hF.out e he).1)
        rw [if_pos e, q.1, q.2]
      · rw [if_neg e]), HY.out.2⟩
     clear HY
     go_wp2
     go_loopw [32] (fun iv wr2 => ∃ p : Nat, p ≤ N ∧ iv = .int .i64 p ∧ Hid (Mrw wr2 g 3 (N + 1) (firstV Ed p) (N + 1) ∧ wr2.heap[b]? = some (.cells #[.int .i64 (N : Int), .int .i64 m, .slice a1 l1 c1, .slice a2 l2 c2, .slice a3 Ed.length c3, .slice (some ⟨g, 0, none⟩) (N + 1) (N + 1)] 124 (0, 0)) ∧ Below W0.heap.size W0 wr2)) (fun iv _ => N - (intOf iv).toNat)
     case atStart => exact ⟨0, Nat.zero_le _, rfl, HZ⟩
     case round =>
      obtain ⟨p, hp, rfl, HQ⟩ := hrel
      clear HZ y0
      by_cases hlt : p < N
      · have j0 : (0 : Int) ≤ (p : Int) := by omega
        have j1 : (p : Int) < (N : Int) := by omega
        have j2 : (p : Int) < (N : Int) + 1 := by omega
        have j3 : (p : Int) + 1 < (N : Int) + 1 := by omega
        have j4 : (0 : Int) ≤ (p : Int) + 1 := by omega
        have r0 := HQ.out.1.at p (by omega)
        have r1 := HQ.out.1.at (p + 1) (by omega)
        have r2 := HQ.out.1.fz (p + 1)
        have y5 : wr.cell? ⟨b, 5, none⟩ = some (.slice (some ⟨g, 0, none⟩) (N + 1) (N + 1)) := cell_of HQ.out.2.1 rfl
        unfold firstV at r0 r1
        rw [if_pos (Nat.le_refl _)] at r0
        rw [if_neg (by omega)] at r1
        have u0 := lessC_le Ed p
        have u1 := cntAt_le Ed (p + 1)
        have HS := hide (lessC_succ Ed p)
        generalize lessC Ed p = s at r0 u0 HS
        generalize cntAt Ed (p + 1) = c at r1 u1 HS
        have v0 : (s : Int) ≤ 4194304 := by omega
        have v1 : (c : Int) ≤ 4194304 := by omega
        have v2 : (0 : Int) ≤ (s : Int) := by omega
        have v3 : (0 : Int) ≤ (c : Int) := by omega
        go_wp2
        refine wp_region_phase 12 #[true, true, true, true, true, true, true, true, true, true, true, true, false, false] (by kernel_rfl) (by kernel_rfl) ?_
        simp only [List.take_succ_cons, List.take_zero, List.drop_succ_cons, List.drop_zero]
        repeat (go_big_quiet_step (fail))
        refine wpQuiet_nil ?_
        intro wz hzz
        obtain ⟨nq, rfl⟩ := hzz
        go_wp2_with fail
        have hb1 : (wr.drewN nq).heap[b]? = some (.cells #[.int .i64 (N : Int), .int .i64 m, .slice a1 l1 c1, .slice a2 l2 c2, .slice a3 Ed.length c3, .slice (some ⟨g, 0, none⟩) (N + 1) (N + 1)] 124 (0, 0)) := HQ.out.2.1
        have mq : Mrw (wr.drewN nq) g 3 (N + 1) (firstV Ed p) (N + 1) := HQ.out.1
        refine ⟨⟨p + 1, by omega, by go_num, hide ⟨(mq.upd (p + 1) _).congr fun k hk => ?_, ((only_set _ g (p + 1) _).block b (Array.getElem?_eq_some_iff.1 hb1).1 (fun e => HP.out.1 e)).trans hb1, (below_drewN' HQ.out.2.2 nq).trans ((only_set _ g (p + 1) _).toBelow HQ.out.2.2.size (fun k hk => by rw [hk]; exact HP.out.2.2))⟩⟩, by simp [intOf]; omega⟩
        unfold firstV
        by_cases e : k = p + 1
        · subst e
          rw [if_pos rfl, if_pos (Nat.le_refl _), HS.out]
          rfl
        · rw [if_neg e]
          by_cases e2 : k ≤ p
          · rw [if_pos e2, if_pos (by omega)]
          · rw [if_neg e2, if_neg (by omega)]
      · obtain rfl : p = N := by omega
        have j1 : ¬ (p : Int) < (p : Int) := by omega
        have F3 := blk_on HD.out.2.2.1 HQ.out.2.2
        have HQ2 := HQ.out.2.1
        obtain ⟨o0, o1, o2, o3, o4, o5⟩ := zd6 F3 rfl rfl rfl rfl rfl rfl
        have f0 : wr.frozen? ⟨w.heap.size + 1, 0, none⟩ = false := fz_of F3
        have f1 : wr.frozen? ⟨w.heap.size + 1, 1, none⟩ = false := fz_of F3
        have f2 : wr.frozen? ⟨w.heap.size + 1, 2, none⟩ = false := fz_of F3
        have f3 : wr.frozen? ⟨w.heap.size + 1, 3, none⟩ = false := fz_of F3
        have f4 : wr.frozen? ⟨w.heap.size + 1, 4, none⟩ = false := fz_of F3
        have f5 : wr.frozen? ⟨w.heap.size + 1, 5, none⟩ = false := fz_of F3
        obtain ⟨k0, k1, k2, k3, k4, k5⟩ := zd6 HQ2 rfl rfl rfl rfl rfl rfl
        have HF3 := hide F3
        clear F3 HQ2
        have O6 := hide (And.intro (set6 wr (w.heap.size + 1) _ _ _ _ _ _ (.int .i64 (p : Int)) (.int .i64 m) (.slice a1 l1 c1) (.slice a2 l2 c2) (.slice a3 Ed.length c3) (.slice (some ⟨g, 0, none⟩) (p + 1) (p + 1)) 124 HF3.out) (only6 wr (w.heap.size + 1) (.int .i64 (p : Int)) (.int .i64 m) (.slice a1 l1 c1) (.slice a2 l2 c2) (.slice a3 Ed.length c3) (.slice (some ⟨g, 0, none⟩) (p + 1) (p + 1))))
        go_wp2
        refine bodyPost_ret (results_cell_row (p := 2) (ty := 124) rfl _ _ (w.heap.size + 1) 124 _ (0, 0) _ rfl O6.out.1 Tryz.underlying124 rfl (by kernel_rfl)) rfl ?_
        have z0 := HD.out.2.2.2
        have z1 := HQ.out.2.2.size
        have z2 := HP.out.2.2
        refine ⟨g, rfl, ?_, by omega, (HD.out.1.trans (HQ.out.2.2.mono (by omega))).trans (O6.out.2.toBelow (by omega) (fun k hk => by omega))⟩
        refine (HQ.out.1.only O6.out.2 (by omega)).congr fun c hc => ?_
        unfold firstV
        rw [if_pos (by omega)]
end Go.Proofs.YtchoopnjckcohaaGreatDoor
