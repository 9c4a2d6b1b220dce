import Derived.Test.YtchoopnjckcohaaGreatDoorQad
import Derived.Lib.SliceRun
import Derived.Lib.SlicesCompact
import Derived.Laws.CopyOwn
import Derived.Sort.OwnSortedInts
import Derived.Shelf.Small.Bits
import Derived.Shelf.Small.Wraps
import Derived.Shelf.Strconv.Itoa0
import Derived.Shelf.Slices.Turned
import Derived.Shelf.Slices.Equal
import Derived.Shelf.Slices.CompactI
import Derived.Shelf.Slices.SearchI
import Derived.Shelf.Slices.Cells
import Derived.Shelf.Slices.Empties2
import Derived.Shelf.SlicesE.Clone
import Derived.Shelf.SlSortCmp.Insertion
import Derived.Shelf.SlSortCmp.SiftDown1
import Derived.Shelf.SlSortCmp.HeapSort1
import Derived.Shelf.SlSortCmp.Insertion1
import Derived.Shelf.SlSortCmp.Median1
import Derived.Shelf.SlSortCmp.Pivot1
import Derived.Shelf.SlSortCmp.ReverseRange1
import Derived.Shelf.SlSortCmp.PartialInsertion1
import Derived.Shelf.SlSortCmp.PartitionEqual1
import Derived.Shelf.SlSortCmp.Partition1
import Derived.Shelf.SlSortCmp.Pdq1
import Derived.Shelf.SlSortCmp.Whole1
import Derived.Ground.Names2Prog
set_option maxRecDepth 100000
set_option maxHeartbeats 40000000
namespace Go.Proofs.YtchoopnjckcohaaGreatDoor
open Go.RowKit Go.Maps
attribute [local go_sem] Oper.semAt_some
def Mrw (W : World) (H : Nat) (t : TypeId) (N : Nat) (val : Nat → Value) (k : Nat) : Prop :=
 ∃ cur : Array Value, W.heap[H]? = some (.cells cur t (0, 0)) ∧ cur.size = N ∧ ∀ j, j < k → cur[j]? = some (val j)
theorem Mrw.cell {W : World} {H : Nat} {t : TypeId} {N : Nat} {val : Nat → Value} {k : Nat} (h : Mrw W H t N val k) (j : Nat) (hj : j < N) : ∃ u, W.cell? ⟨H, j, none⟩ = some u := by
 obtain ⟨cur, h1, h2, _⟩ := h
 exact ⟨cur[j]'(by omega), cell_of h1 (Array.getElem?_eq_getElem (by omega))⟩
theorem Mrw.fz {W : World} {H : Nat} {t : TypeId} {N : Nat} {val : Nat → Value} {k : Nat} (h : Mrw W H t N val k) (j : Nat) : W.frozen? ⟨H, j, none⟩ = false := by
 obtain ⟨cur, h1, _⟩ := h
 exact fz_of h1
theorem Mrw.put {W : World} {H : Nat} {t : TypeId} {N : Nat} {val : Nat → Value} {k : Nat} (h : Mrw W H t N val k) (hk : k < N) (u : Value) (hu : val k = u) : Mrw (W.setCell ⟨H, k, none⟩ u) H t N val (k + 1) := by
 obtain ⟨cur, h1, h2, h3⟩ := h
 refine ⟨_, heap_setCell_same W H k cur t u h1, by simpa using h2, fun i hi => ?_⟩
 by_cases e : i = k
 · subst e
   rw [Array.getElem?_setIfInBounds_self_of_lt (by omega), hu]
 · rw [Array.getElem?_setIfInBounds_ne (by omega)]
   exact h3 i (by omega)
theorem Mrw.at {W : World} {H : Nat} {t : TypeId} {N : Nat} {val : Nat → Value} {k : Nat} (h : Mrw W H t N val k) (j : Nat) (hj : j < k) : W.cell? ⟨H, j, none⟩ = some (val j) := by
 obtain ⟨cur, h1, h2, h3⟩ := h
 exact cell_of h1 (h3 j hj)
theorem Mrw.below {W W' : World} {H : Nat} {t : TypeId} {N : Nat} {val : Nat → Value} {k B : Nat} (h : Mrw W H t N val k) (d : Below B W W') (hB : H < B) : Mrw W' H t N val k := by
 obtain ⟨cur, h1, h2, h3⟩ := h
 exact ⟨cur, (d.block _ hB).trans h1, h2, h3⟩
theorem Mrw.lt {W : World} {H : Nat} {t : TypeId} {N : Nat} {val : Nat → Value} {k : Nat} (h : Mrw W H t N val k) : H < W.heap.size := by
 obtain ⟨cur, h1, _⟩ := h
 exact (Array.getElem?_eq_some_iff.1 h1).1
theorem Mrw.ofRow {W : World} {b H : Nat} {t : TypeId} {sz n : Nat} {xs : List Value} (val : Nat → Value) (h : W.ownsRow b t sz (.slice (some ⟨H, 0, none⟩) n n) n xs) : Mrw W H t (n * sz) val 0 := by
 obtain ⟨h0, h1⟩ := h
 rcases h1 with ⟨e, _⟩ | ⟨g, cap, cur, e, h2, h3, h4, h5, h6, h7⟩
 · cases e
 · cases e
   exact ⟨cur, h3, h6, fun j hj => by omega⟩
theorem only_set (w : World) (g k : Nat) (v : Value) : Only w (w.setCell ⟨g, k, none⟩ v) (fun i => i = g) :=
 ⟨rfl, rfl, rfl, by simp [World.setCell], fun i _ hn => Below.heap_setCell _ _ _ _ (fun e => hn (by rw [e]))⟩
theorem row_only {w w' : World} {R : Nat → Prop} {B : Nat} {e : TypeId} {sz n : Nat} {v : Value} {xs : List Value} (h : w.ownsRow B e sz v n xs) (ho : Only w w' R) (hn : ∀ k, v.ownBlock = some k → ¬ R k) : w'.ownsRow B e sz v n xs := by
 refine ⟨h.1, ?_⟩
 have hlt := h.lt
 rcases h.2 with h2 | ⟨g, cap, cur, rfl, hb, hg, rest⟩
 · exact .inl h2
 · exact .inr ⟨g, cap, cur, rfl, hb, (ho.block g (hlt g rfl).2 (hn g rfl)).trans hg, rest⟩
theorem only3 (W : World) (b i j k : Nat) (x y z : Value) : Only W (((W.setCell ⟨b, i, none⟩ x).setCell ⟨b, j, none⟩ y).setCell ⟨b, k, none⟩ z) (fun q => q = b) := ((only_set W b i x).trans (only_set _ b j y)).trans (only_set _ b k z)
theorem below_drewN2 {B : Nat} {w w' : World} (d : Below B w w') (n : Nat) : Below B w (w'.drewN n) := ⟨d.os, d.tape, d.output, d.size, d.block⟩
theorem Mrw.upd {W : World} {H : Nat} {t : TypeId} {N : Nat} {f : Nat → Value} (h : Mrw W H t N f N) (j : Nat) (u : Value) : Mrw (W.setCell ⟨H, j, none⟩ u) H t N (fun c => if c = j then u else f c) N := by
 obtain ⟨cur, h1, h2, h3⟩ := h
 refine ⟨_, heap_setCell_same W H j cur t u h1, by simpa using h2, fun i hi => ?_⟩
 by_cases e : i = j
 · subst e
   rw [Array.getElem?_setIfInBounds_self_of_lt (by omega)]
   simp
 · rw [Array.getElem?_setIfInBounds_ne (by omega), h3 i hi]
   simp [e]
theorem Mrw.congr {W : World} {H : Nat} {t : TypeId} {N : Nat} {f g : Nat → Value} (h : Mrw W H t N f N) (e : ∀ c, c < N → f c = g c) : Mrw W H t N g N := by
 obtain ⟨cur, h1, h2, h3⟩ := h
 exact ⟨cur, h1, h2, fun j hj => by rw [h3 j hj, e j hj]⟩
theorem Mrw.only {W W' : World} {H : Nat} {t : TypeId} {N : Nat} {f : Nat → Value} {P : Nat → Prop} (h : Mrw W H t N f N) (o : Only W W' P) (hP : ¬ P H) : Mrw W' H t N f N := by
 have hl := h.lt
 obtain ⟨cur, h1, h2, h3⟩ := h
 exact ⟨cur, (o.block H hl hP).trans h1, h2, h3⟩
theorem edges_at {w : World} {g o : Nat} {L : List EdT} (h : RdE w (some ⟨g, o, none⟩) L) (j : Nat) (u : Value) (hu : (L.flatMap encE)[j]? = some u) : w.cell? ⟨g, o + j, none⟩ = some u := by
 have hz : (L.flatMap encE).length = L.length * 3 := by
  clear h hu
  induction L with
  | nil => rfl
  | cons x L ih => rw [List.flatMap_cons, List.length_append, ih, encE_len, List.length_cons]; omega
 have hj : j < L.length * 3 := by
  have := (List.getElem?_eq_some_iff.1 hu).1
  omega
 have h1 : j / 3 < L.length := by omega
 have e := flat_get encE 3 encE_len L (j / 3) (j % 3) h1 (by omega)
 rw [show j / 3 * 3 + j % 3 = j by omega, hu] at e
 obtain ⟨g', o', e', c0, c1, c2⟩ := h (j / 3) h1
 cases e'
 have h3 : j % 3 = 0 ∨ j % 3 = 1 ∨ j % 3 = 2 := by omega
 rcases h3 with q | q | q
 · rw [q] at e
   rw [show o + j = o + j / 3 * 3 by omega, c0]
   exact e.symm
 · rw [q] at e
   rw [show o + j = o + j / 3 * 3 + 1 by omega, c1]
   exact e.symm
 · rw [q] at e
   rw [show o + j = o + j / 3 * 3 + 2 by omega, c2]
   exact e.symm
theorem encE_one (L : List EdT) : ∀ u ∈ L.flatMap encE, u.oneCell' = true := by
 intro u hu
 obtain ⟨x, _, hx⟩ := List.mem_flatMap.1 hu
 simp only [encE, List.mem_cons, List.not_mem_nil, or_false] at hx
 rcases hx with rfl | rfl | rfl <;> rfl
theorem encE_flat (L : List EdT) : (L.flatMap encE).length = L.length * 3 := by
 induction L with
 | nil => rfl
 | cons x L ih => rw [List.flatMap_cons, List.length_append, ih, encE_len, List.length_cons]; omega
def EdF (f : Nat → Value) (d : Array EdT) : Prop := ∀ j, j < d.size → f (j * 3) = .int .i64 d[j]!.1 ∧ f (j * 3 + 1) = .int .i64 d[j]!.2.1 ∧ f (j * 3 + 2) = .int .i64 d[j]!.2.2
theorem EdF.set {f : Nat → Value} {d : Array EdT} (h : EdF f d) (k : Nat) (x : EdT) : EdF (fun c => if c = k * 3 + 2 then .int .i64 x.2.2 else if c = k * 3 + 1 then .int .i64 x.2.1 else if c = k * 3 then .int .i64 x.1 else f c) (d.setIfInBounds k x) := by
 intro j hj
 rw [Array.size_setIfInBounds] at hj
 by_cases e : j = k
 · subst e
   rw [Sort.getElem!_set_same d j x hj]
   refine ⟨?_, ?_, ?_⟩
   · show (if _ then _ else _) = _
     rw [if_neg (by omega), if_neg (by omega), if_pos rfl]
   · show (if _ then _ else _) = _
     rw [if_neg (by omega), if_pos rfl]
   · show (if _ then _ else _) = _
     rw [if_pos rfl]
 · rw [Sort.getElem!_set_other d k j x e]
   obtain ⟨h0, h1, h2⟩ := h j hj
   refine ⟨?_, ?_, ?_⟩
   · show (if _ then _ else _) = _
     rw [if_neg (by omega), if_neg (by omega), if_neg (by omega)]; exact h0
   · show (if _ then _ else _) = _
     rw [if_neg (by omega), if_neg (by omega), if_neg (by omega)]; exact h1
   · show (if _ then _ else _) = _
     rw [if_neg (by omega), if_neg (by omega), if_neg (by omega)]; exact h2
theorem edF_cells {W : World} {g N : Nat} {f : Nat → Value} {d : Array EdT} (hM : Mrw W g 61 N f N) (hF : EdF f d) (hN : d.size * 3 ≤ N) {j : Nat} (hj : j < d.size) {x0 x1 x2 : Int} (hx : d[j]! = (x0, x1, x2)) : W.cell? ⟨g, j * 3, none⟩ = some (.int .i64 x0) ∧ W.cell? ⟨g, j * 3 + 1, none⟩ = some (.int .i64 x1) ∧ W.cell? ⟨g, j * 3 + 2, none⟩ = some (.int .i64 x2) := by
 obtain ⟨h0, h1, h2⟩ := hF j hj
 rw [hx] at h0 h1 h2
 exact ⟨(hM.at _ (by omega)).trans (congrArg some h0), (hM.at _ (by omega)).trans (congrArg some h1), (hM.at _ (by omega)).trans (congrArg some h2)⟩
theorem rd_low {W : World} {g N n : Nat} {f : Nat → Value} {L : List EdT} {dk : Array EdT} (hM : Mrw W g 61 N f N) (hN : n * 3 ≤ N) (hl : L.length ≤ n) (hL : ∀ j, j < L.length → L[j]? = some dk[j]!) (hF : ∀ j, j < L.length → f (j * 3) = .int .i64 dk[j]!.1 ∧ f (j * 3 + 1) = .int .i64 dk[j]!.2.1 ∧ f (j * 3 + 2) = .int .i64 dk[j]!.2.2) : RdE W (some ⟨g, 0, none⟩) L := fun j hj => by
 obtain ⟨h0, h1, h2⟩ := hF j hj
 have e : L[j] = dk[j]! := Option.some.inj ((List.getElem?_eq_getElem hj).symm.trans (hL j hj))
 rw [← e] at h0 h1 h2
 exact ⟨g, 0, rfl, by rw [Nat.zero_add, hM.at _ (by omega), h0], by rw [Nat.zero_add, hM.at _ (by omega), h1], by rw [Nat.zero_add, hM.at _ (by omega), h2]⟩
theorem all_kept {d : Array EdT} {n : Nat} (hn : d.size = n) (hk : ∀ j, j < n → Lib.keeps d j = true) : Lib.compactUpTo d n = d.toList := by
 rw [Lib.compactUpTo_all d n hk, ← hn]
 exact Lib.range_map_get d
theorem rd_all {W : World} {g N n : Nat} {f : Nat → Value} {d : Array EdT} (hn : d.size = n) (hM : Mrw W g 61 N f N) (hN : n * 3 ≤ N) (hF : EdF f d) (hk : ∀ j, j < n → Lib.keeps d j = true) : (Lib.compactUpTo d n).length = n ∧ RdE W (some ⟨g, 0, none⟩) (Lib.compactUpTo d n) := by
 rw [all_kept hn hk]
 refine ⟨by simpa using hn, rd_low (dk := d) hM hN (by simp; omega) (fun j hj => ?_) fun j hj => hF j (by simpa using hj)⟩
 have hj' : j < d.size := by simpa using hj
 rw [Array.getElem?_toList, Array.getElem?_eq_getElem hj', getElem!_pos d j hj']
theorem set_cells {t : TypeId} {g N : Nat} : ∀ (xs : List Value) (o : Nat) {W : World} {f : Nat → Value}, Mrw W g t N f N → ∃ f', Mrw (W.setCells g o xs) g t N f' N ∧ (∀ c, c < o → f' c = f c) ∧ Only W (W.setCells g o xs) (fun k => k = g)
 | [], _, _, f, h => ⟨f, h, fun _ _ => rfl, Only.ofBelow (Below.refl _ _)⟩
 | x :: xs, o, W, f, h => by
  obtain ⟨f', h1, h2, h3⟩ := set_cells xs (o + 1) (h.upd o x)
  refine ⟨f', h1, fun c hc => ?_, (only_set W g o x).trans h3⟩
  rw [h2 c (by omega)]
  exact if_neg (by omega)
theorem zeroE (n : Nat) : (Builtin.zeroCells #[Value.int .i64 0, .int .i64 0, .int .i64 0] n).toList = List.replicate (n * 3) (.int .i64 0) := by
 apply List.ext_getElem
 · simp [Builtin.zeroCells]
 · intro i h1 h2
   have h3 : i % 3 = 0 ∨ i % 3 = 1 ∨ i % 3 = 2 := by omega
   simp [Builtin.zeroCells]
   rcases h3 with q | q | q <;> simp [q]
theorem clear_run (W : World) (ty : TypeId) (g o n c : Nat) (hn : 0 < n) (hc : ∀ j, j < n * 3 → (W.cell? ⟨g, o + j, none⟩).isSome = true) (hf : ∀ j, j < n * 3 → W.frozen? ⟨g, o + j, none⟩ = false) :
 (Builtin.clear_ #[23] ty #[.slice (some ⟨g, o, none⟩) n c]).run Tryz.prog W = .ok (.tuple #[]) (W.setCells g o (List.replicate (n * 3) (.int .i64 0))) := by
 have hst := run_storeCells_cells (P := Tryz.prog) g o (List.replicate (n * 3) (.int .i64 0)) 0 W (by simpa using hc) (by simpa using hf) (by intro v hv'; rw [List.eq_of_mem_replicate hv']; rfl)
 simp only [Nat.add_zero] at hst
 obtain ⟨m, rfl⟩ : ∃ m, n = m + 1 := ⟨n - 1, by omega⟩
 have hz : ∀ w : World, (zeroValue 61).run Tryz.prog w = .ok (.agg #[.int .i64 0, .int .i64 0, .int .i64 0]) w := fun w => by kernel_rfl
 have hcl : (Value.agg #[.int .i64 0, .int .i64 0, .int .i64 0]).cells = #[.int .i64 0, .int .i64 0, .int .i64 0] := rfl
 simp [Builtin.clear_, run_underlying Tryz.underlying23, hz, hcl, zeroE, hst]
theorem compactA (w : World) (g cap n : Nat) (d : Array EdT) (hn : Hid (d.size = n)) (f : Nat → Value) (hM : Hid (Mrw w g 61 (cap * 3) f (cap * 3))) (hF : Hid (EdF f d)) (hcap : n ≤ cap) (hl : n ≤ 4194304) :
 Calls Tryz.prog 160 #[.slice (some ⟨g, 0, none⟩) n cap] w fun e w' => e = .returned (.slice (some ⟨g, 0, none⟩) (Lib.compactUpTo d n).length cap) ∧ RdE w' (some ⟨g, 0, none⟩) (Lib.compactUpTo d n) ∧ Only w w' (fun k => k = g) ∧ ∃ f', Mrw w' g 61 (cap * 3) f' (cap * 3) := by
 by_cases h2 : n < 2
 · have i1 : (n : Int) < 2 := by omega
   go_enter Tryz.func160, Tryz.ntmps160
   go_wp2
   go_ret
   obtain ⟨e1, e2⟩ := rd_all hn.out hM.out (by omega) hF.out fun j hj => Lib.keeps_lt_one d j (by omega)
   exact ⟨by rw [e1]; rfl, e2, Only.ofBelow (Below.refl _ _), _, hM.out⟩
 · have i1 : ¬ (n : Int) < 2 := by omega
   go_enter Tryz.func160, Tryz.ntmps160
   go_wp2_with fail
   go_loopw [3] (fun i wr => ∃ m : Nat, m + 1 ≤ n ∧ i = .int .i64 ((m + 1 : Nat) : Int) ∧ Hid (Mrw wr g 61 (cap * 3) f (cap * 3) ∧ Below w.heap.size w wr ∧ ∀ j, j < m + 1 → Lib.keeps d j = true)) (fun i _ => n - (intOf i).toNat)
   case atStart => exact ⟨0, by omega, rfl, hide ⟨hM.out, Below.refl _ _, fun j hj => Lib.keeps_lt_one d j (by omega)⟩⟩
   case round =>
    obtain ⟨m, hm, rfl, HK⟩ := hrel
    obtain ⟨wi, rfl⟩ : ∃ z, z = wr := ⟨_, rfl⟩
    by_cases hlt : m + 1 < n
    · have j0 : (m : Int) + 1 < (n : Int) := by omega
      have j1 : (m : Int) < (n : Int) := by omega
      have j2 : (0 : Int) ≤ (m : Int) := by omega
      have j3 : (0 : Int) ≤ (m : Int) + 1 := by omega
      obtain ⟨⟨x0, x1, x2⟩, hx⟩ : ∃ x, d[m + 1]! = x := ⟨_, rfl⟩
      obtain ⟨⟨y0, y1, y2⟩, hy⟩ : ∃ y, d[m]! = y := ⟨_, rfl⟩
      obtain ⟨p0, p1, p2⟩ := edF_cells HK.out.1 hF.out (by rw [hn.out]; omega) (by rw [hn.out]; omega) hx
      obtain ⟨q0, q1, q2⟩ := edF_cells HK.out.1 hF.out (by rw [hn.out]; omega) (show m < d.size by rw [hn.out]; omega) hy
      have HE : Hid (Lib.keeps d (m + 1) = !decide (x0 = y0 ∧ x1 = y1 ∧ x2 = y2)) := hide (by
       unfold Lib.keeps
       rw [Nat.add_sub_cancel, hx, hy]
       simp)
      clear hx hy
      go_upto_region 6 with fail
      go_cut [25] from 16 to 25 (fun b wx => b = .bool (!Lib.keeps d (m + 1)) ∧ Hid (Mrw wx g 61 (cap * 3) f (cap * 3) ∧ Below w.heap.size w wx))
      case first =>
       by_cases g0 : x0 = y0
       · by_cases g1 : x1 = y1
         · by_cases g2 : x2 = y2
           · subst g0 g1 g2
             refine wp_region_phase 9 #[true, true, true, true, true, true, true, true, true, false] (by kernel_rfl) (by kernel_rfl) ?_
             simp only [List.take_succ_cons, List.take_zero, List.drop_succ_cons, List.drop_zero]
             repeat (go_big_quiet_step (fail))
             refine wpQuiet_nil ?_
             intro wz hz
             obtain ⟨nq, rfl⟩ := hz
             go_wp2_with fail
             go_meet
             exact ⟨by rw [HE.out]; simp [], hide ⟨HK.out.1, below_drewN2 HK.out.2.1 nq⟩⟩
           · subst g0 g1
             refine wp_region_phase 9 #[true, true, true, true, true, true, true, true, true, false] (by kernel_rfl) (by kernel_rfl) ?_
             simp only [List.take_succ_cons, List.take_zero, List.drop_succ_cons, List.drop_zero]
             repeat (go_big_quiet_step (fail))
             refine wpQuiet_nil ?_
             intro wz hz
             obtain ⟨nq, rfl⟩ := hz
             go_wp2_with fail
             go_meet
             exact ⟨by rw [HE.out]; simp [g2], hide ⟨HK.out.1, below_drewN2 HK.out.2.1 nq⟩⟩
         · subst g0
           refine wp_region_phase 9 #[true, true, true, true, true, true, true, true, true, false] (by kernel_rfl) (by kernel_rfl) ?_
           simp only [List.take_succ_cons, List.take_zero, List.drop_succ_cons, List.drop_zero]
           repeat (go_big_quiet_step (fail))
           refine wpQuiet_nil ?_
           intro wz hz
           obtain ⟨nq, rfl⟩ := hz
           go_wp2_with fail
           go_meet
           exact ⟨by rw [HE.out]; simp [g1], hide ⟨HK.out.1, below_drewN2 HK.out.2.1 nq⟩⟩
       · skip
         refine wp_region_phase 9 #[true, true, true, true, true, true, true, true, true, false] (by kernel_rfl) (by kernel_rfl) ?_
         simp only [List.take_succ_cons, List.take_zero, List.drop_succ_cons, List.drop_zero]
         repeat (go_big_quiet_step (fail))
         refine wpQuiet_nil ?_
         intro wz hz
         obtain ⟨nq, rfl⟩ := hz
         go_wp2_with fail
         go_meet
         exact ⟨by rw [HE.out]; simp [g0], hide ⟨HK.out.1, below_drewN2 HK.out.2.1 nq⟩⟩
      case rest =>
       obtain ⟨rfl, HB⟩ := hcut
       rename World => wx
       clear p0 p1 p2 q0 q1 q2 HE
       by_cases hk : Lib.keeps d (m + 1) = true
       · rw [hk]
         have HKK := hide hk
         clear hk
         go_wp2_with fail
         exact ⟨⟨m + 1, by omega, by go_num, hide ⟨HB.out.1, HB.out.2, fun j hj => if e : j = m + 1 then by rw [e]; exact HKK.out else HK.out.2.2 j (by omega)⟩⟩, by simp [intOf]; omega⟩
       · have hk' : Lib.keeps d (m + 1) = false := by simpa using hk
         rw [hk']
         have HI := hide (Lib.CompInv.start HK.out.2.2 hk')
         clear hk hk' HK
         have c1 : m + 1 ≤ cap := by omega
         have c2 : m + 1 ≤ n := by omega
         go_upto_region 8 with fail
         go_wp2_with fail
         have hs := HI.out
         go_loopw [3, 5] (fun s3 s5 wr => ∃ (kk m2 : Nat) (dk : Array EdT) (f' : Nat → Value), s3 = .int .i64 (kk : Nat) ∧ s5 = .int .i64 ((m2 + 1 : Nat) : Int) ∧ m + 1 + (m2 + 1) ≤ n ∧ Hid (Mrw wr g 61 (cap * 3) f' (cap * 3) ∧ EdF f' dk ∧ Lib.CompInv d (m + 1 + (m2 + 1)) kk dk ∧ Only w wr (fun k => k = g))) (fun _ s5 _ => n - (intOf s5).toNat)
         case atStart => exact ⟨m + 1, 0, d, f, rfl, rfl, by omega, hide ⟨HB.out.1, hF.out, HI.out, Only.ofBelow HB.out.2⟩⟩
         case round =>
          obtain ⟨kk, m2, dk, f', rfl, rfl, hle, HJ⟩ := hrel
          obtain ⟨wj, rfl⟩ : ∃ z, z = wr := ⟨_, rfl⟩
          have hkk := HJ.out.2.2.1.lt
          by_cases hlt2 : m + 1 + (m2 + 1) < n
          · have l0 : (m2 : Int) + 1 < ((n - (m + 1) : Nat) : Int) := by omega
            have l1 : (m2 : Int) < ((n - (m + 1) : Nat) : Int) := by omega
            have l2 : (0 : Int) ≤ (m2 : Int) := by omega
            have l3 : (0 : Int) ≤ (m2 : Int) + 1 := by omega
            have hds := HJ.out.2.2.1.size
            obtain ⟨⟨x0, x1, x2⟩, hx⟩ : ∃ x, d[m + 1 + (m2 + 1)]! = x := ⟨_, rfl⟩
            obtain ⟨⟨y0, y1, y2⟩, hy⟩ : ∃ y, d[m + 1 + m2]! = y := ⟨_, rfl⟩
            have HC : Hid (∀ W, Mrw W g 61 (cap * 3) f' (cap * 3) → (W.cell? ⟨g, (m + 1) * 3 + (m2 + 1) * 3, none⟩ = some (.int .i64 x0) ∧ W.cell? ⟨g, (m + 1) * 3 + (m2 + 1) * 3 + 1, none⟩ = some (.int .i64 x1) ∧ W.cell? ⟨g, (m + 1) * 3 + (m2 + 1) * 3 + 2, none⟩ = some (.int .i64 x2)) ∧ (W.cell? ⟨g, (m + 1) * 3 + m2 * 3, none⟩ = some (.int .i64 y0) ∧ W.cell? ⟨g, (m + 1) * 3 + m2 * 3 + 1, none⟩ = some (.int .i64 y1) ∧ W.cell? ⟨g, (m + 1) * 3 + m2 * 3 + 2, none⟩ = some (.int .i64 y2))) := hide (fun W hW => by
             have e1 := edF_cells hW HJ.out.2.1 (by rw [hds, hn.out]; omega) (show m + 1 + (m2 + 1) < dk.size by rw [hds, hn.out]; omega) ((HJ.out.2.2.1.high _ (by omega)).trans hx)
             have e2 := edF_cells hW HJ.out.2.1 (by rw [hds, hn.out]; omega) (show m + 1 + m2 < dk.size by rw [hds, hn.out]; omega) ((HJ.out.2.2.1.high _ (by omega)).trans hy)
             rw [show (m + 1 + (m2 + 1)) * 3 = (m + 1) * 3 + (m2 + 1) * 3 by omega] at e1
             rw [show (m + 1 + m2) * 3 = (m + 1) * 3 + m2 * 3 by omega] at e2
             exact ⟨e1, e2⟩)
            have HE : Hid (Lib.keeps d (m + 1 + (m2 + 1)) = !decide (x0 = y0 ∧ x1 = y1 ∧ x2 = y2)) := hide (by
             unfold Lib.keeps
             rw [show m + 1 + (m2 + 1) - 1 = m + 1 + m2 by omega, hx, hy]
             simp)
            have HX := hide hx
            clear hx hy hs
            go_upto_region 11 with fail
            go_cut [44] from 35 to 44 (fun b wx => b = .bool (Lib.keeps d (m + 1 + (m2 + 1))) ∧ Hid (Mrw wx g 61 (cap * 3) f' (cap * 3) ∧ Only w wx (fun k => k = g)))
            case first =>
             obtain ⟨⟨p0, p1, p2⟩, q0, q1, q2⟩ := HC.out wj HJ.out.1
             by_cases g0 : x0 = y0
             · by_cases g1 : x1 = y1
               · by_cases g2 : x2 = y2
                 · subst g0 g1 g2
                   refine wp_region_phase 9 #[true, true, true, true, true, true, true, true, true, false] (by kernel_rfl) (by kernel_rfl) ?_
                   simp only [List.take_succ_cons, List.take_zero, List.drop_succ_cons, List.drop_zero]
                   repeat (go_big_quiet_step (fail))
                   refine wpQuiet_nil ?_
                   intro wz hz
                   obtain ⟨nq, rfl⟩ := hz
                   go_wp2_with fail
                   go_meet
                   exact ⟨by rw [HE.out]; simp [], hide ⟨HJ.out.1, HJ.out.2.2.2.trans (Only.ofBelow (below_drewN2 (Below.refl _ _) nq))⟩⟩
                 · subst g0 g1
                   refine wp_region_phase 9 #[true, true, true, true, true, true, true, true, true, false] (by kernel_rfl) (by kernel_rfl) ?_
                   simp only [List.take_succ_cons, List.take_zero, List.drop_succ_cons, List.drop_zero]
                   repeat (go_big_quiet_step (fail))
                   refine wpQuiet_nil ?_
                   intro wz hz
                   obtain ⟨nq, rfl⟩ := hz
                   go_wp2_with fail
                   go_meet
                   exact ⟨by rw [HE.out]; simp [g2], hide ⟨HJ.out.1, HJ.out.2.2.2.trans (Only.ofBelow (below_drewN2 (Below.refl _ _) nq))⟩⟩
               · subst g0
                 refine wp_region_phase 9 #[true, true, true, true, true, true, true, true, true, false] (by kernel_rfl) (by kernel_rfl) ?_
                 simp only [List.take_succ_cons, List.take_zero, List.drop_succ_cons, List.drop_zero]
                 repeat (go_big_quiet_step (fail))
                 refine wpQuiet_nil ?_
                 intro wz hz
                 obtain ⟨nq, rfl⟩ := hz
                 go_wp2_with fail
                 go_meet
                 exact ⟨by rw [HE.out]; simp [g1], hide ⟨HJ.out.1, HJ.out.2.2.2.trans (Only.ofBelow (below_drewN2 (Below.refl _ _) nq))⟩⟩
             · skip
               refine wp_region_phase 9 #[true, true, true, true, true, true, true, true, true, false] (by kernel_rfl) (by kernel_rfl) ?_
               simp only [List.take_succ_cons, List.take_zero, List.drop_succ_cons, List.drop_zero]
               repeat (go_big_quiet_step (fail))
               refine wpQuiet_nil ?_
               intro wz hz
               obtain ⟨nq, rfl⟩ := hz
               go_wp2_with fail
               go_meet
               exact ⟨by rw [HE.out]; simp [g0], hide ⟨HJ.out.1, HJ.out.2.2.2.trans (Only.ofBelow (below_drewN2 (Below.refl _ _) nq))⟩⟩
            case rest =>
             obtain ⟨rfl, HB2⟩ := hcut
             rename World => wy
             clear HE
             by_cases hk : Lib.keeps d (m + 1 + (m2 + 1)) = true
             · rw [hk]
               have HKK := hide hk
               clear hk
               obtain ⟨⟨p0, p1, p2⟩, _⟩ := HC.out wy HB2.out.1
               obtain ⟨u0, hu0⟩ := HB2.out.1.cell (kk * 3) (by omega)
               obtain ⟨u1, hu1⟩ := HB2.out.1.cell (kk * 3 + 1) (by omega)
               obtain ⟨u2, hu2⟩ := HB2.out.1.cell (kk * 3 + 2) (by omega)
               have f0 := HB2.out.1.fz (kk * 3)
               have f1 := HB2.out.1.fz (kk * 3 + 1)
               have f2 := HB2.out.1.fz (kk * 3 + 2)
               have k1 : (kk : Int) < (n : Int) := by omega
               have k2 : (0 : Int) ≤ (kk : Int) := by omega
               go_wp2_with fail
               exact ⟨⟨kk + 1, m2 + 1, dk.setIfInBounds kk (x0, x1, x2), _, by go_num, by go_num, by omega, hide ⟨((HB2.out.1.upd (kk * 3) _).upd (kk * 3 + 1) _).upd (kk * 3 + 2) _, HJ.out.2.1.set kk (x0, x1, x2), by have := HJ.out.2.2.1.keep (by rw [hn.out]; omega) HKK.out; rwa [HX.out] at this, HB2.out.2.trans (only3 wy g _ _ _ _ _ _)⟩⟩, by simp [intOf]; omega⟩
             · have hk' : Lib.keeps d (m + 1 + (m2 + 1)) = false := by simpa using hk
               rw [hk']
               have HKK := hide hk'
               clear hk hk'
               go_wp2_with fail
               exact ⟨⟨kk, m2 + 1, dk, f', by go_num, by go_num, by omega, hide ⟨HB2.out.1, HJ.out.2.1, HJ.out.2.2.1.skip HKK.out, HB2.out.2⟩⟩, by simp [intOf]; omega⟩
          · have l0 : ¬ (m2 : Int) + 1 < ((n - (m + 1) : Nat) : Int) := by omega
            have hend : m + 1 + (m2 + 1) = n := by omega
            rw [hend] at HJ
            obtain ⟨f2, hM2, hF2, hO2⟩ := set_cells (List.replicate ((n - kk) * 3) (.int .i64 0)) (kk * 3) HJ.out.1
            have hcl := fun ty => clear_run wj ty g (kk * 3) (n - kk) (cap - kk) (by omega) (fun j hj => by obtain ⟨u, hu⟩ := HJ.out.1.cell (kk * 3 + j) (by omega); rw [hu]; rfl) (fun j _ => HJ.out.1.fz _)
            have HZ := hide (And.intro hM2 (And.intro hF2 hO2))
            have k1 : kk ≤ n := by omega
            have k2 : kk ≤ cap := by omega
            have k3 : (kk : Int) ≤ (n : Int) := by omega
            have k4 : (kk : Int) ≤ (cap : Int) := by omega
            clear hM2 hF2 hO2 hs
            go_wp2
            go_ret
            obtain ⟨hM2, hF2, hO2⟩ := HZ.out
            have I := HJ.out.2.2.1
            refine ⟨by rw [I.len]; rfl, rd_low (n := n) (dk := dk) hM2 (by omega) (by rw [I.len]; omega) (fun j hj => I.low j (by rw [I.len] at hj; exact hj)) (fun j hj => ?_), HJ.out.2.2.2.trans hO2, _, hM2⟩
            rw [I.len] at hj
            rw [hF2 _ (by omega), hF2 _ (by omega), hF2 _ (by omega)]
            exact HJ.out.2.1 j (by rw [I.size, hn.out]; omega)
    · have j0 : ¬ (m : Int) + 1 < (n : Int) := by omega
      obtain rfl : n = m + 1 := by omega
      go_wp2
      go_ret
      obtain ⟨e1, e2⟩ := rd_all hn.out HK.out.1 (by omega) hF.out HK.out.2.2
      exact ⟨by rw [e1]; rfl, e2, Only.ofBelow HK.out.2.1, _, HK.out.1⟩
theorem rdE_cells {W : World} {B b cap : Nat} {X : List EdT} (h : W.ownsRow B 61 3 (.slice (some ⟨b, 0, none⟩) X.length cap) X.length (X.flatMap encE)) (j : Nat) (hj : j < X.length) : W.cell? ⟨b, j * 3, none⟩ = some (.int .i64 X[j].1) ∧ W.cell? ⟨b, j * 3 + 1, none⟩ = some (.int .i64 X[j].2.1) ∧ W.cell? ⟨b, j * 3 + 2, none⟩ = some (.int .i64 X[j].2.2) := by
 have hn : ∀ r, r < 3 → W.cell? ⟨b, j * 3 + r, none⟩ = (encE X[j])[r]? := fun r hr => by
  have c := h.cellAt (j * 3 + r) (show j * 3 + r < X.length * 3 by omega)
  rw [c, flat_get encE 3 encE_len X j r hj hr]
 exact ⟨hn 0 (by omega), hn 1 (by omega), hn 2 (by omega)⟩
theorem rdE_only {W W' : World} {R : Nat → Prop} {ao : Option Addr} {L : List EdT} (h : RdE W ao L) (ho : Only W W' R) (hn : ∀ g o, ao = some ⟨g, o, none⟩ → ¬ R g) : RdE W' ao L := fun j hj => by
 obtain ⟨g, o, e, c0, c1, c2⟩ := h j hj
 have hb := World.block_lt_of_cell? W _ c0
 have k := ho.block g hb (hn g o e)
 exact ⟨g, o, e, (World.cell?_of_block (a := ⟨g, o + j * 3, none⟩) k).trans c0, (World.cell?_of_block (a := ⟨g, o + j * 3 + 1, none⟩) k).trans c1, (World.cell?_of_block (a := ⟨g, o + j * 3 + 2, none⟩) k).trans c2⟩
theorem row_block {W : World} {B n : Nat} {v : Value} {L : List EdT} (h : W.ownsRow B 61 3 v n (L.flatMap encE)) (hn : n = L.length) : (v = .slice none 0 0 ∧ L = []) ∨ ∃ g cap f, v = .slice (some ⟨g, 0, none⟩) n cap ∧ n ≤ cap ∧ B ≤ g ∧ Mrw W g 61 (cap * 3) f (cap * 3) ∧ EdF f L.toArray := by
 rcases h.2 with ⟨rfl, h0⟩ | ⟨g, cap, cur, rfl, hB, hb, hnc, hcm, hcs, htake⟩
 · exact .inl ⟨rfl, List.eq_nil_of_length_eq_zero (by omega)⟩
 · refine .inr ⟨g, cap, fun c => cur[c]?.getD default, rfl, hnc, hB, ⟨cur, hb, hcs, fun j hj => ?_⟩, fun j hj => ?_⟩
   · show cur[j]? = some (cur[j]?.getD default)
     rw [Array.getElem?_eq_getElem (by omega)]; rfl
   · have hj' : j < L.length := by simpa using hj
     subst hn
     have c := rdE_cells h j hj'
     have e : L.toArray[j]! = L[j] := by rw [getElem!_pos _ j (by simpa using hj')]; simp
     rw [e]
     have k : ∀ r, r < 3 → W.cell? ⟨g, j * 3 + r, none⟩ = some (cur[j * 3 + r]?.getD default) := fun r hr => by
      have : j * 3 + r < cur.size := by omega
      rw [cell_of hb (Array.getElem?_eq_getElem this), Array.getElem?_eq_getElem this]; rfl
     obtain ⟨c0, c1, c2⟩ := c
     have k0 := k 0 (by omega)
     have k1 := k 1 (by omega)
     have k2 := k 2 (by omega)
     rw [Nat.add_zero] at k0
     exact ⟨Option.some.inj (k0.symm.trans c0), Option.some.inj (k1.symm.trans c1), Option.some.inj (k2.symm.trans c2)⟩
open Go.Shelf Go.Sort
theorem row_cut {w : World} {B g cap n : Nat} {e : TypeId} {sz : Nat} {xs : List Value} (h : w.ownsRow B e sz (.slice (some ⟨g, 0, none⟩) n cap) n xs) (m : Nat) (hm : m ≤ n) : w.ownsRow B e sz (.slice (some ⟨g, 0, none⟩) m cap) m (xs.take (m * sz)) := by
 have hle : m * sz ≤ n * sz := Nat.mul_le_mul_right _ hm
 refine ⟨by rw [List.length_take, h.1]; omega, ?_⟩
 rcases h.2 with ⟨hv, _⟩ | ⟨g', cap', cur, hv, hb, hg, h1, h2, h3, h4⟩
 · cases hv
 · cases hv
   exact .inr ⟨g, cap, cur, rfl, hb, hg, by omega, h2, h3, by rw [← h4, List.take_take, Nat.min_eq_left hle]⟩
def sortI (L : List Int) : List Int := L.mergeSort fun x y => decide (x ≤ y)
def riseL (L : List Int) : List Int := Lib.compact (sortI L)
theorem sortI_len (L : List Int) : (sortI L).length = L.length := List.length_mergeSort _
theorem compact_len {α : Type} [DecidableEq α] [Inhabited α] (zs : List α) : (Lib.compact zs).length ≤ zs.length := by
 unfold Lib.compact Lib.compactUpTo
 rw [List.length_map]
 exact Nat.le_trans (List.length_filter_le _ _) (by simp)
theorem ltI_is : (fun x y : Int => !(ltOf Lib.compareInt) y x) = fun x y => decide (x ≤ y) := by
 funext x y
 unfold ltOf
 rcases cmp_pos y x with ⟨h, e⟩ | ⟨h, e⟩ | ⟨h, e⟩ <;> rw [e] <;> simp <;> omega
theorem ltI_iff (x y : Int) : ltOf Lib.compareInt x y = true ↔ x < y := by
 unfold ltOf
 rcases cmp_pos x y with ⟨h, e⟩ | ⟨h, e⟩ | ⟨h, e⟩ <;> rw [e] <;> simp <;> omega
theorem ltI_not (x y : Int) : ltOf Lib.compareInt x y = false ↔ ¬ x < y := by rw [← ltI_iff, Bool.not_eq_true]
theorem swoI : SWO (ltOf Lib.compareInt) where
 irrefl x := by rw [ltI_not]; omega
 trans x y z h1 h2 := by rw [ltI_iff] at *; omega
 ntrans x y z h1 h2 := by rw [ltI_not] at *; omega
theorem row_partsI {w : World} {B g cap n : Nat} {L : List Int} (hn : n = L.length) (hv : w.ownsRow B 3 1 (.slice (some ⟨g, 0, none⟩) n cap) n (L.map (Value.int .i64))) : ∃ cur, B ≤ g ∧ w.heap[g]? = some (.cells cur 3 (0, 0)) ∧ L.length ≤ cap ∧ cap ≤ maxLen ∧ cur.size = cap * 1 ∧ cur.toList.take L.length = L.map (Value.int .i64) := by
 subst hn
 rcases hv.2 with ⟨hv, _⟩ | ⟨g', cap', cur, hv, hb, hg, h1, h2, h3, h4⟩
 · cases hv
 · cases hv
   exact ⟨cur, hb, hg, h1, h2, h3, by rw [← h4, Nat.mul_one]⟩
theorem sortI_any (W : World) (B g cap n : Nat) (L : List Int) (hn : n = L.length) (hv : W.ownsRow B 3 1 (.slice (some ⟨g, 0, none⟩) n cap) n (L.map (Value.int .i64))) (hl : n ≤ 4194304) :
 Calls Tryz.prog 157 #[.slice (some ⟨g, 0, none⟩) n cap, .func (.func 145) #[] #[]] W fun e w' => e = .returned (.tuple #[]) ∧ w'.ownsRow B 3 1 (.slice (some ⟨g, 0, none⟩) n cap) n ((sortI L).map (Value.int .i64)) ∧ W.grownBy w' (some g) := by
 obtain ⟨cur, hB, hb, h1, h2, h3, h4⟩ := row_partsI hn hv
 subst hn
 have hg : g < W.heap.size := (Array.getElem?_eq_some_iff.1 hb).1
 have eg : ∀ args w, (callFunc 145 args).run Tryz.prog w = .ok (.enter 145 args) w := enters_of Tryz.func145 (by kernel_rfl) rfl
 have H := Tryz.slices_SortFunc_total (Value.int .i64) (fun _ => rfl) Lib.compareInt swoI 145 #[] g 0 cap L.toArray W eg
  (fun m os dk _ x y => (cmpi_any x y _).mono fun _ _ ⟨he, hw⟩ => ⟨he, 0, #[], by rw [hw]; simp [grow, World.drewN]⟩) (holds_of_blockI hb h4) hg (by simp; omega) (fun x y a b => by rw [ltI_not] at a b; omega)
 have e1 : L.toArray.size = L.length := by simp
 rw [e1, ltI_is] at H
 refine Calls.mono H ?_
 rintro e w' ⟨rfl, k, os, rfl⟩
 exact ⟨rfl, ownsRow_sortedI (ts := sortI L) (ss := L) (sortI_len L) hB hb h1 h2 h3, grownBy_sortedI _⟩
theorem compactI_any (W : World) (B g cap n : Nat) (L : List Int) (hn : n = L.length) (hv : W.ownsRow B 3 1 (.slice (some ⟨g, 0, none⟩) n cap) n (L.map (Value.int .i64))) (hl : n ≤ 4194304) :
 Calls Tryz.prog 149 #[.slice (some ⟨g, 0, none⟩) n cap] W fun e w' => e = .returned (.slice (some ⟨g, 0, none⟩) (Lib.compact L).length cap) ∧ w'.ownsRow B 3 1 (.slice (some ⟨g, 0, none⟩) (Lib.compact L).length cap) (Lib.compact L).length ((Lib.compact L).map (Value.int .i64)) ∧ W.grownBy w' (some g) := by
 obtain ⟨cur, hB, hb, h1, h2, h3, h4⟩ := row_partsI hn hv
 subst hn
 refine (Tryz.slices_Compact_int g 0 cap L W (holds_of_blockI hb h4) (by omega) h1).mono ?_
 rintro e w' ⟨rfl, q, hw⟩
 have hc := compact_len L
 have hlen : (Lib.compact L ++ List.replicate (L.length - (Lib.compact L).length) 0).length = L.length := by
  rw [List.length_append, List.length_replicate]; omega
 have g0 : ∀ W : World, grow W #[] = W := fun W => by simp [grow]
 rw [← g0 (putRow _ _ _ _ _)] at hw
 have hrow := ownsRow_sortedI (n := q) (os := #[]) hlen hB hb h1 h2 h3
 rw [← hw] at hrow
 have hr := row_cut hrow _ hc
 rw [Nat.mul_one, List.map_append, List.take_left' (by simp)] at hr
 exact ⟨rfl, hr, by rw [hw]; exact grownBy_sortedI _⟩
theorem orderedI_any (w : World) (ao : Option Addr) (c : Nat) (L : List Int) (hA : Hid (RdN w ao L)) (hl : L.length ≤ 4194304) :
 Calls Tryz.prog 144 #[.slice ao L.length c, .func (.func 145) #[] #[]] w fun e w' => ∃ g' c', e = .returned (.slice (some ⟨g', 0, none⟩) (riseL L).length c') ∧ w'.ownsRow w.heap.size 3 1 (.slice (some ⟨g', 0, none⟩) (riseL L).length c') (riseL L).length ((riseL L).map (Value.int .i64)) ∧ Below w.heap.size w w' := by
 obtain ⟨i9, hi9, hz90, hz91, hz92⟩ := info_parts info3
 obtain ⟨m, hm⟩ : ∃ m, m = L.length := ⟨_, rfl⟩
 have HL := hide hm
 rw [← hm]
 rw [← hm] at hl
 clear hm
 go_enter Tryz.func144, Tryz.ntmps144
 go_wp2_with (at_make; refine wpList_make_full _ rfl _ _ 22 rfl w.heap.size 3 i9 (.int .i64 0) 1 Tryz.underlying22 hi9 hz90 hz91 _ _ _ _ m rfl rfl (by go_num) (by go_num) (by rw [hz92]; omega) (by unfold maxLen; omega) (Nat.le_refl _) ?_)
 intro w1 ho hg
 have D1 : Below w.heap.size w w1 := (Below.refl _ _).grown hg (Nat.le_refl _) (by intro k hk; cases hk)
 have hxy : ∃ cur : List Value, w1.heap[w.heap.size]? = some (.cells cur.toArray 3 (0, 0)) ∧ cur.length = m := by
  rcases ho.2 with ⟨hv, _⟩ | ⟨g', cap', cur, hv, hb, hg, h1, h2, h3, h4⟩
  · cases hv
  · cases hv
    exact ⟨cur.toList, by simpa using hg, by simpa using h3⟩
 obtain ⟨cur, hcur, hcl⟩ := hxy
 obtain ⟨X, hX⟩ : ∃ X, X = L.map (Value.int .i64) := ⟨_, rfl⟩
 have hXl : X.length = m := by rw [hX, List.length_map, HL.out]
 have HX := hide (And.intro hX hXl)
 have HC := hide (And.intro hcur (And.intro hcl D1))
 clear ho hg D1 hcur hcl hX hXl
 go_wp2_with (refine wpList_copy_splice rfl (.tmp 9) (.tmp 10) 22 22 rfl 3 Tryz.underlying22 (by rw [hi9]; simp [hz91]) _ _ _ _ _ _ rfl rfl w.heap.size 0 cur 3 HC.out.1 X (by rw [HX.out.2]; exact (Nat.min_self m).symm) ?_ (by rw [HX.out.2, HC.out.2.1]; omega) ?_ w.heap.size w HC.out.2.2 (Nat.le_refl _) ?_)
 · intro hp
   have h0 : 0 < L.length := by rw [← HL.out, ← HX.out.2]; exact hp
   obtain ⟨g, o, rfl, _⟩ := hA.out 0 h0
   refine ⟨_, rfl, fun j v hv => ?_⟩
   rw [HX.out.1, List.getElem?_map] at hv
   obtain ⟨x, hx, rfl⟩ := Option.map_eq_some_iff.1 hv
   obtain ⟨hj, rfl⟩ := List.getElem?_eq_some_iff.1 hx
   obtain ⟨g', o', e, c0⟩ := (hA.out.on HC.out.2.2) j hj
   cases e
   have ea : Addr.add ⟨g, o, none⟩ j = ⟨g, o + j, none⟩ := by
    unfold Addr.add
    by_cases q : j = 0
    · subst q; simp
    · simp [q]
   rw [ea]
   exact c0
 · intro v hv
   rw [HX.out.1] at hv
   obtain ⟨x, _, rfl⟩ := List.mem_map.1 hv
   rfl
 intro w2 HG2 d2
 have hr2 : w2.ownsRow w.heap.size 3 1 (.slice (some ⟨w.heap.size, 0, none⟩) m m) m (L.map (Value.int .i64)) := by
  have e : splice cur 0 X = L.map (Value.int .i64) := by
   unfold splice
   rw [List.take_zero, List.drop_eq_nil_of_le (by rw [HX.out.2, HC.out.2.1]; omega), List.nil_append, List.append_nil, HX.out.1]
  have hg := HG2.out
  rw [e] at hg
  exact ⟨by rw [List.length_map, ← HL.out]; omega, .inr ⟨_, m, _, rfl, Nat.le_refl _, hg, Nat.le_refl _, by unfold maxLen; omega, by simp [← HL.out], List.take_of_length_le (by simp [← HL.out])⟩⟩
 have HR := hide (And.intro hr2 d2)
 clear hr2 d2 HG2 HC
 go_wp2_with (go_at_call 157; refine (sortI_any _ w.heap.size w.heap.size m m L HL.out (by exact HR.out.1) hl).mono ?_; rintro e w3 ⟨rfl, hr3, hg3⟩)
 have HS := hide (And.intro hr3 (HR.out.2.grown hg3 HR.out.2.size (fun k hk => by cases hk; exact Nat.le_refl _)))
 clear hr3 hg3
 go_wp2_with (go_at_call 149; refine (compactI_any _ w.heap.size w.heap.size m m (sortI L) (by rw [sortI_len]; exact HL.out) (by exact HS.out.1) hl).mono ?_; rintro e w4 ⟨rfl, hr4, hg4⟩)
 go_ret
 exact ⟨_, _, rfl, hr4, HS.out.2.grown hg4 HS.out.2.size (fun k hk => by cases hk; exact Nat.le_refl _)⟩
end Go.Proofs.YtchoopnjckcohaaGreatDoor
namespace Go.Proofs.YtchoopnjckcohaaGreatDoor
def Wlk (S : Nat → Prop) (E : Nat → Nat → Prop) : Nat → Nat → Prop
 | 0, q => S q
 | k + 1, q => ∃ p, Wlk S E k p ∧ E p q
end Go.Proofs.YtchoopnjckcohaaGreatDoor
namespace Go.Proofs.YtchoopnjckcohaaGreatDoor
open Go.RowKit Go.Maps
attribute [local go_sem] Oper.semAt_some
def natL (T : List Nat) : List Int := T.map fun (q : Nat) => (q : Int)
theorem natL_len (T : List Nat) : (natL T).length = T.length := by simp [natL]
end Go.Proofs.YtchoopnjckcohaaGreatDoor
