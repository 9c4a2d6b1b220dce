import Derived.Test.YtfoahpideglghaaGreatDoorPM
import Derived.Maps.AppendAt
namespace Go.Proofs.YtfoahpideglghaaGreatDoor
open Go.RowKit Go.Maps Go.Shelf
attribute [local go_sem] Oper.semAt_some

/-! ### The law's own lists -/
/-- The marks behind a list. -/
def mrk (k : Nat) : List Int := (List.range k).map fun (i : Nat) => -1000 - (i : Int)
theorem mrk_succ (k : Nat) : mrk (k + 1) = mrk k ++ [-1000 - (k : Int)] := by unfold mrk; rw [List.range_succ, List.map_append]; rfl
theorem ints_one (L : List Int) : ∀ u ∈ L.map (Value.int .i64), u.oneCell' = true := by
  intro u hu
  obtain ⟨k, _, rfl⟩ := List.mem_map.1 hu
  rfl
theorem rd_news {W : World} {ad : Addr} {L : List Int} (h : RdN W (some ad) L) : ∀ (j : Nat) (u : Value), (L.map (Value.int .i64))[j]? = some u → W.cell? (ad.add j) = some u := fun j u hu => by
  have hj : j < L.length := by have := (List.getElem?_eq_some_iff.1 hu).1; simpa using this
  obtain ⟨g, o, e, q⟩ := h j hj
  cases e
  rw [Addr.add_lit]
  rw [show (L.map (Value.int .i64))[j]? = some (.int .i64 L[j]) by simp [hj]] at hu
  rw [← hu]
  exact q
theorem cell_one_new (w : World) (v : Value) (t : TypeId) : ∀ (j : Nat) (u : Value), [v][j]? = some u → (w.alloc (.cells #[v] t)).cell? ((⟨w.heap.size, 0, none⟩ : Addr).add j) = some u := fun j u hu => by
  cases j with
  | zero => obtain rfl : v = u := by simpa using hu
            rw [Addr.add_lit]
            exact cell_of (World.alloc_heap_new _ _) rfl
  | succ j => simp at hu
/-- A list with its marks, in a row of its own. -/
structure Mk (B : Nat) (w : World) (g c : Nat) (L : List Int) : Prop where
  le : L.length + 70 ≤ c
  rw : w.ownsRow B 3 1 (.slice (some ⟨g, 0, none⟩) (L.length + 70) c) (L.length + 70) ((L ++ mrk 70).map (Value.int .i64))
theorem rdN_own {W : World} {B g c n : Nat} {X L : List Int} (h : W.ownsRow B 3 1 (.slice (some ⟨g, 0, none⟩) n c) n (X.map (Value.int .i64))) (hp : L <+: X) : RdN W (some ⟨g, 0, none⟩) L := fun j hj => by
  obtain ⟨t, rfl⟩ := hp
  refine ⟨g, 0, rfl, ?_⟩
  have := h.cells (g := g) rfl j (.int .i64 L[j]) (by rw [List.getElem?_map, List.getElem?_append_left hj, List.getElem?_eq_getElem hj]; rfl)
  rw [Addr.add_lit] at this
  simpa using this
theorem Mk.rd {B : Nat} {w : World} {g c : Nat} {L : List Int} (h : Mk B w g c L) : RdN w (some ⟨g, 0, none⟩) L := rdN_own h.rw (List.prefix_append _ _)
theorem Mk.on {B C : Nat} {w w' : World} {g c : Nat} {L : List Int} (h : Mk B w g c L) (d : Below C w w') (hg : g < C) : Mk B w' g c L := ⟨h.le, own_on h.rw d hg⟩
set_option maxRecDepth 100000 in
set_option maxHeartbeats 1000000 in
theorem ints_any (w : World) (ao : Option Addr) (L : List Int) (cp : Nat) (hr : Hid (RdN w ao L)) (hl : L.length ≤ 4194304) :
    Calls Tryz.prog 11 #[.slice ao L.length cp] w fun e w' => ∃ g c, e = .returned (.slice (some ⟨g, 0, none⟩) L.length c) ∧ Hid (Mk w.heap.size w' g c L) ∧ Below w.heap.size w w' := by
  obtain ⟨i3, hi3, hz30, hz31, hz32⟩ := info_parts info3
  go_enter Tryz.func11, Tryz.ntmps11
  go_upto_region 1 with fail
  go_cut [3] from 3 to 6 (fun v W => Hid (W.ownsRow w.heap.size 3 1 v L.length (L.map (Value.int .i64)) ∧ Below w.heap.size w W))
  case first =>
    cases ao with
    | some ad =>
      go_wp2_with (at_builtin; refine wpList_append_own_at _ rfl _ _ _ rfl w.heap.size 3 i3 _ 1 8 Tryz.underlying22 hi3 hz30 hz31 hz32 rfl (by omega) (.slice none 0 0) 0 [] rfl (World.ownsRow_nil _ _ _ _) ad L.length cp (L.map (Value.int .i64)) rfl (by simp) (rd_news hr.out) (ints_one L) (by unfold maxLen; omega) (by omega) (by simp) ?_)
      intro v1 w1 ho hgr hnil hloc
      have ho1 : w1.ownsRow w.heap.size 3 1 v1 L.length (L.map (Value.int .i64)) := by simpa using ho
      have D1 : Below w.heap.size w w1 := (Below.refl _ _).grown hgr (Nat.le_refl _) (fun k hk => by cases hk)
      clear ho hgr hnil hloc
      go_wp2_with fail
      go_meet
      exact hide ⟨ho1, D1⟩
    | none =>
      have hL : L = [] := by
        cases L with
        | nil => rfl
        | cons x l => obtain ⟨g, o, e, _⟩ := hr.out 0 (by simp); cases e
      subst hL
      go_wp2_with fail
      go_meet
      exact hide ⟨World.ownsRow_nil _ _ _ _, Below.refl _ _⟩
  case rest =>
    rename World => wx
    go_wp2
    go_loopw [3, 4] (fun v iv wr => ∃ i : Nat, i ≤ 70 ∧ iv = .int .i64 i ∧ Hid (wr.ownsRow w.heap.size 3 1 v (L.length + i) ((L ++ mrk i).map (Value.int .i64)) ∧ Below w.heap.size w wr)) (fun _ iv _ => 70 - (intOf iv).toNat)
    case atStart => exact ⟨0, Nat.zero_le _, rfl, by simpa [mrk] using hcut⟩
    case round =>
      obtain ⟨i, hi, rfl, HY⟩ := hrel
      clear hcut
      by_cases hlt : i < 70
      · have i0 : (i : Int) < 70 := by omega
        have i1 : (0 : Int) ≤ (i : Int) := by omega
        go_wp2_with (at_builtin; refine wpList_append_own_at _ rfl _ _ _ rfl w.heap.size 3 i3 _ 1 8 Tryz.underlying22 hi3 hz30 hz31 hz32 rfl (by omega) u3 (L.length + i) ((L ++ mrk i).map (Value.int .i64)) rfl (HY.out.1.alloc _) ⟨wr.heap.size, 0, none⟩ 1 1 [.int .i64 (-1000 - (i : Int))] rfl rfl (cell_one_new _ _ _) (by simp [Value.oneCell']) (by unfold maxLen; omega) (by omega) (by have := HY.out.2.size; simp; omega) ?_)
        intro v2 w2 ho hgr hnil hloc
        have hb := HY.out.1.lt
        have D2 := hide (HY.out.2.grown ((World.grownBy_alloc _ _ _).trans hgr) HY.out.2.size (fun k hk => (hb k hk).1))
        have ho2 : Hid (w2.ownsRow w.heap.size 3 1 v2 (L.length + (i + 1)) ((L ++ mrk (i + 1)).map (Value.int .i64))) := hide (by rw [mrk_succ]; simpa [Nat.add_assoc] using ho)
        clear ho hgr hnil hloc hb
        go_wp2_with fail
        go_roundw
        case rel => exact ⟨i + 1, by omega, by go_num, hide ⟨ho2.out, D2.out⟩⟩
        case measure => simp [intOf]; omega
      · obtain rfl : i = 70 := by omega
        obtain ⟨g, c, hv⟩ := ownsRow_succ (k := L.length + 69) HY.out.1
        subst hv
        have hc : L.length + 70 ≤ c := own_cap HY.out.1
        have k0 : (0 : Int) ≤ (L.length : Int) := by omega
        have k1 : (L.length : Int) ≤ (c : Int) := by omega
        go_wp2
        refine bodyPost_ret (results_tmp rfl _ _ _) rfl ?_
        exact ⟨g, c, rfl, hide ⟨hc, HY.out.1⟩, HY.out.2⟩
end Go.Proofs.YtfoahpideglghaaGreatDoor
namespace Go.Proofs.YtfoahpideglghaaGreatDoor
open Go.RowKit Go.Maps Go.Shelf
attribute [local go_sem] Oper.semAt_some

/-! ### The law's own automata -/
def mrkE (k : Nat) : List EdT := (List.range k).map fun (i : Nat) => (-1000 - (i : Int), 0, 0)
theorem mrkE_succ (k : Nat) : mrkE (k + 1) = mrkE k ++ [(-1000 - (k : Int), 0, 0)] := by unfold mrkE; rw [List.range_succ, List.map_append]; rfl
theorem rdE_news {W : World} {ad : Addr} {L : List EdT} (h : RdE W (some ad) L) : ∀ (j : Nat) (u : Value), (L.flatMap encE)[j]? = some u → W.cell? (ad.add j) = some u := fun j u hu => by
  have hj : j < L.length * 3 := by have := (List.getElem?_eq_some_iff.1 hu).1; rw [encE_flat] at this; exact this
  obtain ⟨g, o, e, _⟩ := h 0 (by omega)
  cases e
  rw [Addr.add_lit]
  exact edges_at h j u hu
theorem cells_new (w : World) (v0 v1 v2 : Value) (t : TypeId) : ∀ (j : Nat) (u : Value), [v0, v1, v2][j]? = some u → (w.alloc (.cells #[v0, v1, v2] t)).cell? ((⟨w.heap.size, 0, none⟩ : Addr).add j) = some u := fun j u hu => by
  rw [Addr.add_lit]
  rw [Nat.zero_add]
  exact cell_of (World.alloc_heap_new _ _) (by rw [← hu]; simp)
/-- Edges with their marks, in a row of their own. -/
structure MkE (B : Nat) (w : World) (g c : Nat) (L : List EdT) : Prop where
  le : L.length + 70 ≤ c
  rw : w.ownsRow B 59 3 (.slice (some ⟨g, 0, none⟩) (L.length + 70) c) (L.length + 70) ((L ++ mrkE 70).flatMap encE)
theorem MkE.on {B C : Nat} {w w' : World} {g c : Nat} {L : List EdT} (h : MkE B w g c L) (d : Below C w w') (hg : g < C) : MkE B w' g c L := ⟨h.le, own_on h.rw d hg⟩
theorem MkE.rd {B : Nat} {w : World} {g c : Nat} {L : List EdT} (h : MkE B w g c L) : RdE w (some ⟨g, 0, none⟩) L := fun j hj => by
  have hl : (L ++ mrkE 70).length = L.length + 70 := by simp [mrkE]
  have hr := h.rw
  rw [← hl] at hr
  have q := rdE_cells hr j (by rw [hl]; omega)
  have e : (L ++ mrkE 70)[j]'(by rw [hl]; omega) = L[j] := List.getElem_append_left hj
  rw [e] at q
  exact ⟨g, 0, rfl, by simpa using q⟩
/-- An automaton whose lists are its own, marks behind them. -/
structure TwA (B : Nat) (w : World) (g1 k1 g2 k2 g3 k3 : Nat) (St Fi : List Int) (Ed : List EdT) : Prop where
  s : Mk B w g1 k1 St
  f : Mk B w g2 k2 Fi
  e : MkE B w g3 k3 Ed
  n12 : g1 ≠ g2
  n13 : g1 ≠ g3
  n23 : g2 ≠ g3
theorem TwA.rd {B : Nat} {w : World} {g1 k1 g2 k2 g3 k3 : Nat} {St Fi : List Int} {Ed : List EdT} (h : TwA B w g1 k1 g2 k2 g3 k3 St Fi Ed) : RdA w (some ⟨g1, 0, none⟩) (some ⟨g2, 0, none⟩) (some ⟨g3, 0, none⟩) St Fi Ed := ⟨h.s.rd, h.f.rd, h.e.rd⟩
theorem Mk.lt {B : Nat} {w : World} {g c : Nat} {L : List Int} (h : Mk B w g c L) : B ≤ g ∧ g < w.heap.size := own_at h.rw
theorem MkE.lt {B : Nat} {w : World} {g c : Nat} {L : List EdT} (h : MkE B w g c L) : B ≤ g ∧ g < w.heap.size := own_at h.rw
theorem TwA.on {B : Nat} {w w' : World} {g1 k1 g2 k2 g3 k3 : Nat} {St Fi : List Int} {Ed : List EdT} (h : TwA B w g1 k1 g2 k2 g3 k3 St Fi Ed) (d : Below w.heap.size w w') : TwA B w' g1 k1 g2 k2 g3 k3 St Fi Ed := ⟨h.s.on d h.s.lt.2, h.f.on d h.f.lt.2, h.e.on d h.e.lt.2, h.n12, h.n13, h.n23⟩
theorem Mk.only {B q : Nat} {w w' : World} {g c : Nat} {L : List Int} (h : Mk B w g c L) (o : Only w w' (fun k => k = q)) (hq : g ≠ q) : Mk B w' g c L := ⟨h.le, own_only h.rw o hq⟩
theorem MkE.only {B q : Nat} {w w' : World} {g c : Nat} {L : List EdT} (h : MkE B w g c L) (o : Only w w' (fun k => k = q)) (hq : g ≠ q) : MkE B w' g c L := ⟨h.le, own_only h.rw o hq⟩
theorem Mk.down {B C : Nat} {w : World} {g c : Nat} {L : List Int} (h : Mk B w g c L) (hC : C ≤ B) : Mk C w g c L := ⟨h.le, owns_down h.rw hC⟩
theorem MkE.down {B C : Nat} {w : World} {g c : Nat} {L : List EdT} (h : MkE B w g c L) (hC : C ≤ B) : MkE C w g c L := ⟨h.le, owns_down h.rw hC⟩
set_option maxRecDepth 100000 in
set_option maxHeartbeats 2000000 in
theorem twin_any (w : World) (n m : Int) (a1 a2 a3 : Option Addr) (c1 c2 c3 : Nat) (St Fi : List Int) (Ed : List EdT) (hA : Hid (RdA w a1 a2 a3 St Fi Ed)) (h1 : St.length ≤ 4194304) (h2 : Fi.length ≤ 4194304) (h3 : Ed.length ≤ 4194304) :
    Calls Tryz.prog 10 #[.agg #[.int .i64 n, .int .i64 m, .slice a1 St.length c1, .slice a2 Fi.length c2, .slice a3 Ed.length c3]] w fun e w' => ∃ g1 k1 g2 k2 g3 k3, e = .returned (.agg #[.int .i64 n, .int .i64 m, .slice (some ⟨g1, 0, none⟩) St.length k1, .slice (some ⟨g2, 0, none⟩) Fi.length k2, .slice (some ⟨g3, 0, none⟩) Ed.length k3]) ∧ Hid (TwA w.heap.size w' g1 k1 g2 k2 g3 k3 St Fi Ed) ∧ Below w.heap.size w w' := by
  obtain ⟨i5, hi5, hz50, hz51, hz52⟩ := info_parts info59
  obtain ⟨q, hq⟩ : ∃ q, q = Ed.length := ⟨_, rfl⟩
  have HL := hide hq
  rw [← hq]
  rw [← hq] at h3
  clear hq
  obtain ⟨W0, hW0⟩ : ∃ W0, (w.alloc (.cells #[.int .i64 n, .int .i64 m, .slice a1 St.length c1, .slice a2 Fi.length c2, .slice a3 q c3] 25)).alloc (.cells #[.int .i64 0, .int .i64 0, .slice none 0 0, .slice none 0 0, .slice none 0 0] 25) = W0 := ⟨_, rfl⟩
  have HD := hide (box2 w #[.int .i64 n, .int .i64 m, .slice a1 St.length c1, .slice a2 Fi.length c2, .slice a3 q c3] #[.int .i64 0, .int .i64 0, .slice none 0 0, .slice none 0 0, .slice none 0 0] 25)
  rw [hW0] at HD
  have y4 : W0.cell? ⟨w.heap.size, 4, none⟩ = some (.slice a3 q c3) := cell_of HD.out.2.1 rfl
  have hr : Hid (RdE W0 a3 Ed) := hide (hA.out.e.on HD.out.1)
  go_enter Tryz.func10, Tryz.ntmps10
  go_upto_region 1 with fail
  go_cut [3] from 3 to 7 (fun v W => Hid (W.ownsRow W0.heap.size 59 3 v q (Ed.flatMap encE) ∧ Below W0.heap.size W0 W))
  case first =>
    cases a3 with
    | some ad =>
      go_wp2_with (at_builtin; refine wpList_append_own_at _ rfl _ _ _ rfl W0.heap.size 59 i5 _ 3 24 Tryz.underlying23 hi5 hz50 hz51 hz52 rfl (by omega) (.slice none 0 0) 0 [] rfl (World.ownsRow_nil _ _ _ _) ad q c3 (Ed.flatMap encE) rfl (by rw [encE_flat, HL.out]) (rdE_news hr.out) (encE_one Ed) (by unfold maxLen; omega) (by omega) (by simp) ?_)
      intro v1 w1 ho hgr hnil hloc
      have ho1 : w1.ownsRow W0.heap.size 59 3 v1 q (Ed.flatMap encE) := by simpa using ho
      have D1 : Below W0.heap.size W0 w1 := (Below.refl _ _).grown hgr (Nat.le_refl _) (fun k hk => by cases hk)
      clear ho hgr hnil hloc
      go_wp2_with fail
      go_meet
      exact hide ⟨ho1, D1⟩
    | none =>
      have hL : Ed = [] := by
        cases Ed with
        | nil => rfl
        | cons x l => obtain ⟨g, o, e, _⟩ := hr.out 0 (by simp); cases e
      subst hL
      obtain rfl : q = 0 := HL.out
      go_wp2_with fail
      go_meet
      exact hide ⟨World.ownsRow_nil _ _ _ _, Below.refl _ _⟩
  case rest =>
    rename World => wx
    clear y4
    go_wp2
    go_loopw [3, 4] (fun v iv wr => ∃ i : Nat, i ≤ 70 ∧ iv = .int .i64 i ∧ Hid (wr.ownsRow W0.heap.size 59 3 v (q + i) ((Ed ++ mrkE i).flatMap encE) ∧ Below W0.heap.size W0 wr)) (fun _ iv _ => 70 - (intOf iv).toNat)
    case atStart => exact ⟨0, Nat.zero_le _, rfl, by simpa [mrkE] using hcut⟩
    case round =>
      obtain ⟨i, hi, rfl, HY⟩ := hrel
      clear hcut
      by_cases hlt : i < 70
      · have i0 : (i : Int) < 70 := by omega
        have i1 : (0 : Int) ≤ (i : Int) := by omega
        go_wp2_with (at_builtin; refine wpList_append_own_at _ rfl _ _ _ rfl W0.heap.size 59 i5 _ 3 24 Tryz.underlying23 hi5 hz50 hz51 hz52 rfl (by omega) u3 (q + i) ((Ed ++ mrkE i).flatMap encE) rfl (HY.out.1.alloc _) ⟨wr.heap.size, 0, none⟩ 1 1 [.int .i64 (-1000 - (i : Int)), .int .i64 0, .int .i64 0] rfl rfl (cells_new _ _ _ _ _) (by simp [Value.oneCell']) (by unfold maxLen; omega) (by omega) (by have := HY.out.2.size; simp; omega) ?_)
        intro v2 w2 ho hgr hnil hloc
        have hb := HY.out.1.lt
        have D2 := hide (HY.out.2.grown ((World.grownBy_alloc _ _ _).trans hgr) HY.out.2.size (fun k hk => (hb k hk).1))
        have ho2 : Hid (w2.ownsRow W0.heap.size 59 3 v2 (q + (i + 1)) ((Ed ++ mrkE (i + 1)).flatMap encE)) := hide (by rw [mrkE_succ]; simpa [Nat.add_assoc, encE] using ho)
        clear ho hgr hnil hloc hb
        go_wp2_with fail
        go_roundw
        case rel => exact ⟨i + 1, by omega, by go_num, hide ⟨ho2.out, D2.out⟩⟩
        case measure => simp [intOf]; omega
      · obtain rfl : i = 70 := by omega
        obtain ⟨g3, k3, hv⟩ := ownsRow_succ (k := q + 69) HY.out.1
        subst hv
        have hc : q + 70 ≤ k3 := own_cap HY.out.1
        go_upto_region 6 with fail
        have z0 := HD.out.2.2.2
        have zr := HY.out.2.size
        have HE : Hid (MkE W0.heap.size wr g3 k3 Ed) := hide ⟨by rw [← HL.out]; exact hc, by rw [← HL.out]; exact HY.out.1⟩
        have HR : Hid (wr.heap[w.heap.size]? = some (.cells #[.int .i64 n, .int .i64 m, .slice a1 St.length c1, .slice a2 Fi.length c2, .slice a3 q c3] 25 (0, 0)) ∧ wr.heap[w.heap.size + 1]? = some (.cells #[.int .i64 0, .int .i64 0, .slice none 0 0, .slice none 0 0, .slice none 0 0] 25 (0, 0)) ∧ Below w.heap.size w wr) := hide ⟨blk_on HD.out.2.1 HY.out.2, blk_on HD.out.2.2.1 HY.out.2, HD.out.1.trans (HY.out.2.mono HD.out.1.size)⟩
        have y2 : wr.cell? ⟨w.heap.size, 2, none⟩ = some (.slice a1 St.length c1) := cell_of HR.out.1 rfl
        have T1 := ints_any wr a1 St c1 (hide (hA.out.s.on HR.out.2.2)) h1
        clear HY
        go_upto_region 7 with (go_at_call 11; refine T1.mono ?_; rintro e w2 ⟨g1, k1, rfl, hm1, d2⟩; have H2 : Hid (w2.heap[w.heap.size]? = some (.cells #[.int .i64 n, .int .i64 m, .slice a1 St.length c1, .slice a2 Fi.length c2, .slice a3 q c3] 25 (0, 0)) ∧ w2.heap[w.heap.size + 1]? = some (.cells #[.int .i64 0, .int .i64 0, .slice none 0 0, .slice none 0 0, .slice none 0 0] 25 (0, 0)) ∧ Below w.heap.size w w2 ∧ MkE W0.heap.size w2 g3 k3 Ed ∧ Mk wr.heap.size w2 g1 k1 St ∧ wr.heap.size ≤ w2.heap.size) := hide ⟨blk_on HR.out.1 d2, blk_on HR.out.2.1 d2, HR.out.2.2.trans (d2.mono HR.out.2.2.size), HE.out.on d2 HE.out.lt.2, hm1.out, d2.size⟩; have o2 : w2.cell? ⟨w.heap.size, 2, none⟩ = some (.slice a1 St.length c1) := cell_of H2.out.1 rfl; have f2 : w2.frozen? ⟨w.heap.size, 2, none⟩ = false := fz_of H2.out.1; clear hm1 d2)
        obtain ⟨w3, hw3⟩ : ∃ w3, w2.setCell ⟨w.heap.size, 2, none⟩ (.slice (some ⟨g1, 0, none⟩) St.length k1) = w3 := ⟨_, rfl⟩
        rw [hw3]
        have H3 : Hid (w3.heap[w.heap.size]? = some (.cells #[.int .i64 n, .int .i64 m, .slice (some ⟨g1, 0, none⟩) St.length k1, .slice a2 Fi.length c2, .slice a3 q c3] 25 (0, 0)) ∧ w3.heap[w.heap.size + 1]? = some (.cells #[.int .i64 0, .int .i64 0, .slice none 0 0, .slice none 0 0, .slice none 0 0] 25 (0, 0)) ∧ Below w.heap.size w w3 ∧ MkE W0.heap.size w3 g3 k3 Ed ∧ Mk wr.heap.size w3 g1 k1 St ∧ g3 < wr.heap.size ∧ wr.heap.size ≤ w3.heap.size) := hide (by
          have o : Only w2 w3 (fun k => k = w.heap.size) := by rw [← hw3]; exact only_set _ _ _ _
          have l1 := H2.out.2.2.2.2.1.lt
          have l3 := HE.out.lt
          refine ⟨by rw [← hw3]; exact heap_setCell_same _ _ 2 _ 25 _ H2.out.1, (o.block _ (Array.getElem?_eq_some_iff.1 H2.out.2.1).1 (by omega)).trans H2.out.2.1, H2.out.2.2.1.trans (o.toBelow H2.out.2.2.1.size (fun k hk => by omega)), H2.out.2.2.2.1.only o (by omega), H2.out.2.2.2.2.1.only o (by omega), l3.2, Nat.le_trans H2.out.2.2.2.2.2 o.size⟩)
        clear hw3 H2 o2 f2 T1 y2 HE HR
        have y3 : w3.cell? ⟨w.heap.size, 3, none⟩ = some (.slice a2 Fi.length c2) := cell_of H3.out.1 rfl
        have T2 := ints_any w3 a2 Fi c2 (hide (hA.out.f.on H3.out.2.2.1)) h2
        go_upto_region 8 with (go_at_call 11; refine T2.mono ?_; rintro e w4 ⟨g2, k2, rfl, hm2, d4⟩; have H4 : Hid (w4.heap[w.heap.size]? = some (.cells #[.int .i64 n, .int .i64 m, .slice (some ⟨g1, 0, none⟩) St.length k1, .slice a2 Fi.length c2, .slice a3 q c3] 25 (0, 0)) ∧ w4.heap[w.heap.size + 1]? = some (.cells #[.int .i64 0, .int .i64 0, .slice none 0 0, .slice none 0 0, .slice none 0 0] 25 (0, 0)) ∧ Below w.heap.size w w4 ∧ MkE W0.heap.size w4 g3 k3 Ed ∧ Mk wr.heap.size w4 g1 k1 St ∧ Mk w3.heap.size w4 g2 k2 Fi ∧ g1 < w3.heap.size ∧ g3 < w3.heap.size ∧ wr.heap.size ≤ g1) := hide ⟨blk_on H3.out.1 d4, blk_on H3.out.2.1 d4, H3.out.2.2.1.trans (d4.mono H3.out.2.2.1.size), H3.out.2.2.2.1.on d4 H3.out.2.2.2.1.lt.2, H3.out.2.2.2.2.1.on d4 H3.out.2.2.2.2.1.lt.2, hm2.out, H3.out.2.2.2.2.1.lt.2, H3.out.2.2.2.1.lt.2, H3.out.2.2.2.2.1.lt.1⟩; have o3 : w4.cell? ⟨w.heap.size, 3, none⟩ = some (.slice a2 Fi.length c2) := cell_of H4.out.1 rfl; have f3 : w4.frozen? ⟨w.heap.size, 3, none⟩ = false := fz_of H4.out.1; clear hm2 d4)
        obtain ⟨w5, hw5⟩ : ∃ w5, w4.setCell ⟨w.heap.size, 3, none⟩ (.slice (some ⟨g2, 0, none⟩) Fi.length k2) = w5 := ⟨_, rfl⟩
        rw [hw5]
        have H5 : Hid (w5.heap[w.heap.size]? = some (.cells #[.int .i64 n, .int .i64 m, .slice (some ⟨g1, 0, none⟩) St.length k1, .slice (some ⟨g2, 0, none⟩) Fi.length k2, .slice a3 q c3] 25 (0, 0)) ∧ w5.heap[w.heap.size + 1]? = some (.cells #[.int .i64 0, .int .i64 0, .slice none 0 0, .slice none 0 0, .slice none 0 0] 25 (0, 0)) ∧ Below w.heap.size w w5 ∧ MkE W0.heap.size w5 g3 k3 Ed ∧ Mk wr.heap.size w5 g1 k1 St ∧ Mk w3.heap.size w5 g2 k2 Fi ∧ g1 < w3.heap.size ∧ g3 < wr.heap.size ∧ wr.heap.size ≤ g1 ∧ wr.heap.size ≤ w3.heap.size) := hide (by
          have o : Only w4 w5 (fun k => k = w.heap.size) := by rw [← hw5]; exact only_set _ _ _ _
          have l1 := H4.out.2.2.2.2.1.lt
          have l2 := H4.out.2.2.2.2.2.1.lt
          have l3 := H4.out.2.2.2.1.lt
          have l4 := H3.out.2.2.2.2.2
          refine ⟨by rw [← hw5]; exact heap_setCell_same _ _ 3 _ 25 _ H4.out.1, (o.block _ (Array.getElem?_eq_some_iff.1 H4.out.2.1).1 (by omega)).trans H4.out.2.1, H4.out.2.2.1.trans (o.toBelow H4.out.2.2.1.size (fun k hk => by omega)), H4.out.2.2.2.1.only o (by omega), H4.out.2.2.2.2.1.only o (by omega), H4.out.2.2.2.2.2.1.only o (by omega), H4.out.2.2.2.2.2.2.1, l4.1, H4.out.2.2.2.2.2.2.2.2, l4.2⟩)
        clear hw5 H4 o3 f3 T2 y3 H3
        have o4 : w5.cell? ⟨w.heap.size, 4, none⟩ = some (.slice a3 q c3) := cell_of H5.out.1 rfl
        have f4 : w5.frozen? ⟨w.heap.size, 4, none⟩ = false := fz_of H5.out.1
        obtain ⟨w6, hw6⟩ : ∃ w6, w5.setCell ⟨w.heap.size, 4, none⟩ (.slice (some ⟨g3, 0, none⟩) q k3) = w6 := ⟨_, rfl⟩
        have H6 : Hid (w6.heap[w.heap.size]? = some (.cells #[.int .i64 n, .int .i64 m, .slice (some ⟨g1, 0, none⟩) St.length k1, .slice (some ⟨g2, 0, none⟩) Fi.length k2, .slice (some ⟨g3, 0, none⟩) q k3] 25 (0, 0)) ∧ w6.heap[w.heap.size + 1]? = some (.cells #[.int .i64 0, .int .i64 0, .slice none 0 0, .slice none 0 0, .slice none 0 0] 25 (0, 0)) ∧ Below w.heap.size w w6 ∧ MkE W0.heap.size w6 g3 k3 Ed ∧ Mk wr.heap.size w6 g1 k1 St ∧ Mk w3.heap.size w6 g2 k2 Fi) := hide (by
          have o : Only w5 w6 (fun k => k = w.heap.size) := by rw [← hw6]; exact only_set _ _ _ _
          have l1 := H5.out.2.2.2.2.1.lt
          have l2 := H5.out.2.2.2.2.2.1.lt
          have l3 := H5.out.2.2.2.1.lt
          have l4 := H5.out.2.2.2.2.2.2
          refine ⟨by rw [← hw6]; exact heap_setCell_same _ _ 4 _ 25 _ H5.out.1, (o.block _ (Array.getElem?_eq_some_iff.1 H5.out.2.1).1 (by omega)).trans H5.out.2.1, H5.out.2.2.1.trans (o.toBelow H5.out.2.2.1.size (fun k hk => by omega)), H5.out.2.2.2.1.only o (by omega), H5.out.2.2.2.2.1.only o (by omega), H5.out.2.2.2.2.2.1.only o (by omega)⟩)
        have hsub : ((q + 69 + 1 : Nat) : Int) - 70 = (q : Int) := by omega
        have k0 : (0 : Int) ≤ (q : Int) := by omega
        have kc : (q : Int) ≤ (k3 : Int) := by omega
        go_upto_region 9 with fail
        clear o4 f4 hw6
        have y0 : w6.cell? ⟨w.heap.size, 0, none⟩ = some (.int .i64 n) := cell_of H6.out.1 rfl
        have y1 : w6.cell? ⟨w.heap.size, 1, none⟩ = some (.int .i64 m) := cell_of H6.out.1 rfl
        have y2 : w6.cell? ⟨w.heap.size, 2, none⟩ = some (.slice (some ⟨g1, 0, none⟩) St.length k1) := cell_of H6.out.1 rfl
        have y3 : w6.cell? ⟨w.heap.size, 3, none⟩ = some (.slice (some ⟨g2, 0, none⟩) Fi.length k2) := cell_of H6.out.1 rfl
        have y4 : w6.cell? ⟨w.heap.size, 4, none⟩ = some (.slice (some ⟨g3, 0, none⟩) q k3) := cell_of H6.out.1 rfl
        have o0 : w6.cell? ⟨w.heap.size + 1, 0, none⟩ = some (.int .i64 0) := cell_of H6.out.2.1 rfl
        have f0 : w6.frozen? ⟨w.heap.size + 1, 0, none⟩ = false := fz_of H6.out.2.1
        have o1 : w6.cell? ⟨w.heap.size + 1, 1, none⟩ = some (.int .i64 0) := cell_of H6.out.2.1 rfl
        have f1 : w6.frozen? ⟨w.heap.size + 1, 1, none⟩ = false := fz_of H6.out.2.1
        have o2 : w6.cell? ⟨w.heap.size + 1, 2, none⟩ = some (.slice none 0 0) := cell_of H6.out.2.1 rfl
        have f2 : w6.frozen? ⟨w.heap.size + 1, 2, none⟩ = false := fz_of H6.out.2.1
        have o3 : w6.cell? ⟨w.heap.size + 1, 3, none⟩ = some (.slice none 0 0) := cell_of H6.out.2.1 rfl
        have f3 : w6.frozen? ⟨w.heap.size + 1, 3, none⟩ = false := fz_of H6.out.2.1
        have o4 : w6.cell? ⟨w.heap.size + 1, 4, none⟩ = some (.slice none 0 0) := cell_of H6.out.2.1 rfl
        have f4 : w6.frozen? ⟨w.heap.size + 1, 4, none⟩ = false := fz_of H6.out.2.1
        have O6 := hide (And.intro (set5 w6 (w.heap.size + 1) _ _ _ _ _ (.int .i64 n) (.int .i64 m) (.slice (some ⟨g1, 0, none⟩) St.length k1) (.slice (some ⟨g2, 0, none⟩) Fi.length k2) (.slice (some ⟨g3, 0, none⟩) q k3) 25 H6.out.2.1) (only5 w6 (w.heap.size + 1) (.int .i64 n) (.int .i64 m) (.slice (some ⟨g1, 0, none⟩) St.length k1) (.slice (some ⟨g2, 0, none⟩) Fi.length k2) (.slice (some ⟨g3, 0, none⟩) q k3)))
        go_wp2_with fail
        refine bodyPost_ret (results_cell_row (p := 2) (ty := 25) rfl _ _ (w.heap.size + 1) 25 _ (0, 0) _ rfl O6.out.1 Tryz.underlying25 rfl (by kernel_rfl)) rfl ?_
        have l1 := H6.out.2.2.2.2.1.lt
        have l2 := H6.out.2.2.2.2.2.lt
        have l3 := H6.out.2.2.2.1.lt
        have l4 := H5.out.2.2.2.2.2.2
        refine ⟨g1, k1, g2, k2, g3, k3, rfl, hide ⟨(H6.out.2.2.2.2.1.only O6.out.2 (by omega)).down (by omega), (H6.out.2.2.2.2.2.only O6.out.2 (by omega)).down (by omega), (H6.out.2.2.2.1.only O6.out.2 (by omega)).down (by omega), by omega, by omega, by omega⟩, H6.out.2.2.1.trans (O6.out.2.toBelow H6.out.2.2.1.size (fun k hk => by omega))⟩
end Go.Proofs.YtfoahpideglghaaGreatDoor
