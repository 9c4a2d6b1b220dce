import Derived.Test.YtfoahpideglghaaGreatDoorPM
import Derived.Maps.AppendAt
namespace Go.Proofs.YtfoahpideglghaaGreatDoor
open Go.RowKit Go.Maps Go.Shelf
attribute [local go_sem] Oper.semAt_some

/-! ### The law's own lists -/
/-- The marks behind a list. -/
def mrk (k : Nat) : List Int := (List.range k).map fun (i : Nat) => -1000 - (i : Int)
theorem mrk_succ (k : Nat) : mrk (k + 1) = mrk k ++ [-1000 - (k : Int)] := by unfold mrk; rw [List.range_succ, List.map_append]; rfl
theorem mrk_len (k : Nat) : (mrk k).length = k := by simp [mrk]
theorem ints_one (L : List Int) : ∀ u ∈ L.map (Value.int .i64), u.oneCell' = true := by
  intro u hu
  obtain ⟨k, _, rfl⟩ := List.mem_map.1 hu
  rfl
theorem rd_news {W : World} {ad : Addr} {L : List Int} (h : RdN W (some ad) L) : ∀ (j : Nat) (u : Value), (L.map (Value.int .i64))[j]? = some u → W.cell? (ad.add j) = some u := fun j u hu => by
  have hj : j < L.length := by have := (List.getElem?_eq_some_iff.1 hu).1; simpa using this
  obtain ⟨g, o, e, q⟩ := h j hj
  cases e
  rw [Addr.add_lit]
  rw [show (L.map (Value.int .i64))[j]? = some (.int .i64 L[j]) by simp [hj]] at hu
  rw [← hu]
  exact q
theorem cell_one_new (w : World) (v : Value) (t : TypeId) : ∀ (j : Nat) (u : Value), [v][j]? = some u → (w.alloc (.cells #[v] t)).cell? ((⟨w.heap.size, 0, none⟩ : Addr).add j) = some u := fun j u hu => by
  cases j with
  | zero => obtain rfl : v = u := by simpa using hu
            rw [Addr.add_lit]
            exact cell_of (World.alloc_heap_new _ _) rfl
  | succ j => simp at hu
/-- A list with its marks, in a row of its own. -/
structure Mk (B : Nat) (w : World) (g c : Nat) (L : List Int) : Prop where
  le : L.length + 70 ≤ c
  rw : w.ownsRow B 3 1 (.slice (some ⟨g, 0, none⟩) (L.length + 70) c) (L.length + 70) ((L ++ mrk 70).map (Value.int .i64))
theorem rdN_own {W : World} {B g c n : Nat} {X L : List Int} (h : W.ownsRow B 3 1 (.slice (some ⟨g, 0, none⟩) n c) n (X.map (Value.int .i64))) (hp : L <+: X) : RdN W (some ⟨g, 0, none⟩) L := fun j hj => by
  obtain ⟨t, rfl⟩ := hp
  refine ⟨g, 0, rfl, ?_⟩
  have := h.cells (g := g) rfl j (.int .i64 L[j]) (by rw [List.getElem?_map, List.getElem?_append_left hj, List.getElem?_eq_getElem hj]; rfl)
  rw [Addr.add_lit] at this
  simpa using this
theorem Mk.rd {B : Nat} {w : World} {g c : Nat} {L : List Int} (h : Mk B w g c L) : RdN w (some ⟨g, 0, none⟩) L := rdN_own h.rw (List.prefix_append _ _)
theorem Mk.on {B C : Nat} {w w' : World} {g c : Nat} {L : List Int} (h : Mk B w g c L) (d : Below C w w') (hg : g < C) : Mk B w' g c L := ⟨h.le, own_on h.rw d hg⟩
set_option maxRecDepth 100000 in
set_option maxHeartbeats 1000000 in
theorem ints_any (w : World) (ao : Option Addr) (L : List Int) (cp : Nat) (hr : Hid (RdN w ao L)) (hl : L.length ≤ 4194304) :
    Calls Tryz.prog 11 #[.slice ao L.length cp] w fun e w' => ∃ g c, e = .returned (.slice (some ⟨g, 0, none⟩) L.length c) ∧ Hid (Mk w.heap.size w' g c L) ∧ Below w.heap.size w w' := by
  obtain ⟨i3, hi3, hz30, hz31, hz32⟩ := info_parts info3
  go_enter Tryz.func11, Tryz.ntmps11
  go_upto_region 1 with fail
  go_cut [3] from 3 to 6 (fun v W => Hid (W.ownsRow w.heap.size 3 1 v L.length (L.map (Value.int .i64)) ∧ Below w.heap.size w W))
  case first =>
    cases ao with
    | some ad =>
      go_wp2_with (at_builtin; refine wpList_append_own_at _ rfl _ _ _ rfl w.heap.size 3 i3 _ 1 8 Tryz.underlying22 hi3 hz30 hz31 hz32 rfl (by omega) (.slice none 0 0) 0 [] rfl (World.ownsRow_nil _ _ _ _) ad L.length cp (L.map (Value.int .i64)) rfl (by simp) (rd_news hr.out) (ints_one L) (by unfold maxLen; omega) (by omega) (by simp) ?_)
      intro v1 w1 ho hgr hnil hloc
      have ho1 : w1.ownsRow w.heap.size 3 1 v1 L.length (L.map (Value.int .i64)) := by simpa using ho
      have D1 : Below w.heap.size w w1 := (Below.refl _ _).grown hgr (Nat.le_refl _) (fun k hk => by cases hk)
      clear ho hgr hnil hloc
      go_wp2_with fail
      go_meet
      exact hide ⟨ho1, D1⟩
    | none =>
      have hL : L = [] := by
        cases L with
        | nil => rfl
        | cons x l => obtain ⟨g, o, e, _⟩ := hr.out 0 (by simp); cases e
      subst hL
      go_wp2_with fail
      go_meet
      exact hide ⟨World.ownsRow_nil _ _ _ _, Below.refl _ _⟩
  case rest =>
    rename World => wx
    go_wp2
    go_loopw [3, 4] (fun v iv wr => ∃ i : Nat, i ≤ 70 ∧ iv = .int .i64 i ∧ Hid (wr.ownsRow w.heap.size 3 1 v (L.length + i) ((L ++ mrk i).map (Value.int .i64)) ∧ Below w.heap.size w wr)) (fun _ iv _ => 70 - (intOf iv).toNat)
    case atStart => exact ⟨0, Nat.zero_le _, rfl, by simpa [mrk] using hcut⟩
    case round =>
      obtain ⟨i, hi, rfl, HY⟩ := hrel
      clear hcut
      by_cases hlt : i < 70
      · have i0 : (i : Int) < 70 := by omega
        have i1 : (0 : Int) ≤ (i : Int) := by omega
        go_wp2_with (at_builtin; refine wpList_append_own_at _ rfl _ _ _ rfl w.heap.size 3 i3 _ 1 8 Tryz.underlying22 hi3 hz30 hz31 hz32 rfl (by omega) u3 (L.length + i) ((L ++ mrk i).map (Value.int .i64)) rfl (HY.out.1.alloc _) ⟨wr.heap.size, 0, none⟩ 1 1 [.int .i64 (-1000 - (i : Int))] rfl rfl (cell_one_new _ _ _) (by simp [Value.oneCell']) (by unfold maxLen; omega) (by omega) (by have := HY.out.2.size; simp; omega) ?_)
        intro v2 w2 ho hgr hnil hloc
        have hb := HY.out.1.lt
        have D2 := hide (HY.out.2.grown ((World.grownBy_alloc _ _ _).trans hgr) HY.out.2.size (fun k hk => (hb k hk).1))
        have ho2 : Hid (w2.ownsRow w.heap.size 3 1 v2 (L.length + (i + 1)) ((L ++ mrk (i + 1)).map (Value.int .i64))) := hide (by rw [mrk_succ]; simpa [Nat.add_assoc] using ho)
        clear ho hgr hnil hloc hb
        go_wp2_with fail
        go_roundw
        case rel => exact ⟨i + 1, by omega, by go_num, hide ⟨ho2.out, D2.out⟩⟩
        case measure => simp [intOf]; omega
      · obtain rfl : i = 70 := by omega
        obtain ⟨g, c, hv⟩ := ownsRow_succ (k := L.length + 69) HY.out.1
        subst hv
        have hc : L.length + 70 ≤ c := own_cap HY.out.1
        have k0 : (0 : Int) ≤ (L.length : Int) := by omega
        have k1 : (L.length : Int) ≤ (c : Int) := by omega
        go_wp2
        refine bodyPost_ret (results_tmp rfl _ _ _) rfl ?_
        exact ⟨g, c, rfl, hide ⟨hc, HY.out.1⟩, HY.out.2⟩
end Go.Proofs.YtfoahpideglghaaGreatDoor
