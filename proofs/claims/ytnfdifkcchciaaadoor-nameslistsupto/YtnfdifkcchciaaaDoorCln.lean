import Derived.Test.YtnfdifkcchciaaaDoorPls
import Derived.Lib.SliceRun
namespace Go.Proofs.YtnfdifkcchciaaaDoor
open Go.RowKit Go.Maps

def strV (l : List ByteArray) : List Value := l.map .string
def intV (l : List Nat) : List Value := l.map fun (i : Nat) => .int .i64 (i : Int)
theorem strV_length (l : List ByteArray) : (strV l).length = l.length := by simp [strV]
theorem intV_length (l : List Nat) : (intV l).length = l.length := by simp [intV]
theorem strV_one (l : List ByteArray) : ∀ u ∈ strV l, u.oneCell' = true := by
  intro u hu
  obtain ⟨k, _, rfl⟩ := List.mem_map.1 hu
  rfl
/-- A slice of texts that lies from block B on, in a row of its own. -/
def OwnS (w : World) (B : Nat) (v : Value) (l : List ByteArray) : Prop := w.ownsRow B 9 1 v l.length (strV l)
def OwnN (w : World) (B : Nat) (v : Value) (l : List Nat) : Prop := w.ownsRow B 3 1 v l.length (intV l)
theorem info9 : (Tryd.prog.info? 9).map (fun i => (i.zero, i.size, i.bytes)) = some (some (.string ByteArray.empty), 1, 16) := by kernel_rfl
theorem info3 : (Tryd.prog.info? 3).map (fun i => (i.zero, i.size, i.bytes)) = some (some (.int .i64 0), 1, 8) := by kernel_rfl

theorem OwnS.str {w : World} {B : Nat} {v : Value} {l : List ByteArray} (h : OwnS w B v l) : StrS w v l := by
  rcases h.2 with ⟨rfl, hn⟩ | ⟨g, cap, cur, rfl, hb, hg, hnc, hcm, hcs, htake⟩
  · exact ⟨none, 0, by rw [hn], fun k hk => by omega⟩
  · refine ⟨_, cap, rfl, fun k hk => ⟨g, 0, rfl, ?_⟩⟩
    have h' : w.ownsRow B 9 1 (.slice (some ⟨g, 0, none⟩) l.length cap) l.length (strV l) := h
    rw [Nat.zero_add, h'.cellAt k (by omega)]
    simp [strV, List.getElem?_eq_getElem hk]
theorem OwnN.int {w : World} {B : Nat} {v : Value} {l : List Nat} (h : OwnN w B v l) : IntS w v l := by
  rcases h.2 with ⟨rfl, hn⟩ | ⟨g, cap, cur, rfl, hb, hg, hnc, hcm, hcs, htake⟩
  · exact ⟨none, 0, by rw [hn], fun k hk => by omega⟩
  · refine ⟨_, cap, rfl, fun k hk => ⟨g, 0, rfl, ?_⟩⟩
    have h' : w.ownsRow B 3 1 (.slice (some ⟨g, 0, none⟩) l.length cap) l.length (intV l) := h
    rw [Nat.zero_add, h'.cellAt k (by omega)]
    simp [intV, List.getElem?_eq_getElem hk]

theorem news_of {w : World} {g o : Nat} {l : List ByteArray} (h : ReadsS w (some ⟨g, o, none⟩) l) (ob : Obj) : ∀ (j : Nat) (u : Value), (strV l)[j]? = some u → (w.alloc ob).cell? ((⟨g, o, none⟩ : Addr).add j) = some u := by
  intro j u hu
  have hj : j < l.length := by
    have := (List.getElem?_eq_some_iff.1 hu).1
    rwa [strV_length] at this
  obtain ⟨g', o', he, hc⟩ := h j hj
  simp at he
  obtain ⟨rfl, rfl⟩ := he
  rw [Addr.add_lit, World.cell?_of_block (w := w) (Below.heap_alloc w ob g (World.block_lt_of_cell? w _ hc)), hc]
  have := (List.getElem?_eq_some_iff.1 hu).2
  simp [strV] at this
  rw [← this]

set_option maxRecDepth 100000 in
set_option maxHeartbeats 1000000 in
theorem clone_some (ad : Addr) (cap : Nat) (l : List ByteArray) (w : World) (hnews : ∀ (ob : Obj) (j : Nat) (u : Value), (strV l)[j]? = some u → (w.alloc ob).cell? (ad.add j) = some u) (hs : l.length ≤ 4194304) :
    Calls Tryd.prog 41 #[.slice (some ad) l.length cap] w fun e w' => ∃ v', e = .returned v' ∧ OwnS w' w.heap.size v' l ∧ Below w.heap.size w w' := by
  obtain ⟨i0, hi, hz0, hz1, hz2⟩ := info_parts info9
  have heq : ∀ W : World, (binOp .eql 22 (.slice (some ad) l.length cap) (.slice none 0 0)).run Tryd.prog W = .ok (.bool false) W := fun W => by
    have := Lib.run_eql_slice_nil (P := Tryd.prog) W 22 9 (some ad) l.length cap 0 0 Tryd.underlying22
    simpa using this
  have HN := hide hnews
  clear hnews
  go_enter Tryd.func41, Tryd.ntmps41
  go_wp2_with (at_builtin; refine wpList_append_own _ rfl _ _ _ rfl w.heap.size 9 i0 _ 1 16 Tryd.underlying22 hi hz0 hz1 hz2 rfl (by omega) (.slice (some ⟨w.heap.size, 0, none⟩) 0 0) 0 [] rfl (World.ownsRow_made w #[] 0 (Nat.le_refl _) (Nat.zero_le _) rfl) ad l.length cap (strV l) rfl (by rw [strV_length, Nat.mul_one]) (HN.out _) (strV_one l) (by unfold maxLen; omega) (by omega) (by simp) ?_)
  intro v' w1 ho hgr hnil
  have hb : Below w.heap.size w w1 := ((Below.refl _ _).alloc (Nat.le_refl _) _).grown hgr (by simp) (by intro k hk; simp [Value.ownBlock] at hk; omega)
  have HO := hide ho
  clear hgr hnil heq ho
  go_wp2
  go_ret
  exact ⟨v', rfl, HO.out, hb⟩

set_option maxRecDepth 100000 in
set_option maxHeartbeats 1000000 in
theorem clone_any (v : Value) (l : List ByteArray) (w : World) (h : StrS w v l) (hs : l.length ≤ 4194304) :
    Calls Tryd.prog 41 #[v] w fun e w' => ∃ v', e = .returned v' ∧ OwnS w' w.heap.size v' l ∧ Below w.heap.size w w' := by
  obtain ⟨ao, cap, rfl, hr⟩ := h
  cases ao with
  | none =>
    have hl : l = [] := by
      cases l with
      | nil => rfl
      | cons x r => obtain ⟨_, _, h, _⟩ := hr 0 (by simp); cases h
    subst hl
    have heq : ∀ W : World, (binOp .eql 22 (.slice none 0 cap) (.slice none 0 0)).run Tryd.prog W = .ok (.bool true) W := fun W => by
      have := Lib.run_eql_slice_nil (P := Tryd.prog) W 22 9 none 0 cap 0 0 Tryd.underlying22
      simpa using this
    clear hr
    go_enter Tryd.func41, Tryd.ntmps41
    go_wp2
    go_ret
    exact ⟨_, rfl, World.ownsRow_nil _ _ _ _, Below.refl _ _⟩
  | some ad =>
    refine clone_some ad cap l w (fun ob j u hu => ?_) hs
    have hj : j < l.length := by
      have := (List.getElem?_eq_some_iff.1 hu).1
      rwa [strV_length] at this
    obtain ⟨g, o, he, _⟩ := hr j hj
    simp at he
    subst he
    exact news_of hr ob j u hu

end Go.Proofs.YtnfdifkcchciaaaDoor
