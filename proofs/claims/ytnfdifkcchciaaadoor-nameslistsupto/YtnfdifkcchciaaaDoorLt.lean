import Derived.Test.YtnfdifkcchciaaaDoorRx
namespace Go.Proofs.YtnfdifkcchciaaaDoor
open Go.RowKit Go.Maps

/-- The mark behind a lent list. -/
def spare : ByteArray := ⟨#[115, 112, 97, 114, 101]⟩

set_option maxRecDepth 100000 in
set_option maxHeartbeats 1000000 in
/-- lent: of a list that is not nil. -/
theorem lent_some (ad : Addr) (cap : Nat) (l : List ByteArray) (w : World) (hr : ReadsS w (some ad) l) (hs : l.length ≤ 2097152) :
    Calls Tryd.prog 26 #[.slice (some ad) l.length cap] w fun e w' => ∃ g c, e = .returned (.slice (some ⟨g, 0, none⟩) l.length c) ∧ l.length + 1 ≤ c ∧ w'.ownsRow w.heap.size 9 1 (.slice (some ⟨g, 0, none⟩) (l.length + 1) c) (l.length + 1) (strV (l ++ [spare])) ∧ Below w.heap.size w w' := by
  obtain ⟨i9, hi9, hz90, hz91, hz92⟩ := info_parts info9
  have d1 := below_new w (.cells #[] 9)
  have hown : (w.alloc (.cells #[] 9)).ownsRow w.heap.size 9 1 (.slice (some ⟨w.heap.size, 0, none⟩) 0 0) 0 (strV []) :=
    ⟨rfl, .inr ⟨w.heap.size, 0, #[], rfl, Nat.le_refl _, heap_alloc_new w _, Nat.le_refl _, Nat.zero_le _, rfl, rfl⟩⟩
  have hnews : ∀ j u, (strV l)[j]? = some u → (w.alloc (.cells #[] 9)).cell? (ad.add j) = some u := by
    intro j u hu
    have hj : j < l.length := by
      have := (List.getElem?_eq_some_iff.1 hu).1
      simpa [strV] using this
    obtain ⟨g, o, e, q⟩ := hr j hj
    simp only [Option.some.injEq] at e
    subst e
    rw [Addr.add_lit]
    rw [show (strV l)[j]? = some (.string l[j]) by simp [strV, hj]] at hu
    rw [← hu]
    exact (d1.cell (World.block_lt_of_cell? w _ q)).trans q
  have HD := hide d1
  have HN := hide hnews
  have HO := hide hown
  clear d1 hnews hown hr
  go_enter Tryd.func26, Tryd.ntmps26
  go_wp2_with (at_builtin; refine wpList_append_own_at _ rfl _ _ _ rfl w.heap.size 9 i9 _ 1 16 Tryd.underlying22 hi9 hz90 hz91 hz92 rfl (by omega) (.slice (some ⟨w.heap.size, 0, none⟩) 0 0) 0 (strV []) rfl HO.out ad l.length cap (strV l) rfl (by simp [strV]) HN.out (strV_one l) (by unfold maxLen; omega) (by omega) (by simp) ?_)
  intro v1 w1 ho hgr hnil hloc
  have ho1 : w1.ownsRow w.heap.size 9 1 v1 l.length (strV l) := ho
  have D1 := hide (HD.out.grown hgr HD.out.size (fun k hk => by simp [Value.ownBlock] at hk; omega))
  clear ho hgr hnil hloc HO HN HD
  go_wp2_with (at_builtin; refine wpList_append_own_at _ rfl _ _ _ rfl w.heap.size 9 i9 _ 1 16 Tryd.underlying22 hi9 hz90 hz91 hz92 rfl (by omega) v1 l.length (strV l) rfl (ho1.alloc _) ⟨w1.heap.size, 0, none⟩ 1 1 [.string spare] rfl rfl (cell_one_new _ _ _) (strV_one [spare]) (by unfold maxLen; omega) (by omega) (by have := D1.out.size; simp; omega) ?_)
  intro v2 w2 ho hgr hnil hloc
  have hb := ho1.lt
  have D2 := hide (D1.out.grown ((World.grownBy_alloc _ _ _).trans hgr) D1.out.size (fun k hk => (hb k hk).1))
  have ho2 : w2.ownsRow w.heap.size 9 1 v2 (l.length + 1) (strV (l ++ [spare])) := by simpa [strV] using ho
  obtain ⟨g, c, rfl, hc⟩ : ∃ g c, v2 = .slice (some ⟨g, 0, none⟩) (l.length + 1) c ∧ l.length + 1 ≤ c := by
    rcases ho2.2 with ⟨_, e⟩ | ⟨g, cap, cur, e, _, _, h3, _⟩
    · omega
    · exact ⟨g, cap, e, h3⟩
  have HO := hide ho2
  clear ho hgr hnil hloc hb ho1 ho2
  have k0 : (0 : Int) ≤ (l.length : Int) := by omega
  have k1 : (l.length : Int) ≤ (c : Int) := by omega
  go_wp2
  go_ret
  exact ⟨g, c, rfl, hc, HO.out, D2.out⟩

set_option maxRecDepth 100000 in
set_option maxHeartbeats 1000000 in
/-- lent: of nil. -/
theorem lent_none (cap : Nat) (w : World) :
    Calls Tryd.prog 26 #[.slice none 0 cap] w fun e w' => ∃ g c, e = .returned (.slice (some ⟨g, 0, none⟩) 0 c) ∧ 0 + 1 ≤ c ∧ w'.ownsRow w.heap.size 9 1 (.slice (some ⟨g, 0, none⟩) (0 + 1) c) (0 + 1) (strV ([] ++ [spare])) ∧ Below w.heap.size w w' := by
  obtain ⟨i9, hi9, hz90, hz91, hz92⟩ := info_parts info9
  have d1 := below_new w (.cells #[] 9)
  have hown : (w.alloc (.cells #[] 9)).ownsRow w.heap.size 9 1 (.slice (some ⟨w.heap.size, 0, none⟩) 0 0) 0 (strV []) :=
    ⟨rfl, .inr ⟨w.heap.size, 0, #[], rfl, Nat.le_refl _, heap_alloc_new w _, Nat.le_refl _, Nat.zero_le _, rfl, rfl⟩⟩
  have hp : ∀ W : World, Sem.run Tryd.prog (pure (#[] : Array Value)) W = .ok #[] W := fun _ => rfl
  have hsc : ∀ (ad : Addr) (W : World), Sem.run Tryd.prog (storeCells ad []) W = .ok () W := fun _ _ => rfl
  have hnw : ∀ j u, [Value.string spare][j]? = some u → ((w.alloc (.cells #[] 9)).alloc (.cells #[.string spare] 9)).cell? ((⟨w.heap.size + 1, 0, none⟩ : Addr).add j) = some u := by
    have := cell_one_new (w.alloc (.cells #[] 9)) (.string spare) 9
    rw [show (w.alloc (.cells #[] 9)).heap.size = w.heap.size + 1 by simp] at this
    exact this
  have HD := hide d1
  have HO := hide hown
  clear d1 hown
  go_enter Tryd.func26, Tryd.ntmps26
  go_wp2_with (at_builtin; refine wpList_append_own_at _ rfl _ _ _ rfl w.heap.size 9 i9 _ 1 16 Tryd.underlying22 hi9 hz90 hz91 hz92 rfl (by omega) (.slice (some ⟨w.heap.size, 0, none⟩) 0 0) 0 (strV []) rfl (HO.out.alloc _) ⟨w.heap.size + 1, 0, none⟩ 1 1 [.string spare] rfl rfl hnw (strV_one [spare]) (by unfold maxLen; omega) (by omega) (by simp; omega) ?_)
  intro v2 w2 ho hgr hnil hloc
  have hb := HO.out.lt
  have D2 := hide (HD.out.grown ((World.grownBy_alloc _ _ _).trans hgr) HD.out.size (fun k hk => (hb k hk).1))
  have ho2 : w2.ownsRow w.heap.size 9 1 v2 (0 + 1) (strV ([] ++ [spare])) := ho
  obtain ⟨g, c, rfl, hc⟩ : ∃ g c, v2 = .slice (some ⟨g, 0, none⟩) 1 c ∧ 0 + 1 ≤ c := by
    rcases ho2.2 with ⟨_, e⟩ | ⟨g, cap, cur, e, _, _, h3, _⟩
    · omega
    · exact ⟨g, cap, e, h3⟩
  have HO2 := hide ho2
  clear ho hgr hnil hloc hb ho2 hnw
  have k1 : (0 : Int) ≤ (c : Int) := by omega
  go_wp2
  go_ret
  exact ⟨g, c, rfl, hc, HO2.out, D2.out⟩

theorem lent_any (v : Value) (l : List ByteArray) (w : World) (h : StrS w v l) (hs : l.length ≤ 2097152) :
    Calls Tryd.prog 26 #[v] w fun e w' => ∃ g c, e = .returned (.slice (some ⟨g, 0, none⟩) l.length c) ∧ l.length + 1 ≤ c ∧ w'.ownsRow w.heap.size 9 1 (.slice (some ⟨g, 0, none⟩) (l.length + 1) c) (l.length + 1) (strV (l ++ [spare])) ∧ Below w.heap.size w w' := by
  obtain ⟨ao, cap, rfl, hr⟩ := h
  cases ao with
  | some ad => exact lent_some ad cap l w hr hs
  | none =>
    match l, hr with
    | [], _ => exact lent_none cap w
    | x :: r, hr =>
      obtain ⟨g, o, e, _⟩ := hr 0 (by simp)
      cases e

end Go.Proofs.YtnfdifkcchciaaaDoor
