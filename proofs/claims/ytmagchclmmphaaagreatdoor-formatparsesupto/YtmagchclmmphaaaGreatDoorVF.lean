import Derived.Test.YtmagchclmmphaaaGreatDoorVC
import Derived.Test.YtmagchclmmphaaaGreatDoorQA
namespace Go.Proofs.YtmagchclmmphaaaGreatDoor
open Go.RowKit Go.Maps
attribute [local go_sem] Oper.semAt_some

/-- The symbols' names. -/
def symF (O : List OpI) : List ByteArray := (O.filter (fun x => x.2 == 1)).map (·.1)
theorem symF_len (O : List OpI) : (symF O).length = cntF O := by
  unfold symF cntF
  rw [List.length_map, List.countP_eq_length_filter]
theorem symF_next {O : List OpI} {k : Nat} (hk : k < O.length) : symF (O.take (k + 1)) = symF (O.take k) ++ (if O[k].2 = 1 then [O[k].1] else []) := by
  unfold symF
  rw [List.take_succ_eq_append_getElem hk, List.filter_append, List.map_append]
  congr 1
  by_cases h : O[k].2 = 1
  · simp [h]
  · simp [h]

theorem cnew (w : World) (o : Obj) (s : ByteArray) : ∀ j u, [Value.string s][j]? = some u → ((w.alloc o).alloc (.cells #[.string s] 9)).cell? ((⟨w.heap.size + 1, 0, none⟩ : Addr).add j) = some u := by
  intro j u hj
  cases j with
  | zero =>
    obtain rfl : Value.string s = u := by simpa using hj
    exact cell_of (by have := World.alloc_heap_new (w.alloc o) (.cells #[.string s] 9); simpa using this) rfl
  | succ j => simp at hj
set_option maxRecDepth 100000 in
set_option maxHeartbeats 2000000 in
theorem symbols_any (w : World) (ao : Option Addr) (cap : Nat) (O : List OpI) (hA : Hid (RdO w ao O)) (hl : O.length ≤ 4194304) :
    Calls Tryz.prog 57 #[.slice ao O.length cap] w fun e w' => ∃ v, e = .returned v ∧ w'.ownsRow w.heap.size 9 1 v (symF O).length (strV (symF O)) ∧ Below w.heap.size w w' := by
  obtain ⟨i9, hi9, hz90, hz91, hz92⟩ := info_parts info9
  go_enter Tryz.func57, Tryz.ntmps57
  go_wp2_with fail
  go_loopw [3, 8] (fun v i wr => ∃ k : Nat, k ≤ O.length ∧ i = .int .i64 k ∧ Hid (wr.ownsRow w.heap.size 9 1 v (symF (O.take k)).length (strV (symF (O.take k))) ∧ Below w.heap.size w wr)) (fun _ i _ => O.length - (intOf i).toNat)
  case atStart => exact ⟨0, Nat.zero_le _, rfl, hide ⟨⟨rfl, .inl ⟨rfl, rfl⟩⟩, Below.refl _ _⟩⟩
  case round =>
    obtain ⟨k, hk, rfl, HH⟩ := hrel
    by_cases hlt : k < O.length
    · obtain ⟨g1, o1, rfl, q0, q1⟩ := (hA.out.on HH.out.2) k hlt
      have i2 : (k : Int) < (O.length : Int) := by omega
      have i3 : (0 : Int) ≤ (k : Int) := by omega
      have hn := symF_next hlt
      obtain ⟨s, hs⟩ : ∃ s, O[k].1 = s := ⟨_, rfl⟩
      obtain ⟨x, hx⟩ : ∃ x, O[k].2 = x := ⟨_, rfl⟩
      rw [hs] at q0 hn
      rw [hx] at q1 hn
      have HN := hide hn
      have hb : (symF (O.take k)).length ≤ 4194304 := by
        rw [symF_len]; unfold cntF
        have := List.countP_le_length (p := fun x : OpI => x.2 == 1) (l := O.take k)
        rw [List.length_take] at this
        omega
      obtain ⟨L, hL⟩ : ∃ L, symF (O.take k) = L := ⟨_, rfl⟩
      rw [hL] at HH HN hb
      clear hn hs hx hL
      have hsz := HH.out.2.size
      by_cases h1 : x = 1
      · subst h1
        go_wp2_with (at_builtin; refine wpList_append_own_at _ rfl _ _ _ rfl w.heap.size 9 i9 _ 1 16 Tryz.underlying23 hi9 hz90 hz91 hz92 rfl (by omega) u3 L.length (strV L) rfl (owns_below HH.out.1 (((Below.refl _ wr).alloc (Nat.le_refl _) _).alloc (by simp) _)) ⟨wr.heap.size + 1, 0, none⟩ 1 1 [.string s] rfl rfl (cnew wr _ s) (rf.strV_one [s]) (by unfold maxLen; omega) (by omega) (by simp; omega) ?_; intro v' w2 ho hgr hnil hloc)
        have hb0 := HH.out.1.lt
        refine ⟨⟨k + 1, by omega, by go_num, hide ?_⟩, by simp [intOf]; omega⟩
        rw [HN.out, if_pos rfl]
        refine ⟨by simpa [strV] using ho, ?_⟩
        exact (((HH.out.2.alloc hsz _).alloc (by simp; omega) _).grown hgr (by simp; omega) (fun k hk => (hb0 k hk).1))
      · have e1 : (x == 1) = false := by rw [beq_eq_false_iff_ne]; exact h1
        go_wp2
        refine ⟨⟨k + 1, by omega, by go_num, hide ?_⟩, by simp [intOf]; omega⟩
        rw [HN.out, if_neg h1, List.append_nil]
        exact ⟨owns_below HH.out.1 ((Below.refl _ wr).alloc (Nat.le_refl _) _), HH.out.2.alloc hsz _⟩
    · obtain rfl : k = O.length := by omega
      have i2 : ¬ (O.length : Int) < (O.length : Int) := by omega
      rw [List.take_length] at HH
      go_wp2
      go_ret
      exact ⟨_, rfl, HH.out.1, HH.out.2⟩
end Go.Proofs.YtmagchclmmphaaaGreatDoor
namespace Go.Proofs.YtmagchclmmphaaaGreatDoor
open Go.RowKit Go.Maps
attribute [local go_sem] Oper.semAt_some

set_option maxRecDepth 100000 in
set_option maxHeartbeats 2000000 in
theorem count_any (w : World) (ti : ByteArray) (ao asx af ar : Option Addr) (co ns cs nf cf nr cr : Nat) (O : List OpI) (hA : Hid (RdO w ao O)) (hl : O.length ≤ 4194304) :
    Calls Tryz.prog 26 #[.agg #[.string ti, .slice ao O.length co, .slice asx ns cs, .slice af nf cf, .slice ar nr cr]] w fun e w' => e = .returned (.tuple #[.int .i64 ns, .int .i64 (cntF O : Nat), .int .i64 nr]) ∧ Below w.heap.size w w' := by
  obtain ⟨W0, hW0⟩ : ∃ W0, w.alloc (.cells #[.string ti, .slice ao O.length co, .slice asx ns cs, .slice af nf cf, .slice ar nr cr] 26) = W0 := ⟨_, rfl⟩
  have d0 : Below w.heap.size w W0 := by rw [← hW0]; exact (Below.refl _ _).alloc (Nat.le_refl _) _
  have b0 : W0.heap[w.heap.size]? = some (.cells #[.string ti, .slice ao O.length co, .slice asx ns cs, .slice af nf cf, .slice ar nr cr] 26 (0, 0)) := by rw [← hW0]; exact World.alloc_heap_new _ _
  have HO := hide (hA.out.on d0)
  have HBX : Hid (Bx5 W0 w.heap.size (.string ti) (.slice ao O.length co) (.slice asx ns cs) (.slice af nf cf) (.slice ar nr cr)) := hide ⟨cell_of b0 rfl, cell_of b0 rfl, cell_of b0 rfl, cell_of b0 rfl, cell_of b0 rfl⟩
  obtain ⟨c0, c1, c2, c3, c4⟩ := HBX.out
  have HD := hide d0
  clear hA d0 b0 c0 c3
  go_enter Tryz.func26, Tryz.ntmps26
  go_wp2_with fail
  go_region_held3 (fun W => W.cell? ⟨w.heap.size, 1, none⟩ = some (.slice ao O.length co) ∧ W.cell? ⟨w.heap.size, 2, none⟩ = some (.slice asx ns cs) ∧ W.cell? ⟨w.heap.size, 4, none⟩ = some (.slice ar nr cr))
    (first | go_keep | assumption)
    ((go_at_call 57; refine (symbols_any _ ao co O (hide (by exact HO.out.on (Below.refl _ W0).drew)) hl).mono ?_; rintro e wa ⟨v, rfl, ho, da⟩; have da2 : Below W0.heap.size W0 wa := ⟨da.os, da.tape, da.output, da.size, da.block⟩; obtain ⟨av, cv, rfl, _⟩ := row_len ho; have S2 : wa.cell? ⟨w.heap.size, 1, none⟩ = some (.slice ao O.length co) ∧ wa.cell? ⟨w.heap.size, 2, none⟩ = some (.slice asx ns cs) ∧ wa.cell? ⟨w.heap.size, 4, none⟩ = some (.slice ar nr cr) := ⟨(HBX.out.on da2).2.1, (HBX.out.on da2).2.2.1, (HBX.out.on da2).2.2.2.2⟩; have HA := hide da2; clear ho da da2))
  go_wp2_with fail
  go_ret3
  exact ⟨by rw [← symF_len]; rfl, HD.out.trans (HA.out.mono HD.out.size)⟩
end Go.Proofs.YtmagchclmmphaaaGreatDoor
