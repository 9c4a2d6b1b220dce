import Derived.Test.YtnfdifkcchciaaaDoorTc
import Derived.Deep.RegionLaw
namespace Go.Proofs.YtnfdifkcchciaaaDoor
open Go.RowKit Go.Maps

/-- append inside a region that draws: where the new slice lies. -/
theorem step_app {ops : Array Oper} {o : Oper} {a : Act} (w : World) {K : Act → World → Prop} {Q : Exit → Act → World → Prop} {E : Prop} (hgd : o.guard = none) (s x : Operand)
    (ho : o.op = .call { callee := .builtin .append, args := #[s, x], argTypes := #[22, 22] }) (v : Value) (l : List ByteArray) (t : ByteArray) (hs : a.eval s = v) (hown : OwnS w 0 v l)
    (ad : Addr) (hx : a.eval x = .slice (some ad) 1 1) (hnews : ∀ j u, [Value.string t][j]? = some u → w.cell? (ad.add j) = some u) (hl : l.length ≤ 2097152)
    (h : ∀ gv cv w', OwnS w' 0 (.slice (some ⟨gv, 0, none⟩) (l.length + 1) cv) (l ++ [t]) → w.grownBy w' v.ownBlock → (some gv = v.ownBlock ∨ gv = w.heap.size) → K (a.put o.dst (.slice (some ⟨gv, 0, none⟩) (l.length + 1) cv)) w') :
    if Region.wanted o (yielded ops a.tmps) = true then Oper.wp Tryd.prog o a w K Q else E := by
  obtain ⟨i9, hi9, hz90, hz91, hz92⟩ := info_parts info9
  rw [if_pos (by simp [Region.wanted, hgd])]
  obtain ⟨v', w', hr, h2, h3, _, h4⟩ := run_append_own_at (P := Tryd.prog) w 0 22 o.type 9 i9 _ 1 16 Tryd.underlying22 hi9 hz90 hz91 hz92 rfl (by omega) v l.length (strV l) hown ad 1 1 [.string t] rfl hnews (strV_one [t]) (by unfold maxLen; omega) (by omega) (Nat.zero_le _)
  obtain ⟨gv, cv, rfl, _, _⟩ := h2.form (by omega)
  have ho2 : OwnS w' 0 (.slice (some ⟨gv, 0, none⟩) (l.length + 1) cv) (l ++ [t]) := by
    show w'.ownsRow 0 9 1 _ (l ++ [t]).length (strV (l ++ [t]))
    rw [List.length_append, List.length_singleton]
    simpa [strV] using h2
  unfold Oper.wp execOp
  simp only [ho, resolve, invoke, builtin, Sem.run_bind, Sem.run_pure, Result.andThen_ok, List.map_toArray, List.map_cons, List.map_nil, hs, hx, hr]
  exact h gv cv w' ho2 h3 (by simpa [Value.ownBlock] using h4)

theorem fac3 {w w3 : World} {u : Nat} {ob : Obj} {r : Option Nat} {most : Int} {vu : Value} (hb : w.heap[u]? = some (.cells #[.int .i64 most, vu] 60 (0, 0))) (hg : (w.drew.alloc ob).grownBy w3 r) (hr : r ≠ some u) :
    w3.cell? ⟨u, 1, none⟩ = some vu ∧ w3.frozen? ⟨u, 1, none⟩ = false := by
  have hu : u < w.heap.size := (Array.getElem?_eq_some_iff.1 hb).1
  have hb2 : (w.drew.alloc ob).heap[u]? = some (.cells #[.int .i64 most, vu] 60 (0, 0)) := (Below.heap_alloc w.drew ob u hu).trans hb
  have b3 : w3.heap[u]? = some (.cells #[.int .i64 most, vu] 60 (0, 0)) := (hg.block u (by simp; omega) (fun e => hr e.symm)).trans hb2
  exact ⟨by simp [World.cell?, b3], by simp [World.frozen?, b3]⟩

/-- What ref's Clone holds in its loop. -/
structure Rc (w : World) (t u : Nat) (most : Int) (v vu : Value) (l : List ByteArray) (k : Nat) (wr : World) : Prop where
  src : RTb wr t most v l
  dst : RTb wr u most vu (l.take k)
  lb : ∀ j, RB u vu j → w.heap.size ≤ j
  D : Below w.heap.size w wr

theorem Rc.next {w wr w3 : World} {t u : Nat} {most : Int} {v vu vu' : Value} {l : List ByteArray} {k : Nat} {ty : TypeId} (h : Rc w t u most v vu l k wr) (hk : k < l.length) (hlt : ∀ j, RB t v j → j < w.heap.size)
    (ho : OwnS w3 0 vu' (l.take k ++ [l[k]])) (hg : (wr.alloc (.cells #[.string l[k]] ty)).grownBy w3 vu.ownBlock) (hloc : vu'.ownBlock = vu.ownBlock ∨ vu'.ownBlock = some (wr.heap.size + 1)) :
    Rc w t u most v vu' l (k + 1) (w3.setCell ⟨u, 1, none⟩ vu') := by
  have g2 : wr.grownBy w3 vu.ownBlock := (World.grownBy_alloc _ _ _).trans hg
  have hu := h.dst.lt u (.inl rfl)
  have n1' : vu'.ownBlock ≠ some u := by
    rcases hloc with e | e
    · rw [e]; exact h.dst.n1
    · rw [e]; simp; omega
  have o2 : Only wr (w3.setCell ⟨u, 1, none⟩ vu') (RB u vu) := (Only.grown g2 (fun k hk => .inr hk)).set (.inl rfl) 1 _
  have b3 : w3.heap[u]? = some (.cells #[.int .i64 most, vu] 60 (0, 0)) := (g2.block u hu (fun e => h.dst.n1 e.symm)).trans h.dst.blk
  have hll := h.src.sml
  refine ⟨h.src.only o2 (fun j hj hr => by have := hlt j hj; have := h.lb j hr; omega), ⟨?_, ?_, n1', by simp; omega⟩, ?_, h.D.trans (o2.toBelow h.D.size h.lb)⟩
  · rw [heap_setCell_same w3 u 1 _ 60 _ b3]; simp
  · rw [List.take_succ_eq_append_getElem hk]
    exact row_only (R := fun k => k = u) ho ⟨rfl, rfl, rfl, by simp [World.setCell], fun k _ hn => Below.heap_setCell _ _ _ _ hn⟩ (fun k hk e => n1' (by rw [hk, e]))
  · rintro j (e | e)
    · exact h.lb j (.inl e)
    · rcases hloc with e2 | e2
      · exact h.lb j (.inr (by rw [← e2]; exact e))
      · rw [e2] at e
        have := h.D.size
        simp at e; omega

theorem rb_start (w : World) : ∀ j, RB w.heap.size (.slice none 0 0) j → w.heap.size ≤ j := by
  rintro j (e | e)
  · omega
  · simp [Value.ownBlock] at e

set_option maxRecDepth 100000 in
set_option maxHeartbeats 4000000 in
theorem rclone (t : Nat) (most : Int) (v : Value) (l : List ByteArray) (w : World) (h : Hid (RTb w t most v l)) :
    Calls Tryd.prog 23 #[.pointer (some ⟨t, 0, none⟩)] w fun e w' => ∃ t' v', e = .returned (.pointer (some ⟨t', 0, none⟩)) ∧ RTb w' t' most v' l ∧ (∀ k, RB t' v' k → w.heap.size ≤ k) ∧ Below w.heap.size w w' := by
  have c0 := h.out.c0
  have hll := h.out.sml
  have HLT := hide h.out.lt
  go_enter Tryd.func23, Tryd.ntmps23
  go_wp2
  have R0 : Rc w t w.heap.size most v (.slice none 0 0) l 0 (w.alloc (.cells #[.int .i64 most, .slice none 0 0] 60)) :=
    ⟨h.out.below (below_new _ _), ⟨heap_alloc_new w _, World.ownsRow_nil _ _ _ _, by simp [Value.ownBlock], by simp⟩, rb_start w, below_new _ _⟩
  have HR := hide R0
  clear R0 c0
  go_loopw [4] (fun i wr => ∃ (k : Nat) (vu : Value), k ≤ l.length ∧ i = .int .i64 k ∧ Hid (Rc w t w.heap.size most v vu l k wr)) (fun i _ => l.length - (intOf i).toNat)
  case atStart => exact ⟨0, _, Nat.zero_le _, rfl, HR⟩
  case round =>
    obtain ⟨k, vu, hk, rfl, R⟩ := hrel
    clear HR
    obtain ⟨ao, cp, hv, hr⟩ := R.out.src.own.str
    have c1 := R.out.src.c1
    rw [hv] at c1
    by_cases hlt : k < l.length
    · obtain ⟨g, o, rfl, q⟩ := hr k hlt
      obtain ⟨au, cu, hvu, _⟩ := R.out.dst.own.str
      have d1 := R.out.dst.c1
      rw [hvu] at d1
      have htk : (l.take k).length = k := by simp; omega
      rw [htk] at hvu d1
      have HVU := hide hvu
      obtain ⟨s, hs⟩ : ∃ s, s = l[k] := ⟨_, rfl⟩
      rw [← hs] at q
      have HS := hide hs
      have i0 : (0 : Int) ≤ (k : Int) := by omega
      have i2 : (k : Int) < (l.length : Int) := by omega
      have hfz : wr.frozen? ⟨w.heap.size, 1, none⟩ = false := by simp [World.frozen?, R.out.dst.blk]
      clear hr hv hvu hs htk
      have hov : OwnS (wr.drew.alloc (.cells #[.string s] 9)) 0 (.slice au k cu) (l.take k) := by have := R.out.dst.own; rw [HVU.out] at this; exact World.ownsRow.alloc this _
      have HOV := hide hov
      have hb3 := R.out.dst.blk
      have hn1 := R.out.dst.n1
      rw [HVU.out] at hn1 hb3
      have HN1 := hide hn1
      have hult := R.out.dst.lt w.heap.size (.inl rfl)
      have d2 : (wr.alloc (.cells #[.string s] 9)).cell? ⟨w.heap.size, 1, none⟩ = some (.slice au k cu) := (World.cell?_of_block (w := wr) (Below.heap_alloc wr _ w.heap.size hult)).trans d1
      clear hov hn1
      go_wp2_with fail
      go_region_law (refine step_app _ rfl (.tmp 24) (.tmp 32) rfl (.slice au k cu) (l.take k) s rfl HOV.out ⟨wr.heap.size, 0, none⟩ rfl (cell_one_new _ _ _) (by simp; omega) ?_; intro gv cv w3 ho hgr hloc; have hu3 := (fac3 hb3 hgr HN1.out).1; have hf3 := (fac3 hb3 hgr HN1.out).2)
      all_goals (have HX := hide (And.intro ho (And.intro hgr hloc)); clear ho hgr hloc; go_wp2; go_roundw)
      all_goals (try (simp [intOf]; omega))
      all_goals (
        refine ⟨k + 1, .slice (some ⟨gv, 0, none⟩) (k + 1) cv, by omega, by go_num, hide ?_⟩
        have hs := HS.out
        subst hs
        have htk : (l.take k).length = k := by simp; omega
        have h1 := HX.out.1
        rw [htk] at h1
        exact R.out.next hlt HLT.out h1 ⟨HX.out.2.1.os, HX.out.2.1.tape, HX.out.2.1.output, HX.out.2.1.size, by rw [HVU.out]; exact HX.out.2.1.block⟩ (by rw [HVU.out]; exact HX.out.2.2.imp id (fun e => by rw [e]; simp [Value.ownBlock])))
    · have i2 : ¬ (k : Int) < (l.length : Int) := by omega
      have hke : k = l.length := by omega
      have R2 := R.out
      rw [hke] at R2
      have HR2 := hide R2
      clear R2 hke hr hv
      go_wp2
      go_ret
      have R3 := HR2.out
      refine ⟨_, rfl, _, ?_, R3.lb, R3.D⟩
      have := R3.dst
      rwa [List.take_length] at this

end Go.Proofs.YtnfdifkcchciaaaDoor
