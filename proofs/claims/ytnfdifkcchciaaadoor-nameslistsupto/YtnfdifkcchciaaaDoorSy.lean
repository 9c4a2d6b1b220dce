import Derived.Test.YtnfdifkcchciaaaDoorAdd
import Derived.Test.YtnfdifkcchciaaaDoorNmS
namespace Go.Proofs.YtnfdifkcchciaaaDoor
open Go.RowKit Go.Maps

def intW (l : List Int) : List Value := l.map fun i => .int .i64 i
theorem intW_length (l : List Int) : (intW l).length = l.length := by simp [intW]
theorem intW_one (l : List Int) : ∀ u ∈ intW l, u.oneCell' = true := by
  intro u hu
  obtain ⟨k, _, rfl⟩ := List.mem_map.1 hu
  rfl

/-- What the law holds in its first loop: the table, the numbers got so far. -/
structure Sy (w : World) (L : List ByteArray) (t bm : Nat) (most : Int) (v : Value) (l : List ByteArray) (gv : Value) (gl : List Int) (wr : World) : Prop where
  tb : Tbl wr t most v bm l
  got : wr.ownsRow w.heap.size 3 1 gv gl.length (intW gl)
  sep : ∀ j, gv.ownBlock = some j → ¬ TB t v bm j
  rel : ∀ j (h1 : j < gl.length) (h2 : j < L.length), gl[j] = -1 ∨ (L[j] ∈ l ∧ gl[j] = ((l.idxOf L[j] : Nat) : Int))
  D : Below w.heap.size w wr
  lb : ∀ j, TB t v bm j → w.heap.size ≤ j

theorem Sy.below {w : World} {L : List ByteArray} {t bm : Nat} {most : Int} {v : Value} {l : List ByteArray} {gv : Value} {gl : List Int} {wr wr' : World} (h : Sy w L t bm most v l gv gl wr) (d : Below wr.heap.size wr wr') : Sy w L t bm most v l gv gl wr' :=
  ⟨h.tb.below d, row_below h.got d, h.sep, h.rel, h.D.trans (d.mono h.D.size), h.lb⟩

theorem Sy.added {w : World} {L : List ByteArray} {t bm : Nat} {most : Int} {v v' : Value} {l : List ByteArray} {s : ByteArray} {gv : Value} {gl : List Int} {wr wr' : World} (h : Sy w L t bm most v l gv gl wr)
    (T : Tbl wr' t most v' bm (l ++ [s])) (O : Only wr wr' (TB t v bm)) (hloc : v'.ownBlock = v.ownBlock ∨ ∃ k, v'.ownBlock = some k ∧ wr.heap.size ≤ k) : Sy w L t bm most v' (l ++ [s]) gv gl wr' := by
  have hg := h.got.lt
  refine ⟨T, row_only h.got O h.sep, fun j hj => ?_, fun j h1 h2 => ?_, h.D.trans (O.toBelow h.D.size h.lb), ?_⟩
  · rintro (e | e | e)
    · exact h.sep j hj (.inl e)
    · rcases hloc with e2 | ⟨k, e2, hk⟩
      · exact h.sep j hj (.inr (.inl (by rw [← e2]; exact e)))
      · rw [e2] at e
        have := (hg j hj).2
        simp at e; omega
    · exact h.sep j hj (.inr (.inr e))
  · rcases h.rel j h1 h2 with e | ⟨e1, e2⟩
    · exact .inl e
    · exact .inr ⟨List.mem_append_left _ e1, by rw [e2, ix_app e1]⟩
  · rintro j (e | e | e)
    · exact h.lb j (.inl e)
    · rcases hloc with e2 | ⟨k, e2, hk⟩
      · exact h.lb j (.inr (.inl (by rw [← e2]; exact e)))
      · rw [e2] at e
        have := h.D.size
        simp at e; omega
    · exact h.lb j (.inr (.inr e))

theorem Sy.next {w : World} {L : List ByteArray} {t bm : Nat} {most : Int} {v : Value} {l : List ByteArray} {gv gv' : Value} {gl : List Int} {wr w9 : World} {ty : TypeId} {x : Int} (h : Sy w L t bm most v l gv gl wr)
    (ho : w9.ownsRow w.heap.size 3 1 gv' (gl.length + 1) (intW gl ++ [.int .i64 x])) (hg : (wr.alloc (.cells #[.int .i64 x] ty)).grownBy w9 gv.ownBlock) (hloc : gv'.ownBlock = gv.ownBlock ∨ gv'.ownBlock = some (wr.heap.size + 1))
    (hx : ∀ h2 : gl.length < L.length, x = -1 ∨ (L[gl.length] ∈ l ∧ x = ((l.idxOf L[gl.length] : Nat) : Int))) : Sy w L t bm most v l gv' (gl ++ [x]) w9 := by
  have hg2 : wr.grownBy w9 gv.ownBlock := (World.grownBy_alloc _ _ _).trans hg
  have hlt := h.tb.lt
  refine ⟨h.tb.only (Only.grown (R := fun k => gv.ownBlock = some k) hg2 (fun k hk => hk)) (fun k hk e => h.sep k e hk), ?_, fun j hj ht => ?_, fun j h1 h2 => ?_, h.D.grown hg2 h.D.size (fun k hk => (h.got.lt k hk).1), h.lb⟩
  · rw [List.length_append, List.length_singleton]
    simpa [intW] using ho
  · rcases hloc with e | e
    · exact h.sep j (by rw [← e]; exact hj) ht
    · have := hlt j ht
      rw [e] at hj
      simp at hj; omega
  · by_cases hj : j < gl.length
    · rw [List.getElem_append_left hj]; exact h.rel j hj h2
    · have hje : j = gl.length := by simp at h1; omega
      subst hje
      have := hx h2
      simpa using this

theorem sy_start {w w1 : World} {L : List ByteArray} {t bm : Nat} {most : Int} (T : Tbl w1 t most (.slice none 0 0) bm []) (h1 : w.heap.size ≤ t) (h2 : w.heap.size ≤ bm) (d : Below w.heap.size w w1) : Sy w L t bm most (.slice none 0 0) [] (.slice none 0 0) [] w1 :=
  ⟨T, World.ownsRow_nil _ _ _ _, fun j hj => by simp [Value.ownBlock] at hj, fun j h1 _ => by simp at h1, d, fun j hj => by
    rcases hj with e | e | e
    · omega
    · simp [Value.ownBlock] at e
    · omega⟩

/-- The argument's list and the table of bytes. -/
structure Ar (vL : Value) (L : List ByteArray) (w : World) : Prop where
  s : StrS w vL L
  T : BytesAt w
  P : 0 < w.heap.size
theorem Ar.below {vL : Value} {L : List ByteArray} {w w' : World} (h : Ar vL L w) (d : Below w.heap.size w w') : Ar vL L w' := ⟨h.s.below d, h.T.below d h.P, Nat.lt_of_lt_of_le h.P d.size⟩

end Go.Proofs.YtnfdifkcchciaaaDoor
