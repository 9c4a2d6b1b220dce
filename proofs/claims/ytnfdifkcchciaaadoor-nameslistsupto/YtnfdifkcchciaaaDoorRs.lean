import Derived.Test.YtnfdifkcchciaaaDoorRo
import Derived.Test.YtnfdifkcchciaaaDoorSy
namespace Go.Proofs.YtnfdifkcchciaaaDoor
open Go.RowKit Go.Maps

/-- Three lists that are being made in new memory, apart from one another: texts, numbers, numbers. -/
structure Mq (w0 : World) (av pv qv : Value) (al : List ByteArray) (pl ql : List Int) (wr : World) : Prop where
  a : wr.ownsRow w0.heap.size 9 1 av al.length (strV al)
  p : wr.ownsRow w0.heap.size 3 1 pv pl.length (intW pl)
  q : wr.ownsRow w0.heap.size 3 1 qv ql.length (intW ql)
  s1 : ∀ b, av.ownBlock = some b → pv.ownBlock ≠ some b
  s2 : ∀ b, av.ownBlock = some b → qv.ownBlock ≠ some b
  s3 : ∀ b, pv.ownBlock = some b → qv.ownBlock ≠ some b
  D : Below w0.heap.size w0 wr

theorem Mq.start (w : World) : Mq w (.slice none 0 0) (.slice none 0 0) (.slice none 0 0) [] [] [] w :=
  ⟨World.ownsRow_nil _ _ _ _, World.ownsRow_nil _ _ _ _, World.ownsRow_nil _ _ _ _, fun b hb => by simp [Value.ownBlock] at hb, fun b hb => by simp [Value.ownBlock] at hb, fun b hb => by simp [Value.ownBlock] at hb, Below.refl _ _⟩

theorem loc_ne {v v' u : Value} {n : Nat} (hloc : v'.ownBlock = v.ownBlock ∨ v'.ownBlock = some (n + 1)) (hs : ∀ b, v.ownBlock = some b → u.ownBlock ≠ some b) (hu : ∀ b, u.ownBlock = some b → b < n) : ∀ b, v'.ownBlock = some b → u.ownBlock ≠ some b := by
  intro b hb e
  rcases hloc with h | h
  · exact hs b (by rw [← h]; exact hb) e
  · rw [h] at hb
    have := hu b e
    simp at hb
    omega

theorem Mq.nextA {w0 : World} {av pv qv av' : Value} {al : List ByteArray} {pl ql : List Int} {wr w9 : World} {ty : TypeId} {s : ByteArray} (h : Mq w0 av pv qv al pl ql wr) (ho : w9.ownsRow w0.heap.size 9 1 av' (al.length + 1) (strV al ++ [.string s])) (hg : (wr.alloc (.cells #[.string s] ty)).grownBy w9 av.ownBlock) (hloc : av'.ownBlock = av.ownBlock ∨ av'.ownBlock = some (wr.heap.size + 1)) :
    Mq w0 av' pv qv (al ++ [s]) pl ql w9 := by
  have hg2 : wr.grownBy w9 av.ownBlock := (World.grownBy_alloc _ _ _).trans hg
  have O : Only wr w9 (fun k => av.ownBlock = some k) := Only.grown hg2 (fun k hk => hk)
  refine ⟨?_, row_only h.p O (fun k hk e => h.s1 k e hk), row_only h.q O (fun k hk e => h.s2 k e hk), loc_ne hloc h.s1 (fun b hb => (h.p.lt b hb).2), loc_ne hloc h.s2 (fun b hb => (h.q.lt b hb).2), h.s3, h.D.grown hg2 h.D.size (fun k hk => (h.a.lt k hk).1)⟩
  rw [List.length_append, List.length_singleton]
  simpa [strV] using ho
theorem Mq.nextP {w0 : World} {av pv qv pv' : Value} {al : List ByteArray} {pl ql : List Int} {wr w9 : World} {ty : TypeId} {x : Int} (h : Mq w0 av pv qv al pl ql wr) (ho : w9.ownsRow w0.heap.size 3 1 pv' (pl.length + 1) (intW pl ++ [.int .i64 x])) (hg : (wr.alloc (.cells #[.int .i64 x] ty)).grownBy w9 pv.ownBlock) (hloc : pv'.ownBlock = pv.ownBlock ∨ pv'.ownBlock = some (wr.heap.size + 1)) :
    Mq w0 av pv' qv al (pl ++ [x]) ql w9 := by
  have hg2 : wr.grownBy w9 pv.ownBlock := (World.grownBy_alloc _ _ _).trans hg
  have O : Only wr w9 (fun k => pv.ownBlock = some k) := Only.grown hg2 (fun k hk => hk)
  refine ⟨row_only h.a O (fun k hk e => h.s1 k hk e), ?_, row_only h.q O (fun k hk e => h.s3 k e hk), fun b hb e => loc_ne hloc (fun b hb e => h.s1 b e hb) (fun b hb => (h.a.lt b hb).2) b e hb, h.s2, loc_ne hloc h.s3 (fun b hb => (h.q.lt b hb).2), h.D.grown hg2 h.D.size (fun k hk => (h.p.lt k hk).1)⟩
  rw [List.length_append, List.length_singleton]
  simpa [intW] using ho
theorem Mq.nextQ {w0 : World} {av pv qv qv' : Value} {al : List ByteArray} {pl ql : List Int} {wr w9 : World} {ty : TypeId} {x : Int} (h : Mq w0 av pv qv al pl ql wr) (ho : w9.ownsRow w0.heap.size 3 1 qv' (ql.length + 1) (intW ql ++ [.int .i64 x])) (hg : (wr.alloc (.cells #[.int .i64 x] ty)).grownBy w9 qv.ownBlock) (hloc : qv'.ownBlock = qv.ownBlock ∨ qv'.ownBlock = some (wr.heap.size + 1)) :
    Mq w0 av pv qv' al pl (ql ++ [x]) w9 := by
  have hg2 : wr.grownBy w9 qv.ownBlock := (World.grownBy_alloc _ _ _).trans hg
  have O : Only wr w9 (fun k => qv.ownBlock = some k) := Only.grown hg2 (fun k hk => hk)
  refine ⟨row_only h.a O (fun k hk e => h.s2 k hk e), row_only h.p O (fun k hk e => h.s3 k hk e), ?_, h.s1, fun b hb e => loc_ne hloc (fun b hb e => h.s2 b e hb) (fun b hb => (h.a.lt b hb).2) b e hb, fun b hb e => loc_ne hloc (fun b hb e => h.s3 b e hb) (fun b hb => (h.p.lt b hb).2) b e hb, h.D.grown hg2 h.D.size (fun k hk => (h.q.lt k hk).1)⟩
  rw [List.length_append, List.length_singleton]
  simpa [intW] using ho

end Go.Proofs.YtnfdifkcchciaaaDoor
