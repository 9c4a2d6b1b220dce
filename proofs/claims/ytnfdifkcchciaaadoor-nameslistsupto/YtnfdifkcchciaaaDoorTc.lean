import Derived.Test.YtnfdifkcchciaaaDoorCl
namespace Go.Proofs.YtnfdifkcchciaaaDoor
open Go.RowKit Go.Maps

theorem sc_str {w W : World} {t bm : Nat} {most : Int} {v : Value} {l : List ByteArray} {c0 c1 c2 : Value}
    (h : W.cell? ⟨t, 0, none⟩ = some c0 ∧ W.cell? ⟨t, 1, none⟩ = some c1 ∧ W.cell? ⟨t, 2, none⟩ = some c2 ∧ Hid (Tbl W t most v bm l ∧ Below w.heap.size w W)) : Tbl W t most v bm l ∧ Below w.heap.size w W := h.2.2.2.out
theorem sc_keep {w W W' : World} {t bm : Nat} {most : Int} {v : Value} {l : List ByteArray} (d : Below W.heap.size W W') (h : Tbl W t most v bm l ∧ Below w.heap.size w W) :
    W'.cell? ⟨t, 0, none⟩ = some (.int .i64 most) ∧ W'.cell? ⟨t, 1, none⟩ = some v ∧ W'.cell? ⟨t, 2, none⟩ = some (.map (some bm)) ∧ Hid (Tbl W' t most v bm l ∧ Below w.heap.size w W') := by
  have T := h.1.below d
  exact ⟨T.c0, T.c1, T.c2, hide ⟨T, h.2.trans (d.mono h.2.size)⟩⟩
theorem below_drew (w : World) : Below w.heap.size w w.drew := ⟨rfl, rfl, rfl, Nat.le_refl _, fun _ _ => rfl⟩
theorem below_new (w : World) (o : Obj) : Below w.heap.size w (w.alloc o) := (Below.refl _ _).alloc (Nat.le_refl _) o

theorem clone_tbl {w w1 w2 : World} {t bm : Nat} {most : Int} {v : Value} {l : List ByteArray} {ao : Option Addr} {cp : Nat} (h : Tbl w t most v bm l) (o : OwnS w1 w.heap.size (.slice ao l.length cp) l) (d1 : Below w.heap.size w.drew w1)
    (p : Pls w2 w1.heap.size l.length l) (d2 : Below w1.heap.size w1 w2) :
    Tbl (w2.alloc (.cells #[.int .i64 most, .slice ao l.length cp, .map (some w1.heap.size)] 73)) w2.heap.size most (.slice ao l.length cp) w1.heap.size l ∧
    (∀ k, TB w2.heap.size (.slice ao l.length cp) w1.heap.size k → w.heap.size ≤ k) ∧ Below w.heap.size w (w2.alloc (.cells #[.int .i64 most, .slice ao l.length cp, .map (some w1.heap.size)] 73)) := by
  have D1 : Below w.heap.size w w1 := (below_drew w).trans d1
  have D2 : Below w.heap.size w w2 := D1.trans (d2.mono D1.size)
  have D3 := D2.alloc D2.size (.cells #[.int .i64 most, .slice ao l.length cp, .map (some w1.heap.size)] 73)
  have hp : w1.heap.size < w2.heap.size := by obtain ⟨D, oo, _⟩ := p; exact oo.lt
  have ho := World.ownsRow.lt o
  have e1 : ∀ k, (Value.slice ao l.length cp).ownBlock = some k → w.heap.size ≤ k ∧ k < w1.heap.size := ho
  refine ⟨⟨heap_alloc_new w2 _, ((o.mono (Nat.zero_le _)).below d2).below (below_new _ _), p.below (below_new _ _), fun e => by have := e1 _ e; omega, fun e => by have := e1 _ e; omega, by omega, h.nod, h.val, h.len, h.sml⟩, ?_, D3⟩
  have s1 := D1.size
  have s2 := D2.size
  rintro k (e | e | e)
  · omega
  · exact (e1 k e).1
  · omega

set_option maxRecDepth 100000 in
set_option maxHeartbeats 2000000 in
theorem tclone (t bm : Nat) (most : Int) (v : Value) (l : List ByteArray) (w : World) (h : Hid (Tbl w t most v bm l)) :
    Calls Tryd.prog 22 #[.pointer (some ⟨t, 0, none⟩)] w fun e w' => ∃ t' v' bm', e = .returned (.pointer (some ⟨t', 0, none⟩)) ∧ Tbl w' t' most v' bm' l ∧ (∀ k, TB t' v' bm' k → w.heap.size ≤ k) ∧ Below w.heap.size w w' := by
  have hT0 : Tbl w t most v bm l ∧ Below w.heap.size w w := ⟨h.out, Below.refl _ _⟩
  have HT0 := hide hT0
  have c0 := h.out.c0
  have c1 := h.out.c1
  have c2 := h.out.c2
  have hl := h.out.sml
  clear hT0
  go_enter Tryd.func22, Tryd.ntmps22
  go_wp2_with fail
  go_region_held3 (fun W => W.cell? ⟨t, 0, none⟩ = some (.int .i64 most) ∧ W.cell? ⟨t, 1, none⟩ = some v ∧ W.cell? ⟨t, 2, none⟩ = some (.map (some bm)) ∧ Hid (Tbl W t most v bm l ∧ Below w.heap.size w W))
    (first | exact sc_keep (below_drew _) HT0.out | exact sc_keep (by assumption) (sc_str (by assumption)) | exact sc_keep (below_new _ _) (sc_str (by assumption)))
    ((first
      | (go_at_call 41; refine (clone_any v l _ ?_ (by omega)).mono ?_; exact (sc_str (by assumption)).1.own.str; rintro e wA ⟨v', rfl, o, dA⟩; obtain ⟨ao, cp, rfl, _⟩ := o.str)
      | (go_at_call 49; refine (mapClone_pl bm l.length l _ ?_).mono ?_; exact (sc_str (by assumption)).1.pl; rintro e wB ⟨rfl, p, dB⟩)))
  have HF := hide (clone_tbl h.out o dA p dB)
  clear o dA p dB c0 c1 c2 HT0 h
  go_wp2
  go_ret
  exact ⟨_, _, _, rfl, HF.out⟩

end Go.Proofs.YtnfdifkcchciaaaDoor
