import Derived.Test.YtnfdifkcchciaaaDoorLiv
import Derived.Lib.BufferWrite
import Derived.Lib.UnsafeStr
import Derived.Laws.MakeOwn
namespace Go.Proofs.YtnfdifkcchciaaaDoor
open Go.RowKit Go.Maps

theorem info5 : (Tryd.prog.info? 5).map (fun i => (i.zero, i.size, i.bytes)) = some (some (.int .u8 0), 1, 1) := by kernel_rfl

set_option maxRecDepth 100000 in
set_option maxHeartbeats 1000000 in
/-- A fresh copy of a text that is not empty. -/
theorem copy_lite (s : ByteArray) (w : World) (h0 : s.size ≠ 0) (hlim : s.size ≤ 1048576) :
    Calls Tryd.prog 53 #[.string s] w fun e w' => e = .returned (.string s) ∧ Below w.heap.size w w' := by
  obtain ⟨i0, hi, hz0, hz1, hz2⟩ := info_parts info5
  have hinfo : (Tryd.prog.info? 5).map (·.size) = some 1 := by rw [hi]; simp [hz1]
  have hco : Tryd.prog.cellsOf 5 = 1 := by kernel_rfl
  obtain ⟨M, hM⟩ : ∃ M, M = madeCells (Value.int .u8 0).cells (((s.size : Nat) : Int).toNat * i0.size) := ⟨_, rfl⟩
  have hMs : M.size = s.size := by rw [hM, size_madeCells, hz1]; simp
  have hmk : ∀ W : World, (Instr.makeSlice 89 (.int .i64 (s.size : Int)) (.int .i64 (s.size : Int))).run Tryd.prog W = .ok (.slice (some ⟨W.heap.size, 0, none⟩) s.size s.size) (W.alloc (.cells M 5)) := fun W => by
    have h := run_make (P := Tryd.prog) W 89 5 i0 (.int .u8 0) Tryd.underlying89 hi hz0 .i64 .i64 (s.size : Int) (s.size : Int) (by omega) (by omega) (by rw [hz2]; omega) (by omega)
    rw [← hM] at h
    simpa using h
  have hcp := Lib.run_copy_row_string (P := Tryd.prog) (w.alloc (.cells M 5)) 89 9 3 5 w.heap.size 0 s.size s.size s M 5 Tryd.underlying89 hinfo (heap_alloc_new w _) (Nat.le_refl _) (by omega)
  obtain ⟨Y, hY⟩ : ∃ Y, Y = (M.toList.take 0 ++ Lib.byteCells s.data.toList ++ M.toList.drop (0 + s.size)).toArray := ⟨_, rfl⟩
  rw [← hY] at hcp
  have hYl : Y.toList = Lib.byteCells s.data.toList := by
    rw [hY, List.toList_toArray, List.take_zero, List.nil_append, List.drop_of_length_le (by rw [Array.length_toList]; omega), List.append_nil]
  have hgY : ((w.alloc (.cells M 5)).setRow w.heap.size Y).heap[w.heap.size]? = some (.cells Y 5 (0, 0)) := setRow_heap _ _ M _ 5 (0, 0) (heap_alloc_new w _)
  have hne : s.data.toList ≠ [] := fun e => h0 (by rw [Lib.size_eq, e]; rfl)
  have hYs : Y.size = s.size := by rw [← Array.length_toList, hYl, Lib.byteCells_length, ← Lib.size_eq]
  have hUS := Lib.run_unsafeString_row (P := Tryd.prog) ((w.alloc (.cells M 5)).setRow w.heap.size Y) 90 3 9 5 Tryd.underlying90 hco w.heap.size Y.size (by unfold World.shape?; rw [hgY]) s.data.toList hne (by rw [← Lib.size_eq]; omega) (by rw [← Lib.size_eq]; omega)
    (fun j x hx => Lib.cells_of_row hgY Y.size j _ (by rw [List.take_of_length_le (by rw [Array.length_toList]; exact Nat.le_refl _), hYl]; simp [Lib.byteCells, hx]))
  rw [← Lib.size_eq] at hUS
  have hb1 : Below w.heap.size w (w.alloc (.cells M 5)) := (Below.refl _ w).alloc (Nat.le_refl _) _
  have hb2 : Below w.heap.size (w.alloc (.cells M 5)) ((w.alloc (.cells M 5)).setRow w.heap.size Y) := ⟨rfl, rfl, rfl, by simp, fun k hk => setRow_other _ _ _ _ (by omega)⟩
  have HB := hide (Lib.below_freeze (hb1.trans hb2) (p := ⟨w.heap.size, 0, none⟩) (Nat.le_refl _) s.size)
  have hz : ((s.size : Int) == 0) = false := by rw [beq_eq_false_iff_ne]; omega
  have hps : (0 : Int) < (s.size : Int) := by omega
  have hps2 : 0 < s.size := by omega
  clear hY hb1 hb2 hYl hM hgY hne hYs hMs hi hz0 hz1 hz2 hinfo hco h0
  go_enter Tryd.func53, Tryd.ntmps53
  go_wp2
  go_ret
  exact ⟨rfl, HB.out⟩

set_option maxRecDepth 100000 in
set_option maxHeartbeats 1000000 in
theorem copy_str (s : ByteArray) (w : World) (h0 : s.size ≠ 0) (hlim : s.size ≤ 1048576) :
    Calls Tryd.prog 39 #[.string s] w fun e w' => e = .returned (.string s) ∧ Below w.heap.size w w' := by
  go_enter Tryd.func39, Tryd.ntmps39
  go_wp2_with fail
  refine (copy_lite s _ h0 hlim).mono ?_
  rintro e w1 ⟨rfl, d⟩
  go_wp2
  go_ret
  exact ⟨rfl, d⟩

/-- Nothing has turned but in blocks of R. -/
structure Only (w w' : World) (R : Nat → Prop) : Prop where
  os : w'.os = w.os
  tape : w'.tape = w.tape
  output : w'.output = w.output
  size : w.heap.size ≤ w'.heap.size
  block : ∀ k, k < w.heap.size → ¬ R k → w'.heap[k]? = w.heap[k]?
theorem Only.ofBelow {w w' : World} {R : Nat → Prop} (h : Below w.heap.size w w') : Only w w' R := ⟨h.os, h.tape, h.output, h.size, fun k hk _ => h.block k hk⟩
theorem Only.toBelow {w w' : World} {R : Nat → Prop} {B : Nat} (h : Only w w' R) (hB : B ≤ w.heap.size) (hR : ∀ k, R k → B ≤ k) : Below B w w' :=
  ⟨h.os, h.tape, h.output, h.size, fun k hk => h.block k (by omega) (fun hr => by have := hR k hr; omega)⟩
theorem Only.trans {a b c : World} {R : Nat → Prop} (h : Only a b R) (k : Only b c R) : Only a c R :=
  ⟨k.os.trans h.os, k.tape.trans h.tape, k.output.trans h.output, Nat.le_trans h.size k.size, fun i hi hn => (k.block i (Nat.lt_of_lt_of_le hi h.size) hn).trans (h.block i hi hn)⟩
theorem Only.grown {w w' : World} {r : Option Nat} {R : Nat → Prop} (h : w.grownBy w' r) (hr : ∀ k, r = some k → R k) : Only w w' R :=
  ⟨h.os, h.tape, h.output, h.size, fun k hk hn => h.block k hk (fun e => hn (hr k e.symm))⟩
theorem Only.set {w w' : World} {R : Nat → Prop} (h : Only w w' R) {g : Nat} (hg : R g) (k : Nat) (v : Value) : Only w (w'.setCell ⟨g, k, none⟩ v) R :=
  h.trans ⟨rfl, rfl, rfl, by simp [World.setCell], fun i _ hn => Below.heap_setCell _ _ _ _ (fun e => hn (by rw [e]; exact hg))⟩
theorem row_only {w w' : World} {R : Nat → Prop} {B : Nat} {e : TypeId} {n : Nat} {v : Value} {xs : List Value} (h : w.ownsRow B e 1 v n xs) (ho : Only w w' R) (hn : ∀ k, v.ownBlock = some k → ¬ R k) : w'.ownsRow B e 1 v n xs := by
  refine ⟨h.1, ?_⟩
  have hlt := h.lt
  rcases h.2 with h2 | ⟨g, cap, cur, rfl, hb, hg, rest⟩
  · exact .inl h2
  · exact .inr ⟨g, cap, cur, rfl, hb, (ho.block g (hlt g rfl).2 (hn g rfl)).trans hg, rest⟩
theorem map_only {w w' : World} {R : Nat → Prop} {b n : Nat} {l : List ByteArray} (h : Pls w b n l) (ho : Only w w' R) (hn : ¬ R b) : Pls w' b n l := by
  obtain ⟨D, o, hp⟩ := h
  have hlt := o.lt
  obtain ⟨es, ck, h1, h2⟩ := o
  exact ⟨D, ⟨es, ck, (ho.block b hlt hn).trans h1, h2⟩, hp⟩

/-- A table at block t: at most so many names, the list's slice v, the map's block bm, the names. -/
structure Tbl (w : World) (t : Nat) (most : Int) (v : Value) (bm : Nat) (l : List ByteArray) : Prop where
  blk : w.heap[t]? = some (.cells #[.int .i64 most, v, .map (some bm)] 73 (0, 0))
  own : OwnS w 0 v l
  pl : Pls w bm l.length l
  n1 : v.ownBlock ≠ some t
  n2 : v.ownBlock ≠ some bm
  n3 : bm ≠ t
  nod : l.Nodup
  val : ∀ s ∈ l, vld s = true
  len : (l.length : Int) ≤ most
  sml : l.length ≤ 2097152

/-- The blocks of a table. -/
def TB (t : Nat) (v : Value) (bm : Nat) (k : Nat) : Prop := k = t ∨ v.ownBlock = some k ∨ k = bm

theorem Tbl.only {w w' : World} {R : Nat → Prop} {t bm : Nat} {most : Int} {v : Value} {l : List ByteArray} (h : Tbl w t most v bm l) (ho : Only w w' R) (hn : ∀ k, TB t v bm k → ¬ R k) : Tbl w' t most v bm l := by
  have ht : t < w.heap.size := (Array.getElem?_eq_some_iff.1 h.blk).1
  exact ⟨(ho.block t ht (hn t (.inl rfl))).trans h.blk, row_only h.own ho (fun k hk => hn k (.inr (.inl hk))), map_only h.pl ho (hn bm (.inr (.inr rfl))), h.n1, h.n2, h.n3, h.nod, h.val, h.len, h.sml⟩
theorem Tbl.below {w w' : World} {t bm : Nat} {most : Int} {v : Value} {l : List ByteArray} (h : Tbl w t most v bm l) (d : Below w.heap.size w w') : Tbl w' t most v bm l :=
  h.only (Only.ofBelow (R := fun _ => False) d) (fun _ _ h => h)
theorem Tbl.lt {w : World} {t bm : Nat} {most : Int} {v : Value} {l : List ByteArray} (h : Tbl w t most v bm l) : ∀ k, TB t v bm k → k < w.heap.size := by
  rintro k (rfl | hk | rfl)
  · exact (Array.getElem?_eq_some_iff.1 h.blk).1
  · exact (World.ownsRow.lt h.own k hk).2
  · obtain ⟨D, o, _⟩ := h.pl; exact o.lt
theorem Tbl.c0 {w : World} {t bm : Nat} {most : Int} {v : Value} {l : List ByteArray} (h : Tbl w t most v bm l) : w.cell? ⟨t, 0, none⟩ = some (.int .i64 most) := by simp [World.cell?, h.blk]
theorem Tbl.c1 {w : World} {t bm : Nat} {most : Int} {v : Value} {l : List ByteArray} (h : Tbl w t most v bm l) : w.cell? ⟨t, 1, none⟩ = some v := by simp [World.cell?, h.blk]
theorem Tbl.c2 {w : World} {t bm : Nat} {most : Int} {v : Value} {l : List ByteArray} (h : Tbl w t most v bm l) : w.cell? ⟨t, 2, none⟩ = some (.map (some bm)) := by simp [World.cell?, h.blk]
theorem vld_size {s : ByteArray} (h : vld s = true) : 1 ≤ s.size ∧ s.size ≤ 16 := by
  unfold vld at h
  simp only [Bool.and_eq_true, decide_eq_true_eq] at h
  exact h.1

set_option maxRecDepth 100000 in
set_option maxHeartbeats 1000000 in
theorem new_bad (most : Int) (w : World) (h : most < 0) :
    Calls Tryd.prog 7 #[.int .i64 most] w fun e w' => e = .returned (.tuple #[.pointer none, .int .i64 1]) ∧ w' = w := by
  go_enter Tryd.func7, Tryd.ntmps7
  go_wp2
  go_ret2
  exact ⟨rfl, rfl⟩

set_option maxRecDepth 100000 in
set_option maxHeartbeats 1000000 in
theorem new_ok (most : Int) (w : World) (h : ¬ most < 0) :
    Calls Tryd.prog 7 #[.int .i64 most] w fun e w' => ∃ t bm, e = .returned (.tuple #[.pointer (some ⟨t, 0, none⟩), .int .i64 0]) ∧ Tbl w' t most (.slice none 0 0) bm [] ∧ w.heap.size ≤ t ∧ w.heap.size ≤ bm ∧ Below w.heap.size w w' := by
  have hmm := @run_makeMap Tryd.prog
  have hlen : (0 : Int) ≤ most := by omega
  go_enter Tryd.func7, Tryd.ntmps7
  go_wp2
  go_ret2
  have d1 := (Below.refl w.heap.size w).alloc (Nat.le_refl _) (.map #[] 0)
  have hsz : (w.alloc (.map #[] 0)).heap.size = w.heap.size + 1 := by simp
  refine ⟨w.heap.size + 1, rfl, w.heap.size, ⟨?_, World.ownsRow_nil _ _ _ _, ⟨_, (World.ownsMap_made w Tryd.prog 9 (plainElem Tryd.prog 3)).alloc _, isPl_nil⟩, by simp [Value.ownBlock], by simp [Value.ownBlock], by omega, List.nodup_nil, fun s hs => (by cases hs), by simpa using hlen, by simp⟩, by omega, Nat.le_refl _, d1.alloc d1.size _⟩
  have := heap_alloc_new (w.alloc (.map #[] 0)) (.cells #[.int .i64 most, .slice none 0 0, .map (some w.heap.size)] 73)
  rw [hsz] at this
  exact this

set_option maxRecDepth 100000 in
set_option maxHeartbeats 1000000 in
theorem count_tb (t bm : Nat) (most : Int) (v : Value) (l : List ByteArray) (w : World) (h : Hid (Tbl w t most v bm l)) :
    Calls Tryd.prog 9 #[.pointer (some ⟨t, 0, none⟩)] w fun e w' => e = .returned (.int .i64 (l.length : Nat)) ∧ w' = w := by
  obtain ⟨ao, cp, hv, _⟩ := h.out.own.str
  have c1 := h.out.c1
  rw [hv] at c1
  go_enter Tryd.func9, Tryd.ntmps9
  go_wp2
  go_ret
  exact ⟨rfl, rfl⟩

set_option maxRecDepth 100000 in
set_option maxHeartbeats 1000000 in
theorem list_tb (t bm : Nat) (most : Int) (v : Value) (l : List ByteArray) (w : World) (h : Hid (Tbl w t most v bm l)) :
    Calls Tryd.prog 12 #[.pointer (some ⟨t, 0, none⟩)] w fun e w' => ∃ v', e = .returned v' ∧ OwnS w' w.heap.size v' l ∧ Below w.heap.size w w' := by
  have c1 := h.out.c1
  go_enter Tryd.func12, Tryd.ntmps12
  go_wp2_with fail
  refine (clone_any v l _ h.out.own.str (by have := h.out.sml; omega)).mono ?_
  rintro e w1 ⟨v', rfl, o, d⟩
  have HO := hide (And.intro o d)
  clear o d c1
  go_wp2
  go_ret
  exact ⟨v', rfl, HO.out.1, HO.out.2⟩

set_option maxRecDepth 100000 in
set_option maxHeartbeats 1000000 in
theorem name_tb (t bm : Nat) (most : Int) (v : Value) (l : List ByteArray) (k : Nat) (w : World) (h : Hid (Tbl w t most v bm l)) (hk : k < l.length) :
    Calls Tryd.prog 13 #[.pointer (some ⟨t, 0, none⟩), .int .i64 (k : Nat)] w fun e w' => e = .returned (.tuple #[.string l[k], .int .i64 0]) ∧ w' = w := by
  obtain ⟨ao, cp, hv, hr⟩ := h.out.own.str
  have c1 := h.out.c1
  rw [hv] at c1
  obtain ⟨g, o, rfl, hc⟩ := hr k hk
  generalize l[k] = s at hc
  have i0 : (0 : Int) ≤ (k : Int) := by omega
  have i1 : ¬ (k : Int) < 0 := by omega
  have i2 : (k : Int) < (l.length : Int) := by omega
  have i3 : ¬ (k : Int) ≥ (l.length : Int) := by omega
  clear hr hv
  go_enter Tryd.func13, Tryd.ntmps13
  go_wp2
  go_ret2
  exact ⟨rfl, rfl⟩

set_option maxRecDepth 100000 in
set_option maxHeartbeats 1000000 in
theorem find_tb (t bm : Nat) (most : Int) (v : Value) (l : List ByteArray) (s : ByteArray) (m : Nat) (w : World) (h : Hid (Tbl w t most v bm l)) (hs : Hid (s ∈ l ∧ l.idxOf s = m)) :
    Calls Tryd.prog 14 #[.pointer (some ⟨t, 0, none⟩), .string s] w fun e w' => e = .returned (.tuple #[.int .i64 (m : Nat), .int .i64 0]) ∧ w' = w := by
  have c2 := h.out.c2
  have hz : s.size ≤ 1048576 := by have := vld_size (h.out.val s hs.out.1); omega
  go_enter Tryd.func14, Tryd.ntmps14
  go_wp2_with (at_lookup; refine lookup_in _ rfl _ _ rfl bm l.length l s m h.out.pl hs.out.1 hs.out.2 hz rfl rfl ?_)
  go_ret2
  exact ⟨rfl, rfl⟩

end Go.Proofs.YtnfdifkcchciaaaDoor
