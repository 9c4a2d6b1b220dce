import Derived.Test.YtocoghljmlpdeaaProg
import Derived.WalkKit
import Derived.WalkSpells
import Derived.WalkLawsBesides
import Derived.BigQuiet
import Derived.BigRegion
import Derived.Deep.QuietTactic
import Derived.Deep.RegionWith
import Derived.Deep.RegionHeld3
import Derived.Deep.AppendLies
import Derived.Deep.CutBlock
import Derived.Deep.CutRange
import Derived.Deep.DeepCutAuto
import Derived.RangeFuncRecord
import Derived.Lib.Small
import Derived.Lib.SliceRun
import Derived.Laws.EntriesVeiled
import Derived.Shelf.Bits.Mul64
import Derived.Shelf.Slices.Turned
import Derived.Shelf.Slices.Reverse
import Derived.Sort.OwnSortedInts
namespace Go.Proofs.Ytocoghljmlpdeaa
open Go.RowKit Go.Maps
attribute [local go_sem] Oper.semAt_some
theorem hide {p : Prop} (h : p) : Hid p := h
theorem info_parts {P : Program} {t : TypeId} {z : Option Value} {s b : Nat} (h : (P.info? t).map (fun i => (i.zero, i.size, i.bytes)) = some (z, s, b)) : ∃ i, P.info? t = some i ∧ i.zero = z ∧ i.size = s ∧ i.bytes = b := by
  cases hi : P.info? t with
  | none => simp [hi] at h
  | some i =>
    rw [hi] at h
    simp only [Option.map_some, Option.some.injEq, Prod.mk.injEq] at h
    exact ⟨i, rfl, h.1, h.2.1, h.2.2⟩
theorem info3 : (Try.prog.info? 3).map (fun i => (i.zero, i.size, i.bytes)) = some (some (.int .i64 0), 1, 8) := by kernel_rfl
def RdN (W : World) (ao : Option Addr) (L : List Int) : Prop := ∀ (j : Nat) (h : j < L.length), ∃ g o, ao = some ⟨g, o, none⟩ ∧ W.cell? ⟨g, o + j, none⟩ = some (.int .i64 L[j])
theorem RdN.on {W W' : World} {ao : Option Addr} {L : List Int} (h : RdN W ao L) (d : Below W.heap.size W W') : RdN W' ao L := fun j hj => by
  obtain ⟨g, o, rfl, c⟩ := h j hj
  exact ⟨g, o, rfl, (d.cell (p := ⟨g, o + j, none⟩) (World.block_lt_of_cell? W _ c)).trans c⟩
theorem cell_of {w : World} {b j : Nat} {cs : Array Value} {t : TypeId} {fr : Nat × Nat} {v : Value} (h : w.heap[b]? = some (.cells cs t fr)) (hv : cs[j]? = some v) : w.cell? ⟨b, j, none⟩ = some v := by simp [World.cell?, h, hv]
theorem fz_of {W : World} {b j : Nat} {c : Array Value} {t : TypeId} (h : W.heap[b]? = some (.cells c t (0, 0))) : W.frozen? ⟨b, j, none⟩ = false := by simp [World.frozen?, h]
theorem blk_on {W W' : World} {g : Nat} {o : Obj} (h : W.heap[g]? = some o) (d : Below W.heap.size W W') : W'.heap[g]? = some o := (d.block _ (Array.getElem?_eq_some_iff.1 h).1).trans h
/-- A number from 0 to one below a bound. -/
def inB (n x : Int) : Bool := decide (0 ≤ x ∧ x < n)
theorem inB_iff {n x : Int} : inB n x = true ↔ 0 ≤ x ∧ x < n := by simp [inB]
theorem inB_not {n x : Int} : inB n x = false ↔ ¬ (0 ≤ x ∧ x < n) := by simp [inB]
set_option maxRecDepth 100000 in
theorem withinM_any (x n : Int) (w : World) : Calls Try.prog 41 #[.int .i64 x, .int .i64 n] w fun e w' => e = .returned (.bool (inB n x)) ∧ w' = w := by
  by_cases h : 0 ≤ x
  · go_enter Try.func41, Try.ntmps41
    go_wp2
    go_ret
    exact ⟨by simp [inB, h], rfl⟩
  · go_enter Try.func41, Try.ntmps41
    go_wp2
    go_ret
    exact ⟨by simp [inB]; omega, rfl⟩
set_option maxRecDepth 100000 in
theorem within_any (x n : Int) (w : World) : Calls Try.prog 52 #[.int .i64 x, .int .i64 n] w fun e w' => e = .returned (.bool (inB n x)) ∧ w' = w := by
  by_cases h : 0 ≤ x
  · go_enter Try.func52, Try.ntmps52
    go_wp2
    go_ret
    exact ⟨by simp [inB, h], rfl⟩
  · go_enter Try.func52, Try.ntmps52
    go_wp2
    go_ret
    exact ⟨by simp [inB]; omega, rfl⟩
set_option maxRecDepth 100000 in
set_option maxHeartbeats 1000000 in
theorem allWithin_any (ao : Option Addr) (cp : Nat) (L : List Int) (n : Int) (w : World) (hr : Hid (RdN w ao L)) (hl : L.length ≤ 4194304) : Calls Try.prog 37 #[.slice ao L.length cp, .int .i64 n] w fun e w' => e = .returned (.bool (L.all (inB n))) ∧ w' = w := by
  obtain ⟨m, hm⟩ : ∃ m, m = L.length := ⟨_, rfl⟩
  have HL := hide hm
  rw [← hm]
  rw [← hm] at hl
  clear hm
  go_enter Try.func37, Try.ntmps37
  go_wp2
  go_loopw [9] (fun iv wr => ∃ i : Nat, i ≤ m ∧ iv = .int .i64 i ∧ wr = w ∧ Hid ((L.take i).all (inB n) = true)) (fun iv _ => m - (intOf iv).toNat)
  case atStart => exact ⟨0, Nat.zero_le _, rfl, rfl, hide (by simp)⟩
  case round =>
    obtain ⟨i, hi, rfl, hw, HY⟩ := hrel
    obtain rfl := hw
    by_cases hil : i < m
    · have i0 : (0 : Int) ≤ (i : Int) := by omega
      have i1 : (i : Int) < (m : Int) := by omega
      have hi2 : i < L.length := by rw [← HL.out]; exact hil
      obtain ⟨g, o, rfl, c⟩ := hr.out i hi2
      have HT := hide (show L.take (i + 1) = L.take i ++ [L[i]] by rw [List.take_add_one, List.getElem?_eq_getElem hi2]; rfl)
      have HM := hide (List.getElem_mem hi2)
      obtain ⟨x, hx⟩ : ∃ x, L[i] = x := ⟨_, rfl⟩
      rw [hx] at c HT HM
      clear hx
      cases hb : inB n x
      · go_wp2_with (go_at_call 52; refine (within_any x n wr).mono ?_; rintro e w2 ⟨rfl, rfl⟩)
        go_wp2
        go_ret
        refine ⟨?_, rfl⟩
        have : L.all (inB n) = false := List.all_eq_false.2 ⟨x, HM.out, by rw [hb]; simp⟩
        rw [this]
        rfl
      · go_wp2_with (go_at_call 52; refine (within_any x n wr).mono ?_; rintro e w2 ⟨rfl, rfl⟩)
        go_wp2
        go_roundw
        case rel => exact ⟨i + 1, by omega, by go_num, trivial, hide (by rw [HT.out, List.all_append, HY.out]; simp [hb])⟩
        case measure => simp [intOf]; omega
    · obtain rfl : m = i := by omega
      have i1 : ¬ (m : Int) < (m : Int) := by omega
      go_wp2
      go_ret
      refine ⟨?_, rfl⟩
      have q := HY.out
      rw [HL.out, List.take_length] at q
      rw [q]
      rfl
structure Only (w w' : World) (R : Nat → Prop) : Prop where
  os : w'.os = w.os
  tape : w'.tape = w.tape
  output : w'.output = w.output
  size : w.heap.size ≤ w'.heap.size
  block : ∀ k, k < w.heap.size → ¬ R k → w'.heap[k]? = w.heap[k]?
theorem Only.ofBelow {w w' : World} {R : Nat → Prop} (h : Below w.heap.size w w') : Only w w' R := ⟨h.os, h.tape, h.output, h.size, fun k hk _ => h.block k hk⟩
theorem Only.toBelow {w w' : World} {R : Nat → Prop} {B : Nat} (h : Only w w' R) (hB : B ≤ w.heap.size) (hR : ∀ k, R k → B ≤ k) : Below B w w' :=
  ⟨h.os, h.tape, h.output, h.size, fun k hk => h.block k (by omega) (fun hr => by have := hR k hr; omega)⟩
theorem Only.trans {a b c : World} {R : Nat → Prop} (h : Only a b R) (k : Only b c R) : Only a c R :=
  ⟨k.os.trans h.os, k.tape.trans h.tape, k.output.trans h.output, Nat.le_trans h.size k.size, fun i hi hn => (k.block i (Nat.lt_of_lt_of_le hi h.size) hn).trans (h.block i hi hn)⟩
theorem Only.mono {w w' : World} {R R' : Nat → Prop} (h : Only w w' R) (hr : ∀ k, k < w.heap.size → R k → R' k) : Only w w' R' := ⟨h.os, h.tape, h.output, h.size, fun k hk hn => h.block k hk (fun h' => hn (hr k hk h'))⟩
/-- What is new may be written. -/
theorem Only.andNew {a b c : World} {R S : Nat → Prop} (h : Only a b R) (k : Only b c S) (hs : ∀ i, i < a.heap.size → S i → R i) : Only a c R :=
  ⟨k.os.trans h.os, k.tape.trans h.tape, k.output.trans h.output, Nat.le_trans h.size k.size, fun i hi hn => (k.block i (Nat.lt_of_lt_of_le hi h.size) (fun hx => hn (hs i hi hx))).trans (h.block i hi hn)⟩
theorem flat_get {α : Type} (cs : α → List Value) (sz : Nat) (hl : ∀ a, (cs a).length = sz) : ∀ (l : List α) (j i : Nat) (hj : j < l.length), i < sz → (l.flatMap cs)[j * sz + i]? = (cs l[j])[i]?
  | a :: l, 0, i, _, hi => by
    rw [Nat.zero_mul, Nat.zero_add, List.flatMap_cons, List.getElem?_append_left (by rw [hl]; exact hi)]; rfl
  | a :: l, j + 1, i, hj, hi => by
    rw [List.flatMap_cons, List.getElem?_append_right (by rw [hl, Nat.succ_mul]; omega), hl, show (j + 1) * sz + i - sz = j * sz + i by rw [Nat.succ_mul]; omega]
    exact flat_get cs sz hl l j i (by simpa using hj) hi
/-- A made row being filled: its cells below k are known. -/
def Mrw (W : World) (H : Nat) (t : TypeId) (N : Nat) (val : Nat → Value) (k : Nat) : Prop :=
  ∃ cur : Array Value, W.heap[H]? = some (.cells cur t (0, 0)) ∧ cur.size = N ∧ ∀ j, j < k → cur[j]? = some (val j)
theorem Mrw.cell {W : World} {H : Nat} {t : TypeId} {N : Nat} {val : Nat → Value} {k : Nat} (h : Mrw W H t N val k) (j : Nat) (hj : j < N) : ∃ u, W.cell? ⟨H, j, none⟩ = some u := by
  obtain ⟨cur, h1, h2, _⟩ := h
  exact ⟨cur[j]'(by omega), cell_of h1 (Array.getElem?_eq_getElem (by omega))⟩
theorem Mrw.fz {W : World} {H : Nat} {t : TypeId} {N : Nat} {val : Nat → Value} {k : Nat} (h : Mrw W H t N val k) (j : Nat) : W.frozen? ⟨H, j, none⟩ = false := by
  obtain ⟨cur, h1, _⟩ := h
  exact fz_of h1
theorem Mrw.set {W : World} {H : Nat} {t : TypeId} {N : Nat} {val : Nat → Value} {k : Nat} (h : Mrw W H t N val k) (j : Nat) (hj : k ≤ j) (u : Value) : Mrw (W.setCell ⟨H, j, none⟩ u) H t N val k := by
  obtain ⟨cur, h1, h2, h3⟩ := h
  refine ⟨_, heap_setCell_same W H j cur t u h1, by simpa using h2, fun i hi => ?_⟩
  rw [Array.getElem?_setIfInBounds_ne (by omega)]
  exact h3 i hi
theorem Mrw.put {W : World} {H : Nat} {t : TypeId} {N : Nat} {val : Nat → Value} {k : Nat} (h : Mrw W H t N val k) (hk : k < N) (u : Value) (hu : val k = u) : Mrw (W.setCell ⟨H, k, none⟩ u) H t N val (k + 1) := by
  obtain ⟨cur, h1, h2, h3⟩ := h
  refine ⟨_, heap_setCell_same W H k cur t u h1, by simpa using h2, fun i hi => ?_⟩
  by_cases e : i = k
  · subst e
    rw [Array.getElem?_setIfInBounds_self_of_lt (by omega), hu]
  · rw [Array.getElem?_setIfInBounds_ne (by omega)]
    exact h3 i (by omega)
theorem Mrw.at {W : World} {H : Nat} {t : TypeId} {N : Nat} {val : Nat → Value} {k : Nat} (h : Mrw W H t N val k) (j : Nat) (hj : j < k) : W.cell? ⟨H, j, none⟩ = some (val j) := by
  obtain ⟨cur, h1, h2, h3⟩ := h
  exact cell_of h1 (h3 j hj)
theorem Mrw.below {W W' : World} {H : Nat} {t : TypeId} {N : Nat} {val : Nat → Value} {k B : Nat} (h : Mrw W H t N val k) (d : Below B W W') (hB : H < B) : Mrw W' H t N val k := by
  obtain ⟨cur, h1, h2, h3⟩ := h
  exact ⟨cur, (d.block _ hB).trans h1, h2, h3⟩
theorem Mrw.lt {W : World} {H : Nat} {t : TypeId} {N : Nat} {val : Nat → Value} {k : Nat} (h : Mrw W H t N val k) : H < W.heap.size := by
  obtain ⟨cur, h1, _⟩ := h
  exact (Array.getElem?_eq_some_iff.1 h1).1
theorem Mrw.ofRow {W : World} {b H : Nat} {t : TypeId} {sz n : Nat} {xs : List Value} (val : Nat → Value) (h : W.ownsRow b t sz (.slice (some ⟨H, 0, none⟩) n n) n xs) : Mrw W H t (n * sz) val 0 := by
  obtain ⟨h0, h1⟩ := h
  rcases h1 with ⟨e, _⟩ | ⟨g, cap, cur, e, h2, h3, h4, h5, h6, h7⟩
  · cases e
  · cases e
    exact ⟨cur, h3, h6, fun j hj => by omega⟩
theorem only_set (w : World) (g k : Nat) (v : Value) : Only w (w.setCell ⟨g, k, none⟩ v) (fun i => i = g) :=
  ⟨rfl, rfl, rfl, by simp [World.setCell], fun i _ hn => Below.heap_setCell _ _ _ _ (fun e => hn (by rw [e]))⟩
theorem row_only {w w' : World} {R : Nat → Prop} {B : Nat} {e : TypeId} {sz n : Nat} {v : Value} {xs : List Value} (h : w.ownsRow B e sz v n xs) (ho : Only w w' R) (hn : ∀ k, v.ownBlock = some k → ¬ R k) : w'.ownsRow B e sz v n xs := by
  refine ⟨h.1, ?_⟩
  have hlt := h.lt
  rcases h.2 with h2 | ⟨g, cap, cur, rfl, hb, hg, rest⟩
  · exact .inl h2
  · exact .inr ⟨g, cap, cur, rfl, hb, (ho.block g (hlt g rfl).2 (hn g rfl)).trans hg, rest⟩
theorem only3 (W : World) (b i j k : Nat) (x y z : Value) : Only W (((W.setCell ⟨b, i, none⟩ x).setCell ⟨b, j, none⟩ y).setCell ⟨b, k, none⟩ z) (fun q => q = b) := ((only_set W b i x).trans (only_set _ b j y)).trans (only_set _ b k z)
theorem below_drewN2 {B : Nat} {w w' : World} (d : Below B w w') (n : Nat) : Below B w (w'.drewN n) := ⟨d.os, d.tape, d.output, d.size, d.block⟩
theorem Mrw.upd {W : World} {H : Nat} {t : TypeId} {N : Nat} {f : Nat → Value} (h : Mrw W H t N f N) (j : Nat) (u : Value) : Mrw (W.setCell ⟨H, j, none⟩ u) H t N (fun c => if c = j then u else f c) N := by
  obtain ⟨cur, h1, h2, h3⟩ := h
  refine ⟨_, heap_setCell_same W H j cur t u h1, by simpa using h2, fun i hi => ?_⟩
  by_cases e : i = j
  · subst e
    rw [Array.getElem?_setIfInBounds_self_of_lt (by omega)]
    simp
  · rw [Array.getElem?_setIfInBounds_ne (by omega), h3 i hi]
    simp [e]
theorem Mrw.congr {W : World} {H : Nat} {t : TypeId} {N : Nat} {f g : Nat → Value} (h : Mrw W H t N f N) (e : ∀ c, c < N → f c = g c) : Mrw W H t N g N := by
  obtain ⟨cur, h1, h2, h3⟩ := h
  exact ⟨cur, h1, h2, fun j hj => by rw [h3 j hj, e j hj]⟩
theorem Mrw.drew {W : World} {H : Nat} {t : TypeId} {N : Nat} {f : Nat → Value} (h : Mrw W H t N f N) : Mrw W.drew H t N f N := h
theorem Mrw.alloc {W : World} {H : Nat} {t : TypeId} {N : Nat} {f : Nat → Value} (h : Mrw W H t N f N) (o : Obj) : Mrw (W.alloc o) H t N f N := h.below ((Below.refl _ _).alloc (Nat.le_refl _) _) h.lt
theorem Mrw.far {W : World} {H : Nat} {t : TypeId} {N : Nat} {f : Nat → Value} (h : Mrw W H t N f N) {g : Nat} (hg : H ≠ g) (j : Nat) (u : Value) : Mrw (W.setCell ⟨g, j, none⟩ u) H t N f N := by
  obtain ⟨cur, h1, h2, h3⟩ := h
  exact ⟨cur, (Below.heap_setCell _ _ _ _ hg).trans h1, h2, h3⟩
theorem Mrw.only {W W' : World} {H : Nat} {t : TypeId} {N : Nat} {f : Nat → Value} {P : Nat → Prop} (h : Mrw W H t N f N) (o : Only W W' P) (hP : ¬ P H) : Mrw W' H t N f N := by
  have hl := h.lt
  obtain ⟨cur, h1, h2, h3⟩ := h
  exact ⟨cur, (o.block H hl hP).trans h1, h2, h3⟩
theorem Mrw.ne {W : World} {H K : Nat} {t u : TypeId} {N M : Nat} {f g : Nat → Value} {a b : Nat} (h : Mrw W H t N f a) (k : Mrw W K u M g b) (htu : t ≠ u) : H ≠ K := by
  rintro rfl
  obtain ⟨c, h1, _⟩ := h
  obtain ⟨d, k1, _⟩ := k
  rw [h1] at k1
  simp only [Option.some.injEq, Obj.cells.injEq] at k1
  exact htu k1.2.1
/-- Another block written: a row stays. -/
theorem own_keep {W W' : World} {B n sz p : Nat} {e t : TypeId} {v : Value} {xs : List Value} {cs : Array Value} (h : W.ownsRow B e sz v n xs) (z : W.heap[p]? = some (.cells cs t (0, 0))) (ne : e ≠ t) (o : Only W W' (fun k => k = p)) : W'.ownsRow B e sz v n xs := by
  refine ⟨h.1, ?_⟩
  rcases h.2 with h1 | ⟨g, cap, cur, hv, hb, hg, rest⟩
  · exact Or.inl h1
  · refine Or.inr ⟨g, cap, cur, hv, hb, (o.block g (Array.getElem?_eq_some_iff.1 hg).1 (fun e2 => ?_)).trans hg, rest⟩
    subst e2
    rw [z] at hg
    injection hg with hg
    injection hg with _ h2 _
    exact ne h2.symm
theorem one_cells {W : World} {v : Value} {t : TypeId} {p : Nat} (z : W.heap[p]? = some (.cells #[v] t (0, 0))) : ∀ (j : Nat) (u : Value), [v][j]? = some u → W.cell? ((⟨p, 0, none⟩ : Addr).add j) = some u := fun j u hu => by
  cases j with
  | zero =>
    obtain rfl : v = u := by simpa using hu
    rw [Addr.add_lit]
    exact cell_of z rfl
  | succ j => simp at hu
theorem grown_only {w w' : World} {r : Option Nat} (h : w.grownBy w' r) : Only w w' (fun k => r = some k) := ⟨h.os, h.tape, h.output, h.size, fun k hk hn => h.block k hk (fun e => hn e.symm)⟩
theorem mrw_row {W : World} {B H n : Nat} {K : List Int} (h : Mrw W H 3 n (fun c => .int .i64 (K.getD c 0)) n) (hK : K.length = n) (hB : B ≤ H) (hn : n ≤ maxLen) : W.ownsRow B 3 1 (.slice (some ⟨H, 0, none⟩) n n) n (K.map (Value.int .i64)) := by
  obtain ⟨cur, h1, h2, h3⟩ := h
  refine ⟨by simp [hK], .inr ⟨H, n, cur, rfl, hB, h1, Nat.le_refl _, hn, by omega, ?_⟩⟩
  rw [Nat.mul_one, List.take_of_length_le (by simp; omega)]
  apply List.ext_getElem?
  intro j
  by_cases hj : j < n
  · rw [Array.getElem?_toList, h3 j hj, List.getElem?_map, List.getElem?_eq_getElem (by omega)]
    simp [List.getD, List.getElem?_eq_getElem (show j < K.length by omega)]
  · rw [List.getElem?_eq_none (by simp; omega), List.getElem?_eq_none (by simp; omega)]
theorem own_below {W W' : World} {B n sz : Nat} {e : TypeId} {v : Value} {xs : List Value} (h : W.ownsRow B e sz v n xs) (d : Below W.heap.size W W') : W'.ownsRow B e sz v n xs := row_only h (Only.ofBelow (R := fun _ => False) d) (fun _ _ => id)
theorem owns_down {W : World} {B C : Nat} {e : TypeId} {sz : Nat} {v : Value} {n : Nat} {xs : List Value} (h : W.ownsRow B e sz v n xs) (hC : C ≤ B) : W.ownsRow C e sz v n xs :=
  ⟨h.1, h.2.imp id (fun ⟨g, cap, cur, h1, h2, h3, h4⟩ => ⟨g, cap, cur, h1, Nat.le_trans hC h2, h3, h4⟩)⟩
theorem own_slice {W : World} {B n sz : Nat} {e : TypeId} {v : Value} {xs : List Value} (h : W.ownsRow B e sz v n xs) : ∃ b c, v = .slice b n c := by
  rcases h.2 with ⟨hv, hn⟩ | ⟨g, cap, cur, hv, _⟩
  · exact ⟨none, 0, by rw [hv, hn]⟩
  · exact ⟨_, cap, hv⟩
theorem results_c1 {P : Program} {fn : Func} {p q : Tmp} {ty : TypeId} (h : fn.results = #[.cell p ty, .tmp q]) (tmps : Array Value) (w : World) (g : Nat) (t : TypeId) (cs : Array Value) (fr : Nat × Nat) (d : TypeDesc) (x : Value)
    (hp : tmps.getD p undef = .pointer (some ⟨g, 0, none⟩)) (hq : tmps.getD q undef = x) (hg : w.heap[g]? = some (.cells cs t fr))
    (hu : P.underlying ty = some d) (hd : (match d with | .struct _ | .array _ _ => true | _ => false) = true) (hi : (P.info? ty).map (·.size) = some cs.size) :
    (results fn tmps).run P w = .ok (.tuple #[.agg cs, x]) w := by
  have hp' : tmps[p]?.getD undef = .pointer (some ⟨g, 0, none⟩) := by simpa using hp
  have hq' : tmps[q]?.getD undef = x := by simpa using hq
  simp [results, h, hp', hq', asAddr, run_loadVar_row w g t ty cs fr d hg hu hd hi]
end Go.Proofs.Ytocoghljmlpdeaa
namespace Go.Proofs.Ytocoghljmlpdeaa
/-! ### A region in two phases: the first operations only read, and all the others wait for them -/
section
variable {P : Program} {md : Region.Mode} {ops : Array Oper} {C : World → Prop}
/-- What has come up has come up behind all that it waits for. -/
def ClosedL (md : Region.Mode) (ops : Array Oper) (listed : Array Bool) : Prop :=
  ∀ (j : Nat) (oj : Oper), ops[j]? = some oj → listed.getD j true = true → ∀ e ∈ oj.after, Region.binds md e = true → listed.getD e.on false = true
/-- Does one wait for another, over some others? -/
def waitsL (md : Region.Mode) (ops : Array Oper) : Nat → Nat → Nat → Bool
  | 0, _, _ => false
  | f + 1, j, i => match ops[j]? with
    | none => false
    | some o => o.after.any fun e => Region.binds md e && (e.on == i || waitsL md ops f e.on i)
theorem getD_of (l : Array Bool) (i : Nat) (h : l.getD i true = false) : l.getD i false = false := by
  rcases Nat.lt_or_ge i l.size with h' | h'
  · simpa [h'] using h
  · simp [Array.getElem?_eq_none h']
theorem getD_to (l : Array Bool) (i : Nat) (h : l.getD i false = true) : l.getD i true = true := by
  rcases Nat.lt_or_ge i l.size with h' | h'
  · simpa [h'] using h
  · simp [Array.getElem?_eq_none h'] at h
theorem waits_un {listed : Array Bool} (hc : ClosedL md ops listed) {i : Nat} (hi : listed.getD i true = false) : ∀ (f j : Nat), waitsL md ops f j i = true → ∃ e oj, ops[j]? = some oj ∧ e ∈ oj.after ∧ Region.binds md e = true ∧ listed.getD e.on false = false
  | 0, _, h => by simp [waitsL] at h
  | f + 1, j, h => by
    unfold waitsL at h
    cases ho : ops[j]? with
    | none => simp [ho] at h
    | some oj =>
      simp only [ho] at h
      obtain ⟨e, he, h2⟩ : ∃ e ∈ oj.after, (Region.binds md e && (e.on == i || waitsL md ops f e.on i)) = true := by
        obtain ⟨i1, hi1, h2⟩ := Array.any_eq_true.1 h
        exact ⟨_, Array.getElem_mem hi1, h2⟩
      simp only [Bool.and_eq_true, Bool.or_eq_true, beq_iff_eq] at h2
      obtain ⟨hb, h3⟩ := h2
      refine ⟨e, oj, rfl, he, hb, ?_⟩
      rcases h3 with rfl | h3
      · exact getD_of _ _ hi
      · cases hx : listed.getD e.on false with
        | false => rfl
        | true =>
          obtain ⟨e', oj', h4, h5, h6, h7⟩ := waits_un hc hi f e.on h3
          have := hc _ _ h4 (getD_to _ _ hx) e' h5 h6
          rw [h7] at this; cases this
/-- The others wait for each of the first n. -/
def phasedB (md : Region.Mode) (ops : Array Oper) (n : Nat) : Bool :=
  (List.range ops.size).all fun j => decide (j < n) || (List.range n).all fun i => waitsL md ops ops.size j i
theorem phased_lt {n : Nat} {listed : Array Bool} (hp : phasedB md ops n = true) (hc : ClosedL md ops listed) {i j : Nat} (hin : i < n) (hi : listed.getD i true = false) (hj : j ∈ Region.ready md ops listed) : j < n := by
  obtain ⟨h0, oj, ho, hall⟩ := mem_ready.1 hj
  rcases Nat.lt_or_ge j n with h | h
  · exact h
  · unfold phasedB at hp
    rw [List.all_eq_true] at hp
    have h1 := hp j (List.mem_range.2 (Array.getElem?_eq_some_iff.1 ho).1)
    simp only [Bool.or_eq_true, decide_eq_true_eq, List.all_eq_true, List.mem_range] at h1
    rcases h1 with h1 | h1
    · exact h1
    · obtain ⟨e, oj', h4, h5, h6, h7⟩ := waits_un hc hi _ _ (h1 i hin)
      rw [ho] at h4
      cases h4
      rw [hall e h5 h6] at h7
      cases h7
theorem ClosedL.set {listed : Array Bool} (hc : ClosedL md ops listed) {j : Nat} (hj : j ∈ Region.ready md ops listed) : ClosedL md ops (listed.setIfInBounds j true) := by
  intro k ok hk hl e he hb
  by_cases hjk : j = k
  · subst hjk
    obtain ⟨h0, oj, ho, hall⟩ := mem_ready.1 hj
    rw [ho] at hk
    cases hk
    exact getD_set_true (hall e he hb)
  · rw [getD_set_ne true hjk] at hl
    exact getD_set_true (hc k ok hk hl e he hb)
/-- Whatever order is picked until the first n have all come up. -/
def wpFirst (P : Program) (md : Region.Mode) (ops : Array Oper) (C : World → Prop) (n : Nat) (T : Array Bool → Act → Prop) : Nat → Array Bool → Act → Prop
  | 0, listed, a => (∀ j, j < n → listed.getD j true = true) ∧ T listed a
  | m + 1, listed, a => Region.ready md ops listed ≠ [] ∧ ∀ i ∈ Region.ready md ops listed, qOp P ops C i (wpFirst P md ops C n T m (listed.setIfInBounds i true)) a
theorem wpAny_of_first {n : Nat} {T : Array Bool → Act → Prop} {Q : Exit → Act → World → Prop} {k : Nat} (hT : ∀ listed a w, C w → T listed a → wpAny P md ops Q k listed a w) :
    ∀ (m : Nat) (listed : Array Bool) (a : Act) (w : World), C w → wpFirst P md ops C n T m listed a → wpAny P md ops Q (k + m) listed a w
  | 0, _, _, _, hw, h => hT _ _ _ hw h.2
  | m + 1, _, _, _, hw, h => ⟨fun h0 => absurd h0 h.1, fun i hi => wpOp_of_qOp hw (fun a' w' hw' => wpAny_of_first hT m _ a' w' hw') (h.2 i hi)⟩
theorem wpFirst_first {n : Nat} {T : Array Bool → Act → Prop} {i : Nat} {oi : Oper} {v : Value} (hi : ops[i]? = some oi) (hin : i < n) (hp : phasedB md ops n = true)
    (hsel : ∀ (j : Nat) (o : Oper) cs b, ops[j]? = some o → o.op ≠ .select cs b) :
    ∀ (fuel : Nat) (listed : Array Bool) (a : Act), ClosedL md ops listed →
      (∀ j oj, ops[j]? = some oj → j ≠ i → listed.getD j true = false → (∀ e ∈ oj.after, Region.binds md e = true → e.on ≠ i) → oi.apart ops oj = true) →
      i ∈ Region.ready md ops listed → YieldsIn P ops C oi v a →
      wpFirst P md ops C n T fuel (listed.setIfInBounds i true) (a.put oi.dst v) → wpFirst P md ops C n T (fuel + 1) listed a := by
  intro fuel
  induction fuel with
  | zero =>
    intro listed a hc _ hr hy H
    refine ⟨fun h => (by rw [h] at hr; cases hr), fun j hj => ?_⟩
    by_cases hji : j = i
    · subst hji; exact hy.qOp hi H
    · have hjn := phased_lt hp hc hin (mem_ready.1 hr).1 hj
      have h1 := H.1 j hjn
      rw [getD_set_ne true (Ne.symm hji), (mem_ready.1 hj).1] at h1
      cases h1
  | succ fuel ih =>
    intro listed a hc hfree hr hy H
    refine ⟨fun h => (by rw [h] at hr; cases hr), fun j hj => ?_⟩
    by_cases hji : j = i
    · subst hji; exact hy.qOp hi H
    · have h1 := H.2 j (ready_mono hj hji)
      obtain ⟨hjun, oj, hoj, hall⟩ := mem_ready.1 hj
      have hnot : ∀ e ∈ oj.after, Region.binds md e = true → e.on ≠ i := fun e he hb heq => by
        have h1 := hall e he hb
        rw [heq, getD_of _ _ (mem_ready.1 hr).1] at h1
        cases h1
      have h2 := qOp_put hoj (hfree j oj hoj hji hjun hnot) (fun cs b => hsel i oi cs b hi) (fun cs b => hsel j oj cs b hoj) hy h1
      have hfree' : ∀ k ok, ops[k]? = some ok → k ≠ i → (listed.setIfInBounds j true).getD k true = false →
          (∀ e ∈ ok.after, Region.binds md e = true → e.on ≠ i) → oi.apart ops ok = true := fun k ok hk hki hun hno => by
        refine hfree k ok hk hki ?_ hno
        by_cases hjk : j = k
        · subst hjk; exact hjun
        · rw [getD_set_ne true hjk] at hun; exact hun
      refine qOp_mono (fun a' h3 => ih (listed.setIfInBounds j true) a' (hc.set hj) hfree' (ready_mono hr (Ne.symm hji)) h3.1 ?_) h2
      rw [Array.setIfInBounds_comm _ _ hji]
      exact h3.2
/-- The first ones, in their order; L: what has come up then. -/
def firstB (md : Region.Mode) (ops : Array Oper) (n : Nat) : Nat → Nat → Array Bool → Array Bool → Bool
  | 0, _, listed, L => (List.range n).all (fun j => listed.getD j true) && decide (listed = L)
  | fuel + 1, k, listed, L => (Region.ready md ops listed).contains k && Region.free md ops listed k && decide (k < n) && firstB md ops n fuel (k + 1) (listed.setIfInBounds k true) L
theorem wpFirst_lex {n : Nat} {L : Array Bool} {Q : Act → Prop} (hs : Region.noSelect ops = true) (hp : phasedB md ops n = true) : ∀ (l : List Oper) (k : Nat) (listed : Array Bool) (a : Act), ClosedL md ops listed → (∀ j o, l[j]? = some o → ops[k + j]? = some o) →
    firstB md ops n l.length k listed L = true → wpQuiet P ops C Q l a → wpFirst P md ops C n (fun listed' a' => listed' = L ∧ Q a') l.length listed a
  | [], _, _, _, _, _, hB, h => by
    simp only [List.length_nil, firstB, Bool.and_eq_true, List.all_eq_true, List.mem_range, decide_eq_true_eq] at hB
    exact ⟨hB.1, hB.2, h⟩
  | o :: l, k, listed, a, hc, hl, hB, h => by
    have h0 : ops[k]? = some o := hl 0 o rfl
    simp only [List.length_cons, firstB, Bool.and_eq_true, decide_eq_true_eq] at hB
    obtain ⟨⟨⟨hr, hf⟩, hk⟩, hB'⟩ := hB
    have hr' : k ∈ Region.ready md ops listed := by simpa using hr
    have hst : qOp P ops C k (wpQuiet P ops C Q l) a := by unfold qOp; simp only [h0]; exact h
    obtain ⟨v, hy, hK⟩ := yieldsIn_of_qOp h0 hst
    exact wpFirst_first h0 hk hp (Region.noSelect_spec hs) l.length listed a hc (Region.free_spec h0 hf) hr' hy
      (wpFirst_lex hs hp l (k + 1) _ _ (hc.set hr') (fun j o' ho => by have := hl (j + 1) o' (by simpa using ho); simpa [Nat.add_assoc, Nat.add_comm 1 j] using this) hB' hK)
/-- The others, one at a time. -/
def lineB (md : Region.Mode) (ops : Array Oper) : Nat → Nat → Array Bool → Bool
  | 0, _, listed => (Region.ready md ops listed).isEmpty
  | fuel + 1, k, listed => decide (Region.ready md ops listed = [k]) && lineB md ops fuel (k + 1) (listed.setIfInBounds k true)
theorem wpAny_line {Q : Exit → Act → World → Prop} : ∀ (l : List Oper) (k : Nat) (listed : Array Bool) (a : Act) (w : World), (∀ j o, l[j]? = some o → ops[k + j]? = some o) →
    lineB md ops l.length k listed = true → wpList P ops Q l a w → wpAny P md ops Q l.length listed a w
  | [], _, _, _, _, _, hB, h => ⟨by simpa [lineB] using hB, h⟩
  | o :: l, k, listed, a, w, hl, hB, h => by
    have h0 : ops[k]? = some o := hl 0 o rfl
    simp only [List.length_cons, lineB, Bool.and_eq_true, decide_eq_true_eq] at hB
    obtain ⟨hr, hB'⟩ := hB
    refine ⟨fun h1 => (by rw [hr] at h1; cases h1), fun j hj => ?_⟩
    rw [hr] at hj
    obtain rfl := List.mem_singleton.1 hj
    have NX : ∀ a' w', wpList P ops Q l a' w' → wpAny P md ops Q l.length (listed.setIfInBounds j true) a' w' := fun a' w' =>
      wpAny_line l (j + 1) _ a' w' (fun i o' ho => by have := hl (i + 1) o' (by simpa using ho); simpa [Nat.add_assoc, Nat.add_comm 1 i] using this) hB'
    unfold wpOp
    simp only [h0]
    unfold wpList at h
    split
    · rename_i hw
      rw [if_pos hw] at h
      exact h.imp (Oper.wp_mono NX) id
    · rename_i hw
      rw [if_neg hw] at h
      exact NX _ _ h
theorem closed_none (md : Region.Mode) (ops : Array Oper) : ClosedL md ops (Array.replicate ops.size false) := by
  intro j oj ho hl
  have := (Array.getElem?_eq_some_iff.1 ho).1
  simp [this] at hl
/-- Both phases, asked of a region's text. -/
def phaseB (ops : Array Oper) (n : Nat) (L : Array Bool) : Bool :=
  Nat.ble n ops.size && Region.noSelect ops && phasedB .any ops n && firstB .any ops n n 0 (Array.replicate ops.size false) L && lineB .any ops (ops.size - n) n L
/-- A region of two phases. -/
theorem wp_region_phase {id : Nat} {Q : Exit → Act → World → Prop} {a : Act} {w : World} {l : List Oper} (n : Nat) (L : Array Bool) (hm : P.follows .mixedOrders = true) (hB : phaseB l.toArray n L = true)
    (h : wpQuiet P l.toArray (fun w' => ∃ n, w' = w.drewN n) (fun a' => ∀ w', (∃ n, w' = w.drewN n) → wpList P l.toArray Q (l.drop n) a' w') (l.take n) a) : (Code.region id l.toArray true).wp P Q a w := by
  unfold phaseB at hB
  simp only [Bool.and_eq_true] at hB
  obtain ⟨⟨⟨⟨h0, h1⟩, h2⟩, h3⟩, h4⟩ := hB
  have hn : n ≤ l.length := by simpa using Nat.le_of_ble_eq_true h0
  refine wp_region_any hm ?_
  have hl1 : (l.take n).length = n := by simp [hn]
  have hl2 : (l.drop n).length = l.toArray.size - n := by simp
  have F := wpFirst_lex (P := P) (C := fun w' => ∃ n, w' = w.drewN n) (L := L) h1 h2 (l.take n) 0 (Array.replicate l.toArray.size false) a (closed_none _ _)
    (fun j o ho => by
      rw [List.getElem?_take] at ho
      split at ho
      · simpa using ho
      · cases ho) (by rw [hl1]; exact h3) h
  have A := wpAny_of_first (Q := Q) (k := l.toArray.size - n) (fun listed a' w' hw' hT => by
    obtain ⟨e, hT⟩ := hT
    subst e
    have := wpAny_line (P := P) (md := .any) (Q := Q) (l.drop n) n _ a' w' (fun j o ho => by rw [List.getElem?_drop] at ho; simpa using ho) (by rw [hl2]; exact h4) (hT w' hw')
    rwa [hl2] at this) _ _ _ (w.drewN 1) ⟨1, rfl⟩ F
  rw [hl1, show l.toArray.size - n + n = l.toArray.size by simp only [List.size_toArray]; omega] at A
  exact A
end
end Go.Proofs.Ytocoghljmlpdeaa
namespace Go.Proofs.Ytocoghljmlpdeaa
open Go.RowKit Go.Maps
attribute [local go_sem] Oper.semAt_some
/-! ### The table -/
/-- A table that can be read: its finals, its followers. -/
structure TbR (w : World) (M N gf : Nat) (aN : Option Addr) (fin : Nat → Bool) (Nx : List Int) : Prop where
  fi : Mrw w gf 4 N (fun q => .bool (fin q)) N
  nx : RdN w aN Nx
  len : Nx.length = N * M
  inr : ∀ x ∈ Nx, 0 ≤ x ∧ x < (N : Int)
theorem TbR.on {w w' : World} {M N gf : Nat} {aN : Option Addr} {fin : Nat → Bool} {Nx : List Int} (h : TbR w M N gf aN fin Nx) (d : Below w.heap.size w w') : TbR w' M N gf aN fin Nx :=
  ⟨h.fi.below d h.fi.lt, h.nx.on d, h.len, h.inr⟩
/-- Where a symbol leads. -/
def dl (Nx : List Int) (M s a : Nat) : Nat := (Nx.getD (s * M + a) 0).toNat
theorem place_lt {N M s a : Nat} (hs : s < N) (ha : a < M) : s * M + a < N * M := by
  have : (s + 1) * M ≤ N * M := Nat.mul_le_mul_right M hs
  rw [Nat.succ_mul] at this
  omega
theorem dl_spec {N M s a : Nat} {Nx : List Int} (hl : Nx.length = N * M) (hi : ∀ x ∈ Nx, 0 ≤ x ∧ x < (N : Int)) (hs : s < N) (ha : a < M) : ∃ h : s * M + a < Nx.length, Nx[s * M + a] = (dl Nx M s a : Int) ∧ dl Nx M s a < N := by
  have h : s * M + a < Nx.length := by rw [hl]; exact place_lt hs ha
  refine ⟨h, ?_⟩
  have := hi _ (List.getElem_mem h)
  have e : Nx.getD (s * M + a) 0 = Nx[s * M + a] := by simp [List.getD, h]
  unfold dl
  rw [e]
  omega
set_option maxRecDepth 100000 in
set_option maxHeartbeats 1000000 in
theorem follow_rd (w : World) (M N s a lN cN : Nat) (vF : Option Addr) (lF cF : Nat) (aN : Option Addr) (Nx : List Int) (hn : RdN w aN Nx) (hl : Nx.length = N * M) (hi : ∀ x ∈ Nx, 0 ≤ x ∧ x < (N : Int)) (hlN : lN = N * M) (hs : s < N) (ha : a < M) (hNM : N * M ≤ 4194304) (hM : M ≤ 4194304) (_hN : N ≤ 4194304) :
    Calls Try.prog 35 #[.agg #[.int .i64 (M : Int), .slice vF lF cF, .slice aN lN cN], .int .i64 (s : Int), .int .i64 (a : Int)] w fun e w' => e = .returned (.int .i64 (dl Nx M s a : Int)) ∧ Below w.heap.size w w' := by
  obtain ⟨W0, hW0⟩ : ∃ W0, w.alloc (.cells #[.int .i64 (M : Int), .slice vF lF cF, .slice aN lN cN] 60) = W0 := ⟨_, rfl⟩
  have d0 : Below w.heap.size w W0 := by rw [← hW0]; exact (Below.refl _ _).alloc (Nat.le_refl _) _
  have B0 : W0.heap[w.heap.size]? = some (.cells #[.int .i64 (M : Int), .slice vF lF cF, .slice aN lN cN] 60 (0, 0)) := by rw [← hW0]; exact World.alloc_heap_new _ _
  have k0 : W0.cell? ⟨w.heap.size, 0, none⟩ = some (.int .i64 (M : Int)) := cell_of B0 rfl
  have k2 : W0.cell? ⟨w.heap.size, 2, none⟩ = some (.slice aN lN cN) := cell_of B0 rfl
  obtain ⟨h1, h2, h3⟩ := dl_spec hl hi hs ha
  obtain ⟨g, o, rfl, c⟩ := (hn.on d0) _ h1
  rw [h2] at c
  obtain ⟨k, hk⟩ : ∃ k, s * M + a = k := ⟨_, rfl⟩
  have hkl : k < lN := by rw [← hk, hlN]; exact place_lt hs ha
  have esm : (s : Int) * (M : Int) = ((s * M : Nat) : Int) := by simp
  have e1 : IntKind.i64.wrap ((s : Int) * (M : Int)) = (s : Int) * (M : Int) := by
    have : s * M ≤ 4194304 := by omega
    rw [esm, IntKind.wrap_i64]; omega
  have e2 : IntKind.i64.wrap ((s : Int) * (M : Int) + (a : Int)) = (k : Int) := by rw [esm, IntKind.wrap_i64]; omega
  rw [hk] at c
  have v0 : (0 : Int) ≤ (k : Int) := by omega
  have v1 : (k : Int) < (lN : Int) := by omega
  generalize dl Nx M s a = q at *
  have HD := hide d0
  clear d0 B0 hn hl hi hlN h2 h3 hk esm h1
  go_enter Try.func35, Try.ntmps35
  go_wp2
  go_ret
  exact ⟨rfl, HD.out⟩
end Go.Proofs.Ytocoghljmlpdeaa
namespace Go.Proofs.Ytocoghljmlpdeaa
open Go.Shelf
open Go.RowKit Go.Lib in
def Try.lays212_ren : Go.Shelf.Ren := ⟨fun | 212 => 68 | 263 => 75 | 264 => 76 | n => n, fun | 46 => 105 | 51 => 114 | 146 => 115 | 53 => 117 | 148 => 118 | n => n, fun | n => n⟩
theorem Try.lays212 : Go.Proofs.Lays.n212 Try.prog Try.lays212_ren := {
  mixed := by kernel_rfl
  f212 := Try.func68.trans (congrArg some (by kernel_rfl))
  f263 := Try.func75.trans (congrArg some (by kernel_rfl))
  f264 := Try.func76.trans (congrArg some (by kernel_rfl))
  t46 := Try.underlying105
  a46 := Try.isAgg105
  z46 := Try.sizeOf105
  v46 := Try.zeroValue105
  t51 := Try.underlying114
  a51 := Try.isAgg114
  z51 := Try.sizeOf114
  v51 := Try.zeroValue114
  t53 := Try.underlying117
  a53 := Try.isAgg117
  z53 := Try.sizeOf117
  v53 := Try.zeroValue117
  t146 := Try.underlying115
  a146 := Try.isAgg115
  z146 := Try.sizeOf115
  v146 := Try.zeroValue115
  t148 := Try.underlying118
  a148 := Try.isAgg118
  z148 := Try.sizeOf118
  v148 := Try.zeroValue118 }
open Go.RowKit Go.Lib in
theorem Try.bits_Mul (x y : Nat) (hx : x < 18446744073709551616) (hy : y < 18446744073709551616) (w : World) :
    Calls Try.prog 68 #[.int .u64 x, .int .u64 y] w fun e w' => e = .returned (.tuple #[.int .u64 ((x * y / 18446744073709551616 : Nat) : Int), .int .u64 ((x * y % 18446744073709551616 : Nat) : Int)]) ∧ w' = w := Any.bits_Mul Try.lays212 x y hx hy w
open Go.Lib in
open Go.Lib in
open Go.Lib in
open Go.Lib in
def Try.lays112_ren : Go.Shelf.Ren := ⟨fun | 112 => 58 | n => n, fun | 28 => 22 | 3 => 3 | 4 => 4 | 0 => 0 | n => n, fun | n => n⟩
theorem Try.lays112 : Go.Proofs.Lays.n112 Try.prog Try.lays112_ren := {
  mixed := by kernel_rfl
  f112 := Try.func58.trans (congrArg some (by kernel_rfl))
  t0 := Try.underlying0
  a0 := Try.isAgg0
  z0 := Try.sizeOf0
  v0 := Try.zeroValue0
  t3 := Try.underlying3
  a3 := Try.isAgg3
  z3 := Try.sizeOf3
  v3 := Try.zeroValue3
  t4 := Try.underlying4
  a4 := Try.isAgg4
  z4 := Try.sizeOf4
  v4 := Try.zeroValue4
  t28 := Try.underlying22
  a28 := Try.isAgg22
  z28 := Try.sizeOf22
  v28 := Try.zeroValue22 }
open Go.RowKit Go.Lib Go.Sort in
theorem Try.slices_Reverse_int (blk off cap : Nat) (zs : List Int) (w : World) (hH : Holds (Value.int .i64) w blk off zs.toArray) (hsz : zs.length ≤ 9223372036854775807) :
    Calls Try.prog 58 #[.slice (some ⟨blk, off, none⟩) zs.length cap] w fun e w' => e = .returned (.tuple #[]) ∧ ∃ n, w' = putRow (Value.int .i64) (Sort.ahead w n) blk off zs.reverse.toArray := Any.slices_Reverse_int Try.lays112 blk off cap zs w hH hsz
open Go.RowKit Go.Lib Go.Sort in
theorem Try.slices_Reverse_int_empty (a : Option Addr) (cap : Nat) (w : World) :
    Calls Try.prog 58 #[.slice a 0 cap] w fun e w' => e = .returned (.tuple #[]) ∧ w' = w := Any.slices_Reverse_int_empty Try.lays112 a cap w
open Go.RowKit Go.Maps Go.Sort Go.Proofs
theorem reverse_own (W : World) (B n : Nat) (v : Value) (L : List Int) (hn : n = L.length) (hv : W.ownsRow B 3 1 v n (L.map (Value.int .i64))) (hl : n ≤ 4194304) :
    Calls Try.prog 58 #[v] W fun e w' => e = .returned (.tuple #[]) ∧ w'.ownsRow B 3 1 v n (L.reverse.map (Value.int .i64)) ∧ W.grownBy w' v.ownBlock := by
  rcases hv.2 with ⟨ev, e0⟩ | ⟨g, cap, cur, rfl, hB, hb, h1, h2, h3, h4⟩
  · subst ev e0
    obtain rfl : L = [] := List.eq_nil_of_length_eq_zero hn.symm
    refine (Try.slices_Reverse_int_empty none 0 W).mono ?_
    rintro e w' ⟨rfl, rfl⟩
    exact ⟨rfl, hv, rfl, rfl, rfl, Nat.le_refl _, fun _ _ _ => rfl⟩
  · subst hn
    rw [Nat.mul_one] at h4
    refine (Try.slices_Reverse_int g 0 cap L W (holds_of_blockI hb h4) (by omega)).mono ?_
    rintro e w' ⟨rfl, k, rfl⟩
    rw [← grow_empty (putRow _ _ _ _ _)]
    exact ⟨rfl, ownsRow_sortedI (ts := L.reverse) (ss := L) (List.length_reverse) hB hb h1 h2 h3, grownBy_sortedI _⟩
end Go.Proofs.Ytocoghljmlpdeaa
namespace Go.Proofs.Ytocoghljmlpdeaa
open Go.RowKit Go.Maps
attribute [local go_sem] Oper.semAt_some
/-! ### Words by their steps; finals -/
theorem info4 : (Try.prog.info? 4).map (fun i => (i.zero, i.size, i.bytes)) = some (some (.bool false), 1, 1) := by kernel_rfl
theorem info22 : (Try.prog.info? 22).map (fun i => (i.zero, i.size, i.bytes)) = some (some (.slice none 0 0), 1, 24) := by kernel_rfl
def OwI (W : World) (B : Nat) (v : Value) (L : List Int) : Prop := W.ownsRow B 3 1 v L.length (L.map (Value.int .i64))
theorem owI_nil (W : World) (B : Nat) : OwI W B (.slice none 0 0) [] := World.ownsRow_nil _ _ _ _
theorem owI_rd {W : World} {B c : Nat} {b : Option Addr} {n : Nat} {X : List Int} (h : OwI W B (.slice b n c) X) : n = X.length ∧ RdN W b X := by
  unfold OwI at h
  rcases h.2 with ⟨hv, hn⟩ | ⟨g, cap, cur, hv, hB, hg, h1, h2, h3, h4⟩
  · cases hv
    exact ⟨hn.symm, fun j hj => by omega⟩
  · cases hv
    refine ⟨rfl, fun j hj => ⟨g, 0, rfl, ?_⟩⟩
    rw [Nat.mul_one] at h4
    have e : cur.toList[j]? = some (.int .i64 X[j]) := by
      have q : (cur.toList.take X.length)[j]? = (X.map (Value.int .i64))[j]? := by rw [h4]
      rw [List.getElem?_take_of_lt hj] at q
      rw [q]
      simp [hj]
    rw [Nat.zero_add]
    exact cell_of hg (by simpa using e)
/-- A number behind a row of one's own. -/
theorem wpList_appI {ops : Array Oper} {rest : List Oper} {o : Oper} {a : Act} {Q : Exit → Act → World → Prop} {w : World} (hgd : o.guard = none) (s x : Operand)
    (ho : o.op = .call { callee := .builtin .append, args := #[s, x], argTypes := #[22, 22] }) (B : Nat) (v : Value) (X : List Int) (hs : a.eval s = v) (hown : OwI w B v X) (p : Nat) (y : Int) (hx : a.eval x = .slice (some ⟨p, 0, none⟩) 1 1) (hp : w.heap[p]? = some (.cells #[.int .i64 y] 3 (0, 0))) (hl : X.length ≤ 16777216) (hB : B ≤ w.heap.size)
    (h : ∀ b n c w', Hid (OwI w' B (.slice b n c) (X ++ [y])) → Hid (n = X.length + 1) → Hid (Only w w' (fun k => v.ownBlock = some k)) → Hid ((Value.slice b n c).ownBlock = v.ownBlock ∨ (Value.slice b n c).ownBlock = some w.heap.size) → wpList Try.prog ops Q rest (a.put o.dst (.slice b n c)) w') : wpList Try.prog ops Q (o :: rest) a w := by
  obtain ⟨i3, hi3, hz30, hz31, hz32⟩ := info_parts info3
  refine wpList_append_own_at _ hgd s x 22 ho B 3 i3 _ 1 8 Try.underlying22 hi3 hz30 hz31 hz32 rfl (by omega) v X.length (X.map (Value.int .i64)) hs hown ⟨p, 0, none⟩ 1 1 [.int .i64 y] hx rfl (one_cells hp) (by simp [Value.oneCell']) (by unfold maxLen; omega) (by omega) (by omega) ?_
  intro v2 w2 h2 hgr _ hn
  have h3 : OwI w2 B v2 (X ++ [y]) := by unfold OwI; rw [List.map_append, List.length_append]; exact h2
  obtain ⟨b, c, rfl⟩ := own_slice h2
  exact h b _ c w2 (hide h3) (hide rfl) (hide (grown_only hgr)) (hide hn)
/-- Steps that can be read. -/
def RdS (W : World) (ao : Option Addr) (L : List (Int × Int)) : Prop := ∀ (j : Nat) (h : j < L.length), ∃ g o, ao = some ⟨g, o, none⟩ ∧ W.cell? ⟨g, o + j * 2, none⟩ = some (.int .i64 L[j].1) ∧ W.cell? ⟨g, o + j * 2 + 1, none⟩ = some (.int .i64 L[j].2)
theorem RdS.on {W W' : World} {ao : Option Addr} {L : List (Int × Int)} (h : RdS W ao L) (d : Below W.heap.size W W') : RdS W' ao L := fun j hj => by
  obtain ⟨g, o, rfl, c1, c2⟩ := h j hj
  have hg : g < W.heap.size := World.block_lt_of_cell? W ⟨g, o + j * 2, none⟩ c1
  exact ⟨g, o, rfl, (d.cell (p := ⟨g, o + j * 2, none⟩) hg).trans c1, (d.cell (p := ⟨g, o + j * 2 + 1, none⟩) hg).trans c2⟩
/-- The words by their numbers. -/
def WdOf (St : List (Int × Int)) (wd : Nat → List Int) : Prop := ∀ n (h : n < St.length), (St[n].1 < 0 ∧ wd n = []) ∨ ∃ p : Nat, p < n ∧ St[n].1 = (p : Int) ∧ wd n = wd p ++ [St[n].2]
set_option maxRecDepth 100000 in
set_option maxHeartbeats 2000000 in
theorem word_any (w : World) (ao : Option Addr) (L c n : Nat) (St : List (Int × Int)) (wd : Nat → List Int) (hL : St.length = L) (hr : RdS w ao St) (hw : WdOf St wd) (hn : n < L) (hl : L ≤ 4194304) :
    Calls Try.prog 36 #[.slice ao L c, .int .i64 (n : Int)] w fun e w' => ∃ b m k, e = .returned (.slice b m k) ∧ Hid (OwI w' w.heap.size (.slice b m k) (wd n)) ∧ Below w.heap.size w w' := by
  have HR := hide (And.intro hr (And.intro hw hL))
  clear hr hw hL
  go_enter Try.func36, Try.ntmps36
  go_upto_region 1 with fail
  go_wp2_with fail
  go_loopw [1, 5] (fun iv sv wr => ∃ i : Nat, i ≤ n ∧ iv = .int .i64 (i : Int) ∧ ∃ b m k X, sv = .slice b m k ∧ Hid (OwI wr w.heap.size (.slice b m k) X ∧ wd n = wd i ++ X.reverse ∧ i + X.length ≤ n ∧ Below w.heap.size w wr)) (fun iv _ _ => (intOf iv).toNat)
  case atStart => exact ⟨n, Nat.le_refl _, rfl, none, 0, 0, [], rfl, hide ⟨owI_nil _ _, by simp, by simp, Below.refl _ _⟩⟩
  case round =>
    obtain ⟨i, hi, rfl, b, m, k, X, rfl, HY⟩ := hrel
    have hiL : i < St.length := by have := HR.out.2.2; omega
    obtain ⟨g, o, rfl, c1, c2⟩ := (HR.out.1.on HY.out.2.2.2) i hiL
    have i0 : (0 : Int) ≤ (i : Int) := by omega
    have i1 : (i : Int) < (L : Int) := by omega
    rcases HR.out.2.1 i hiL with ⟨e1, e2⟩ | ⟨p, hp, e1, e2⟩
    · have HE := hide e2
      clear e2
      generalize St[i].1 = x at *
      have x0 : ¬ (0 ≤ x) := by omega
      have OW := HY.out.1
      obtain ⟨em, -⟩ := owI_rd OW
      have hXl := HY.out.2.2.1
      have TR := reverse_own wr w.heap.size m (.slice b m k) X em (by unfold OwI at OW; rw [em]; rw [em] at OW; exact OW) (by omega)
      clear em OW
      go_wp2_with (go_at_call 58; refine TR.mono ?_; rintro e w2 ⟨rfl, h1, h2⟩)
      go_ret
      refine ⟨b, m, k, rfl, hide ?_, ?_⟩
      · have e3 := HY.out.2.1
        rw [HE.out, List.nil_append] at e3
        rw [e3]
        have em := (owI_rd HY.out.1).1
        unfold OwI
        rw [List.length_reverse, ← em]
        exact h1
      · exact HY.out.2.2.2.grown h2 HY.out.2.2.2.size (fun q hq => (HY.out.1.lt q hq).1)
    · have HC : Hid (∀ W, Below w.heap.size w W → W.cell? ⟨g, o + i * 2, none⟩ = some (.int .i64 (p : Int)) ∧ True) := hide (fun W d => by
        obtain ⟨g', o', e, q1, _⟩ := (HR.out.1.on d) i hiL
        cases e
        rw [e1] at q1
        exact ⟨q1, trivial⟩)
      rw [e1] at c1
      have p0 : (0 : Int) ≤ (p : Int) := by omega
      have hXl := HY.out.2.2.1
      have HE := hide e2
      clear e1 e2
      generalize hx : St[i].2 = x at *
      have dA : ∀ o : Obj, Below wr.heap.size wr (wr.alloc o) := fun o => (Below.refl _ _).alloc (Nat.le_refl _) _
      have hB := HY.out.2.2.2.size
      go_wp2_with (at_builtin; refine wpList_appI rfl (.tmp 17) (.tmp 23) rfl w.heap.size (.slice b m k) X rfl (own_below HY.out.1 (dA _)) wr.heap.size x rfl (World.alloc_heap_new _ _) (by omega) (by simp; omega) ?_; intro b2 m2 k2 w2 h1 h2 h3 h4; have D2 : Below w.heap.size w w2 := (HY.out.2.2.2.trans ((dA _).mono hB)).trans (h3.out.toBelow (by simp; omega) (fun q hq => (HY.out.1.lt q hq).1)); have c3 : w2.cell? ⟨g, o + i * 2, none⟩ = some (.int .i64 (p : Int)) := (HC.out w2 D2).1; have HN := hide (And.intro D2 h1.out); clear D2 h1 h2 h3 h4)
      go_roundw
      case rel => exact ⟨p, by omega, rfl, b2, m2, k2, X ++ [x], rfl, hide ⟨HN.out.2, by rw [HY.out.2.1, HE.out]; simp, by simp; omega, HN.out.1⟩⟩
      case measure => simp [intOf]; omega
theorem rdN_ne {w : World} {g o gf t N k : Nat} {L : List Int} {f : Nat → Bool} (hr : RdN w (some ⟨g, o, none⟩) L) (hL : 0 < L.length) (hM : Mrw w gf t N (fun q => .bool (f q)) k) (hk : k = N) : g ≠ gf := by
  rintro rfl
  obtain ⟨g', o', e, c⟩ := hr 0 hL
  cases e
  subst hk
  by_cases h : o < k
  · have := hM.at o h
    rw [Nat.add_zero] at c
    rw [this] at c
    cases c
  · obtain ⟨cur, h1, h2, _⟩ := hM
    unfold World.cell? at c
    rw [h1] at c
    have : cur[o]? = none := Array.getElem?_eq_none (by omega)
    simp [this] at c
set_option maxRecDepth 100000 in
set_option maxHeartbeats 1000000 in
theorem end_any (w : World) (M N gf lF cF lN cN bh : Nat) (aN aF : Option Addr) (fin : Nat → Bool) (Fi : List Int) (hM : Mrw w gf 4 N (fun q => .bool (fin q)) N) (hF : RdN w aF Fi) (hl : Fi.length = lF) (hin : ∀ x ∈ Fi, 0 ≤ x ∧ (bh : Int) + x < (N : Int)) (hlF : lF ≤ 4194304) (hN : N ≤ 4194304) :
    Calls Try.prog 57 #[.agg #[.int .i64 (M : Int), .slice (some ⟨gf, 0, none⟩) N N, .slice aN lN cN], .slice aF lF cF, .int .i64 (bh : Int)] w fun e w' => e = .returned (.tuple #[]) ∧ Hid (Mrw w' gf 4 N (fun q => .bool (fin q || decide ((q : Int) - bh ∈ Fi))) N ∧ Only w w' (fun k => k = gf)) := by
  obtain ⟨W0, hW0⟩ : ∃ W0, w.alloc (.cells #[.int .i64 (M : Int), .slice (some ⟨gf, 0, none⟩) N N, .slice aN lN cN] 60) = W0 := ⟨_, rfl⟩
  have d0 : Below w.heap.size w W0 := by rw [← hW0]; exact (Below.refl _ _).alloc (Nat.le_refl _) _
  have B0 : W0.heap[w.heap.size]? = some (.cells #[.int .i64 (M : Int), .slice (some ⟨gf, 0, none⟩) N N, .slice aN lN cN] 60 (0, 0)) := by rw [← hW0]; exact World.alloc_heap_new _ _
  have HD := hide (And.intro d0 B0)
  have HR := hide (And.intro hM (And.intro hF (And.intro hl hin)))
  have hgl := hM.lt
  clear d0 B0 hM hF hl hin
  go_enter Try.func57, Try.ntmps57
  go_wp2_with fail
  go_loopw [10] (fun iv wr => ∃ i : Nat, i ≤ lF ∧ iv = .int .i64 (i : Int) ∧ Hid (Mrw wr gf 4 N (fun q => .bool (fin q || decide ((q : Int) - bh ∈ Fi.take i))) N ∧ Only W0 wr (fun k => k = gf))) (fun iv _ => lF - (intOf iv).toNat)
  case atStart => exact ⟨0, Nat.zero_le _, rfl, hide ⟨(HR.out.1.below HD.out.1 hgl).congr (fun c _ => by simp), Only.ofBelow (Below.refl _ _)⟩⟩
  case round =>
    obtain ⟨i, hi, rfl, HY⟩ := hrel
    by_cases hlt : i < lF
    · have l0 : (i : Int) < (lF : Int) := by omega
      have i0 : (0 : Int) ≤ (i : Int) := by omega
      have hir : i < Fi.length := by have := HR.out.2.2.1; omega
      obtain ⟨g, o, rfl, r1⟩ := (HR.out.2.1.on HD.out.1) i hir
      have hg0 : g < W0.heap.size := World.block_lt_of_cell? W0 ⟨g, o + i, none⟩ r1
      have r2 : wr.cell? ⟨g, o + i, none⟩ = some (.int .i64 Fi[i]) := (World.cell?_of_block (HY.out.2.block g hg0 (rdN_ne HR.out.2.1 (by omega) HR.out.1 rfl))).trans r1
      have HI := hide (And.intro hir (HR.out.2.2.2 Fi[i] (List.getElem_mem hir)))
      have HT := hide (show Fi.take (i + 1) = Fi.take i ++ [Fi[i]] by rw [List.take_add_one, List.getElem?_eq_getElem hir]; rfl)
      obtain ⟨x, hx⟩ : ∃ x, Fi[i] = x := ⟨_, rfl⟩
      rw [hx] at r2 HI HT
      clear r1 hx
      obtain ⟨k, rfl⟩ : ∃ k : Nat, x = (k : Int) := ⟨x.toNat, by have := HI.out.2.1; omega⟩
      have hkN : bh + k < N := by have := HI.out.2.2; omega
      obtain ⟨q, hq⟩ : ∃ q, bh + k = q := ⟨_, rfl⟩
      have HQ := hide hq
      rw [hq] at hkN
      have ws : IntKind.i64.wrap ((bh : Int) + (k : Int)) = (q : Int) := by rw [IntKind.wrap_i64]; omega
      have v0 : (0 : Int) ≤ (q : Int) := by omega
      have v1 : (q : Int) < (N : Int) := by omega
      have bW := (HY.out.2.block w.heap.size (Array.getElem?_eq_some_iff.1 HD.out.2).1 (by omega)).trans HD.out.2
      have k1 : wr.cell? ⟨w.heap.size, 1, none⟩ = some (.slice (some ⟨gf, 0, none⟩) N N) := cell_of bW rfl
      obtain ⟨u, cu⟩ := HY.out.1.cell q hkN
      have zu : wr.frozen? ⟨gf, q, none⟩ = false := HY.out.1.fz q
      clear bW hq
      go_wp2_with fail
      have J := hide (And.intro ((HY.out.1.upd q (.bool true)).congr (g := fun q => .bool (fin q || decide ((q : Int) - bh ∈ Fi.take (i + 1)))) (fun c _ => by
        rw [HT.out]
        by_cases e : c = q
        · subst e
          have : (c : Int) - bh = (k : Int) := by have := HQ.out; omega
          simp [this]
        · have : ¬ ((c : Int) - bh = (k : Int)) := by have := HQ.out; omega
          simp [e, this])) (HY.out.2.trans (only_set wr gf q (.bool true))))
      go_roundw
      case rel => exact ⟨i + 1, by omega, by go_num, J⟩
      case measure => simp [intOf]; omega
    · have l0 : ¬ (i : Int) < (lF : Int) := by omega
      obtain rfl : i = lF := by omega
      go_wp2_with fail
      go_end0
      have hY := HY.out
      rw [← HR.out.2.2.1, List.take_length] at hY
      exact ⟨rfl, hide ⟨hY.1, (Only.ofBelow HD.out.1).andNew hY.2 (fun _ _ h => h)⟩⟩
/-! ### tableOf -/
theorem two_al (w : World) (A Z : Array Value) (t u : TypeId) : Below w.heap.size w ((w.alloc (.cells A t)).alloc (.cells Z u)) ∧ ((w.alloc (.cells A t)).alloc (.cells Z u)).heap[w.heap.size]? = some (.cells A t (0, 0)) ∧ ((w.alloc (.cells A t)).alloc (.cells Z u)).heap[w.heap.size + 1]? = some (.cells Z u (0, 0)) ∧ ((w.alloc (.cells A t)).alloc (.cells Z u)).heap.size = w.heap.size + 2 := by
  refine ⟨((Below.refl _ _).alloc (Nat.le_refl _) _).alloc (by simp) _, (Below.heap_alloc _ _ _ (by simp)).trans (World.alloc_heap_new _ _), ?_, by simp⟩
  have := World.alloc_heap_new (w.alloc (.cells A t)) (.cells Z u)
  simpa using this
theorem set3 (w : World) (b : Nat) (v0 v1 v2 u0 u1 u2 : Value) (t : TypeId) (h : w.heap[b]? = some (.cells #[v0, v1, v2] t (0, 0))) : (((w.setCell ⟨b, 0, none⟩ u0).setCell ⟨b, 1, none⟩ u1).setCell ⟨b, 2, none⟩ u2).heap[b]? = some (.cells #[u0, u1, u2] t (0, 0)) :=
  heap_setCell_same _ _ 2 _ t _ (heap_setCell_same _ _ 1 _ t _ (heap_setCell_same _ _ 0 _ t _ h))
theorem set1 (w : World) (b : Nat) (v0 u0 : Value) (t : TypeId) (h : w.heap[b]? = some (.cells #[v0] t (0, 0))) : (w.setCell ⟨b, 0, none⟩ u0).heap[b]? = some (.cells #[u0] t (0, 0)) := heap_setCell_same _ _ 0 _ t _ h
theorem set2 (w : World) (b : Nat) (v0 v1 u0 u1 : Value) (t : TypeId) (h : w.heap[b]? = some (.cells #[v0, v1] t (0, 0))) : ((w.setCell ⟨b, 0, none⟩ u0).setCell ⟨b, 1, none⟩ u1).heap[b]? = some (.cells #[u0, u1] t (0, 0)) :=
  heap_setCell_same _ _ 1 _ t _ (heap_setCell_same _ _ 0 _ t _ h)
theorem set5 (w : World) (b : Nat) (v0 v1 v2 v3 v4 u0 u1 u2 u3 u4 : Value) (t : TypeId) (h : w.heap[b]? = some (.cells #[v0, v1, v2, v3, v4] t (0, 0))) :
    (((((w.setCell ⟨b, 0, none⟩ u0).setCell ⟨b, 1, none⟩ u1).setCell ⟨b, 2, none⟩ u2).setCell ⟨b, 3, none⟩ u3).setCell ⟨b, 4, none⟩ u4).heap[b]? = some (.cells #[u0, u1, u2, u3, u4] t (0, 0)) :=
  heap_setCell_same _ _ 4 _ t _ (heap_setCell_same _ _ 3 _ t _ (heap_setCell_same _ _ 2 _ t _ (heap_setCell_same _ _ 1 _ t _ (heap_setCell_same _ _ 0 _ t _ h))))
theorem only5 (w : World) (b : Nat) (u0 u1 u2 u3 u4 : Value) : Only w (((((w.setCell ⟨b, 0, none⟩ u0).setCell ⟨b, 1, none⟩ u1).setCell ⟨b, 2, none⟩ u2).setCell ⟨b, 3, none⟩ u3).setCell ⟨b, 4, none⟩ u4) (fun k => k = b) :=
  ((((only_set w _ 0 _).trans (only_set _ _ 1 _)).trans (only_set _ _ 2 _)).trans (only_set _ _ 3 _)).trans (only_set _ _ 4 _)
theorem mrw_make {W : World} {g t n : Nat} {z : Value} (hz : z.cells = #[z]) (h : W.heap[g]? = some (.cells (madeCells z.cells (n * 1)) t (0, 0))) : Mrw W g t n (fun _ => z) n := by
  refine ⟨_, h, by rw [size_madeCells]; omega, fun j hj => ?_⟩
  rw [← Array.getElem?_toList, hz, Nat.mul_one, toList_madeCells_one, List.getElem?_replicate, if_pos hj]
set_option maxRecDepth 100000 in
set_option maxHeartbeats 4000000 in
theorem tableOf_any (w : World) (N M lF cF lN cN : Nat) (st : Int) (aF aN : Option Addr) (Fi : List Int) (hF : RdN w aF Fi) (hl : Fi.length = lF) (hin : ∀ x ∈ Fi, 0 ≤ x ∧ x < (N : Int)) (hlF : lF ≤ 4194304) (hN : N ≤ 4194304) :
    Calls Try.prog 34 #[.agg #[.int .i64 (N : Int), .int .i64 (M : Int), .int .i64 st, .slice aF lF cF, .slice aN lN cN]] w fun e w' => ∃ gf, e = .returned (.agg #[.int .i64 (M : Int), .slice (some ⟨gf, 0, none⟩) N N, .slice aN lN cN]) ∧ Hid (w.heap.size ≤ gf ∧ Mrw w' gf 4 N (fun q => .bool (decide ((q : Int) ∈ Fi))) N) ∧ Below w.heap.size w w' := by
  obtain ⟨i9, hi9, hz90, hz91, hz92⟩ := info_parts info4
  obtain ⟨C, hC⟩ : ∃ C, C = madeCells (Value.bool false).cells (N * 1) := ⟨_, rfl⟩
  have hmk : ∀ W : World, (Instr.makeSlice 58 (.int .i64 (N : Int)) (.int .i64 (N : Int))).run Try.prog W = .ok (.slice (some ⟨W.heap.size, 0, none⟩) N N) (W.alloc (.cells C 4)) := fun W => by
    have h := run_make (P := Try.prog) W 58 4 i9 (.bool false) Try.underlying58 hi9 hz90 .i64 .i64 (N : Int) (N : Int) (by omega) (by omega) (by rw [hz92]; omega) (by omega)
    rw [hz91, Int.toNat_natCast, ← hC] at h
    exact h
  have HM := hide hC
  clear hC hi9 hz90 hz91 hz92
  obtain ⟨W0, hW0⟩ : ∃ W0, (w.alloc (.cells #[.int .i64 (N : Int), .int .i64 (M : Int), .int .i64 st, .slice aF lF cF, .slice aN lN cN] 24)).alloc (.cells #[.int .i64 0, .slice none 0 0, .slice none 0 0] 60) = W0 := ⟨_, rfl⟩
  have HD := hide (two_al w #[.int .i64 (N : Int), .int .i64 (M : Int), .int .i64 st, .slice aF lF cF, .slice aN lN cN] #[.int .i64 0, .slice none 0 0, .slice none 0 0] 24 60)
  rw [hW0] at HD
  have B0 := HD.out.2.1
  have k0 : W0.cell? ⟨w.heap.size, 0, none⟩ = some (.int .i64 (N : Int)) := cell_of B0 rfl
  have k1 : W0.cell? ⟨w.heap.size, 1, none⟩ = some (.int .i64 (M : Int)) := cell_of B0 rfl
  have k4 : W0.cell? ⟨w.heap.size, 4, none⟩ = some (.slice aN lN cN) := cell_of B0 rfl
  have HR := hide (And.intro hF (And.intro hl hin))
  clear B0 hF hl hin
  go_enter Try.func34, Try.ntmps34
  go_upto_region 1 with fail
  go_cut [3] from 3 to 11 (fun p3 W => ∃ b g, p3 = .pointer (some ⟨b, 0, none⟩) ∧ Hid (W.heap[b]? = some (.cells #[.int .i64 (M : Int), .slice (some ⟨g, 0, none⟩) N N, .slice aN lN cN] 60 (0, 0)) ∧ W.heap[g]? = some (.cells C 4 (0, 0)) ∧ b ≠ g ∧ W0.heap.size ≤ b ∧ W0.heap.size ≤ g ∧ Below W0.heap.size W0 W))
  case first =>
    go_region_held3 (fun W2 => W2.cell? ⟨w.heap.size, 0, none⟩ = some (.int .i64 (N : Int)) ∧ W2.cell? ⟨w.heap.size, 1, none⟩ = some (.int .i64 (M : Int)) ∧ W2.cell? ⟨w.heap.size, 4, none⟩ = some (.slice aN lN cN))
      (first | go_keep | assumption)
      (fail)
    · go_wp2_with fail
      go_meet
      refine ⟨W0.heap.size + 1, W0.heap.size, rfl, hide ?_⟩
      have q := two_al W0 C #[.int .i64 (M : Int), .slice (some ⟨W0.heap.size, 0, none⟩) N N, .slice aN lN cN] 4 60
      exact ⟨q.2.2.1, q.2.1, by omega, by omega, by omega, q.1.drew⟩
    · go_wp2_with fail
      go_meet
      refine ⟨W0.heap.size, W0.heap.size + 1, rfl, hide ?_⟩
      have q := two_al W0 #[.int .i64 (M : Int), .slice (some ⟨W0.heap.size + 1, 0, none⟩) N N, .slice aN lN cN] C 60 4
      exact ⟨q.2.1, q.2.2.1, by omega, by omega, by omega, q.1.drew⟩
  case rest =>
    obtain ⟨b, g, rfl, HX⟩ := hcut
    rename World => wx
    clear hmk k0 k1 k4
    have m0 : Mrw wx g 4 N (fun _ => .bool false) N := mrw_make rfl (by rw [← HM.out]; exact HX.out.2.1)
    have Dx := HD.out.1.trans (HX.out.2.2.2.2.2.mono HD.out.1.size)
    have TE := end_any wx M N g lF cF lN cN 0 aN aF (fun _ => false) Fi m0 (HR.out.1.on Dx) HR.out.2.1 (fun x hx => by have := HR.out.2.2 x hx; omega) hlF hN
    have x0 : wx.cell? ⟨b, 0, none⟩ = some (.int .i64 (M : Int)) := cell_of HX.out.1 rfl
    have x1 : wx.cell? ⟨b, 1, none⟩ = some (.slice (some ⟨g, 0, none⟩) N N) := cell_of HX.out.1 rfl
    have x2 : wx.cell? ⟨b, 2, none⟩ = some (.slice aN lN cN) := cell_of HX.out.1 rfl
    have B1 := blk_on HD.out.2.1 HX.out.2.2.2.2.2
    have x3 : wx.cell? ⟨w.heap.size, 3, none⟩ = some (.slice aF lF cF) := cell_of B1 rfl
    clear B1
    go_upto_region 3 with (go_at_call 57; refine TE.mono ?_; rintro e w2 ⟨rfl, HE⟩)
    have hbg := HX.out.2.2.1
    have Bb := (HE.out.2.block b (Array.getElem?_eq_some_iff.1 HX.out.1).1 hbg).trans HX.out.1
    have y0 : w2.cell? ⟨b, 0, none⟩ = some (.int .i64 (M : Int)) := cell_of Bb rfl
    have y1 : w2.cell? ⟨b, 1, none⟩ = some (.slice (some ⟨g, 0, none⟩) N N) := cell_of Bb rfl
    have y2 : w2.cell? ⟨b, 2, none⟩ = some (.slice aN lN cN) := cell_of Bb rfl
    have B2 := blk_on HD.out.2.2.1 HX.out.2.2.2.2.2
    have hs := HD.out.2.2.2
    have hsg := HX.out.2.2.2.2.1
    have hsb := HX.out.2.2.2.1
    have F3 := (HE.out.2.block (w.heap.size + 1) (Array.getElem?_eq_some_iff.1 B2).1 (by omega)).trans B2
    have o0 : w2.cell? ⟨w.heap.size + 1, 0, none⟩ = some (.int .i64 0) := cell_of F3 rfl
    have o1 : w2.cell? ⟨w.heap.size + 1, 1, none⟩ = some (.slice none 0 0) := cell_of F3 rfl
    have o2 : w2.cell? ⟨w.heap.size + 1, 2, none⟩ = some (.slice none 0 0) := cell_of F3 rfl
    have f0 : w2.frozen? ⟨w.heap.size + 1, 0, none⟩ = false := fz_of F3
    have f1 : w2.frozen? ⟨w.heap.size + 1, 1, none⟩ = false := fz_of F3
    have f2 : w2.frozen? ⟨w.heap.size + 1, 2, none⟩ = false := fz_of F3
    have O6 := hide (And.intro (set3 w2 (w.heap.size + 1) _ _ _ (.int .i64 (M : Int)) (.slice (some ⟨g, 0, none⟩) N N) (.slice aN lN cN) 60 F3) (only3 w2 (w.heap.size + 1) 0 1 2 (.int .i64 (M : Int)) (.slice (some ⟨g, 0, none⟩) N N) (.slice aN lN cN)))
    clear Bb B2 F3
    go_wp2_with fail
    refine bodyPost_ret (results_cell_row (p := 2) (ty := 60) rfl _ _ (w.heap.size + 1) 60 _ (0, 0) _ rfl O6.out.1 Try.underlying60 rfl (by kernel_rfl)) rfl ?_
    refine ⟨g, rfl, hide ⟨by omega, ?_⟩, ?_⟩
    · exact (HE.out.1.only O6.out.2 (by omega)).congr (fun c _ => by simp)
    · exact (Dx.trans (HE.out.2.toBelow Dx.size (fun k hk => by omega))).trans (O6.out.2.toBelow (by have := Dx.size; have := HE.out.2.size; omega) (fun k hk => by omega))
/-! ### Chains -/
/-- A forest: above each its next one, rt its root, d falls on the way. -/
structure Fst (N : Nat) (ab rt d : Nat → Nat) : Prop where
  lt : ∀ c, c < N → ab c < N
  dn : ∀ c, c < N → ab c ≠ c → d (ab c) < d c
  rl : ∀ c, c < N → rt c < N
  ra : ∀ c, c < N → rt (ab c) = rt c
  rr : ∀ c, c < N → ab (rt c) = rt c
  rs : ∀ c, c < N → ab c = c → rt c = c
theorem Fst.halve {N : Nat} {ab rt d : Nat → Nat} (h : Fst N ab rt d) {i : Nat} (hi : i < N) (ne : ab i ≠ i) : Fst N (fun c => if c = i then ab (ab i) else ab c) rt d ∧ d (ab (ab i)) < d i ∧ rt (ab (ab i)) = rt i ∧ ab (ab i) < N := by
  have h1 := h.dn i hi ne
  have hl := h.lt i hi
  have h2 : d (ab (ab i)) < d i := by
    by_cases e : ab (ab i) = ab i
    · rw [e]; exact h1
    · exact Nat.lt_trans (h.dn _ hl e) h1
  have h3 : rt (ab (ab i)) = rt i := (h.ra _ hl).trans (h.ra i hi)
  have h4 := h.lt _ hl
  refine ⟨⟨fun c hc => ?_, fun c hc => ?_, h.rl, fun c hc => ?_, fun c hc => ?_, fun c hc => ?_⟩, h2, h3, h4⟩
  · show (if c = i then _ else _) < N
    split
    · exact h4
    · exact h.lt c hc
  · show (if c = i then _ else _) ≠ c → d (if c = i then _ else _) < d c
    split
    · rename_i e
      subst e
      exact fun _ => h2
    · exact h.dn c hc
  · show rt (if c = i then _ else _) = rt c
    split
    · rename_i e
      subst e
      exact h3
    · exact h.ra c hc
  · show (if rt c = i then _ else _) = rt c
    split
    · rename_i e
      exact absurd (e ▸ h.rr c hc) ne
    · exact h.rr c hc
  · show (if c = i then _ else _) = c → rt c = c
    split
    · rename_i e
      subst e
      intro e2
      rw [e2] at h2
      omega
    · exact h.rs c hc
def jn (rt : Nat → Nat) (p q : Nat) : Nat → Nat := fun c => if rt c = rt p then rt q else rt c
theorem Fst.idem {N : Nat} {ab rt d : Nat → Nat} (h : Fst N ab rt d) {c : Nat} (hc : c < N) : rt (rt c) = rt c := h.rs _ (h.rl c hc) (h.rr c hc)
theorem Fst.join {N : Nat} {ab rt d : Nat → Nat} (h : Fst N ab rt d) {p q : Nat} (hp : p < N) (hq : q < N) : ∃ d', Fst N (fun c => if c = rt p then rt q else ab c) (jn rt p q) d' := by
  by_cases e : rt p = rt q
  · refine ⟨d, ?_⟩
    have e1 : (fun c => if c = rt p then rt q else ab c) = ab := by
      funext c
      split
      · rename_i e2
        rw [e2, h.rr p hp, e]
      · rfl
    have e2 : jn rt p q = rt := by
      funext c
      unfold jn
      split
      · rename_i e2
        rw [e2, e]
      · rfl
    rw [e1, e2]
    exact h
  · refine ⟨fun c => if rt c = rt p then d c + d (rt q) + 1 else d c, ⟨fun c hc => ?_, fun c hc => ?_, fun c hc => ?_, fun c hc => ?_, fun c hc => ?_, fun c hc => ?_⟩⟩
    · show (if c = rt p then _ else _) < N
      split
      · exact h.rl q hq
      · exact h.lt c hc
    · show (if c = rt p then _ else _) ≠ c → (if rt (if c = rt p then _ else _) = rt p then _ else _) < (if rt c = rt p then _ else _)
      by_cases e2 : c = rt p
      · rw [if_pos e2]
        intro _
        rw [if_neg (by rw [h.idem hq]; exact fun e3 => e e3.symm), if_pos (by rw [e2, h.idem hp])]
        omega
      · rw [if_neg e2]
        intro ne
        have := h.dn c hc ne
        rw [h.ra c hc]
        split <;> omega
    · show (if rt c = rt p then _ else _) < N
      split
      · exact h.rl q hq
      · exact h.rl c hc
    · show jn rt p q (if c = rt p then _ else _) = jn rt p q c
      unfold jn
      by_cases e2 : c = rt p
      · rw [if_pos e2, if_neg (by rw [h.idem hq]; exact fun e3 => e e3.symm), h.idem hq, if_pos (by rw [e2, h.idem hp])]
      · rw [if_neg e2, h.ra c hc]
    · show (if jn rt p q c = rt p then _ else _) = jn rt p q c
      unfold jn
      by_cases e2 : rt c = rt p
      · rw [if_pos e2, if_neg (fun e3 => e e3.symm), h.rr q hq]
      · rw [if_neg e2, if_neg e2, h.rr c hc]
    · show (if c = rt p then _ else _) = c → jn rt p q c = c
      unfold jn
      by_cases e2 : c = rt p
      · rw [if_pos e2, if_pos (by rw [e2, h.idem hp])]
        exact id
      · rw [if_neg e2]
        intro e3
        have e4 := h.rs c hc e3
        rw [if_neg (by rw [e4]; exact e2), e4]
theorem Only.drew {w w' : World} {R : Nat → Prop} (h : Only w w' R) : Only w w'.drew R := ⟨h.os, h.tape, h.output, h.size, h.block⟩
theorem Only.drewN {w w' : World} {R : Nat → Prop} (h : Only w w' R) (n : Nat) : Only w (w'.drewN n) R := ⟨h.os, h.tape, h.output, h.size, h.block⟩
/-- The chains' row. -/
def ChR (w : World) (g N : Nat) (rt : Nat → Nat) : Prop := ∃ ab d, Mrw w g 3 N (fun c => .int .i64 ((ab c : Nat) : Int)) N ∧ Fst N ab rt d
theorem ChR.below {w w' : World} {g N : Nat} {rt : Nat → Nat} (h : ChR w g N rt) (d : Below w.heap.size w w') : ChR w' g N rt := by
  obtain ⟨ab, d', h1, h2⟩ := h
  exact ⟨ab, d', h1.below d h1.lt, h2⟩
theorem ChR.lt {w : World} {g N : Nat} {rt : Nat → Nat} (h : ChR w g N rt) : g < w.heap.size := by
  obtain ⟨ab, d', h1, h2⟩ := h
  exact h1.lt
set_option maxRecDepth 100000 in
set_option maxHeartbeats 2000000 in
theorem top_any (w : World) (g N s : Nat) (rt : Nat → Nat) (h : ChR w g N rt) (hs : s < N) (_hN : N ≤ 4194304) :
    Calls Try.prog 73 #[.agg #[.slice (some ⟨g, 0, none⟩) N N], .int .i64 (s : Int)] w fun e w' => e = .returned (.int .i64 ((rt s : Nat) : Int)) ∧ Hid (ChR w' g N rt ∧ Only w w' (fun k => k = g)) := by
  obtain ⟨ab0, d, hM, hF⟩ := h
  obtain ⟨W0, hW0⟩ : ∃ W0, w.alloc (.cells #[.slice (some ⟨g, 0, none⟩) N N] 95) = W0 := ⟨_, rfl⟩
  have d0 : Below w.heap.size w W0 := by rw [← hW0]; exact (Below.refl _ _).alloc (Nat.le_refl _) _
  have B0 : W0.heap[w.heap.size]? = some (.cells #[.slice (some ⟨g, 0, none⟩) N N] 95 (0, 0)) := by rw [← hW0]; exact World.alloc_heap_new _ _
  have hgl := hM.lt
  have HD := hide (And.intro d0 B0)
  have H0 := hide (And.intro (hM.below d0 hM.lt) hF)
  clear d0 B0 hM hF
  go_enter Try.func73, Try.ntmps73
  go_upto_region 1 with fail
  go_wp2_with fail
  go_loopw [1] (fun iv wr => ∃ i : Nat, i < N ∧ iv = .int .i64 (i : Int) ∧ Hid (rt i = rt s ∧ (∃ ab, Mrw wr g 3 N (fun c => .int .i64 ((ab c : Nat) : Int)) N ∧ Fst N ab rt d) ∧ Only W0 wr (fun k => k = g))) (fun iv _ => d (intOf iv).toNat)
  case atStart => exact ⟨s, hs, rfl, hide ⟨rfl, ⟨ab0, H0.out.1, H0.out.2⟩, Only.ofBelow (Below.refl _ _)⟩⟩
  case round =>
    obtain ⟨i, hi, rfl, HY⟩ := hrel
    obtain ⟨hrt, ⟨ab, hM, hF⟩, hO⟩ := HY.out
    have bW := (hO.block w.heap.size (Array.getElem?_eq_some_iff.1 HD.out.2).1 (by omega)).trans HD.out.2
    have k0 : wr.cell? ⟨w.heap.size, 0, none⟩ = some (.slice (some ⟨g, 0, none⟩) N N) := cell_of bW rfl
    have r0 := hM.at i hi
    have i0 : (0 : Int) ≤ (i : Int) := by omega
    have i1 : (i : Int) < (N : Int) := by omega
    have hl := hF.lt i hi
    by_cases ne : ab i = i
    · have n0 : ¬ ((ab i : Int) ≠ (i : Int)) := by omega
      have HE := hide (hF.rs i hi ne)
      rw [ne] at r0
      have HZ := hide (And.intro hrt (And.intro hM (And.intro hF hO)))
      clear hrt hM hF hO HY bW n0 ne
      go_wp2_with fail
      go_ret
      have e1 := HE.out
      refine ⟨by show Ending.returned (.int .i64 (i : Int)) = _; rw [← HZ.out.1, e1], hide ⟨⟨ab, d, HZ.out.2.1, HZ.out.2.2.1⟩, (Only.ofBelow HD.out.1).andNew HZ.out.2.2.2 (fun _ _ h => h)⟩⟩
    · obtain ⟨hF', hd, hr, hl2⟩ := hF.halve hi ne
      have r1 := hM.at (ab i) hl
      have zi : wr.frozen? ⟨g, i, none⟩ = false := hM.fz i
      have HZ := hide (And.intro hrt (And.intro hM (And.intro hF' (And.intro hO (And.intro hd hr)))))
      clear hrt hM hF hF' hO HY bW hd hr
      have n0 : ¬ ((ab i : Int) = (i : Int)) := by omega
      obtain ⟨a, ha⟩ : ∃ a, ab i = a := ⟨_, rfl⟩
      rw [ha] at r0 r1 hl hl2 HZ n0
      obtain ⟨a2, ha2⟩ : ∃ a2, ab a = a2 := ⟨_, rfl⟩
      rw [ha2] at r1 hl2 HZ
      have HA := hide (And.intro ha ha2)
      clear ha ha2 ne
      have j0 : (0 : Int) ≤ (a : Int) := by omega
      have j1 : (a : Int) < (N : Int) := by omega
      go_upto_region 2 with fail
      refine wp_region_phase 12 #[true, true, true, true, true, true, true, true, true, true, true, true, false, false] (by kernel_rfl) (by kernel_rfl) ?_
      simp only [List.take_succ_cons, List.take_zero, List.drop_succ_cons, List.drop_zero]
      repeat (go_big_quiet_step (fail))
      refine wpQuiet_nil ?_
      intro wz hzz
      obtain ⟨nq, rfl⟩ := hzz
      have J : Hid (rt a2 = rt s ∧ (∃ ab, Mrw ((wr.drewN nq).setCell ⟨g, i, none⟩ (.int .i64 (a2 : Int))) g 3 N (fun c => .int .i64 ((ab c : Nat) : Int)) N ∧ Fst N ab rt d) ∧ Only W0 ((wr.drewN nq).setCell ⟨g, i, none⟩ (.int .i64 (a2 : Int))) (fun k => k = g)) := hide (by
        refine ⟨HZ.out.2.2.2.2.2.trans HZ.out.1, ⟨_, ?_, HZ.out.2.2.1⟩, (HZ.out.2.2.2.1.trans (Only.ofBelow (below_drewN2 (Below.refl _ _) nq))).trans (only_set _ _ _ _)⟩
        have mq : Mrw (wr.drewN nq) g 3 N (fun c => .int .i64 ((ab c : Nat) : Int)) N := HZ.out.2.1
        refine (mq.upd i (.int .i64 (a2 : Int))).congr fun c _ => ?_
        by_cases e : c = i
        · simp [e]
        · simp [e])
      have hd := HZ.out.2.2.2.2.1
      have i2 : (i : Int) < (N : Int) := by omega
      go_wp2_with fail
      go_roundw
      case rel => exact ⟨a2, hl2, rfl, J⟩
      case measure => simpa [intOf] using hd
theorem ChR.join {w : World} {g N p q : Nat} {rt : Nat → Nat} (h : ChR w g N rt) (hp : p < N) (hq : q < N) (k : Nat) : ChR ((w.drewN k).setCell ⟨g, rt p, none⟩ (.int .i64 ((rt q : Nat) : Int))) g N (jn rt p q) := by
  obtain ⟨ab, d, hM, hF⟩ := h
  obtain ⟨d', hF'⟩ := hF.join hp hq
  have mq : Mrw (w.drewN k) g 3 N (fun c => .int .i64 ((ab c : Nat) : Int)) N := hM
  refine ⟨_, d', (mq.upd (rt p) (.int .i64 ((rt q : Nat) : Int))).congr fun c _ => ?_, hF'⟩
  by_cases e : c = rt p
  · simp [e]
  · simp [e]
set_option maxRecDepth 100000 in
set_option maxHeartbeats 2000000 in
theorem join_any (w : World) (g N p q : Nat) (rt : Nat → Nat) (h : ChR w g N rt) (hp : p < N) (hq : q < N) (hN : N ≤ 4194304) :
    Calls Try.prog 65 #[.agg #[.slice (some ⟨g, 0, none⟩) N N], .int .i64 (p : Int), .int .i64 (q : Int)] w fun e w' => e = .returned (.bool (decide (rt p ≠ rt q))) ∧ Hid (ChR w' g N (jn rt p q) ∧ Only w w' (fun k => k = g)) := by
  obtain ⟨W0, hW0⟩ : ∃ W0, w.alloc (.cells #[.slice (some ⟨g, 0, none⟩) N N] 95) = W0 := ⟨_, rfl⟩
  have d0 : Below w.heap.size w W0 := by rw [← hW0]; exact (Below.refl _ _).alloc (Nat.le_refl _) _
  have B0 : W0.heap[w.heap.size]? = some (.cells #[.slice (some ⟨g, 0, none⟩) N N] 95 (0, 0)) := by rw [← hW0]; exact World.alloc_heap_new _ _
  have k0 : W0.cell? ⟨w.heap.size, 0, none⟩ = some (.slice (some ⟨g, 0, none⟩) N N) := cell_of B0 rfl
  have hgl := h.lt
  have HD := hide (And.intro d0 B0)
  have H0 : Hid (ChR W0 g N rt ∧ Only W0 W0 (fun k => k = g)) := hide ⟨h.below d0, Only.ofBelow (Below.refl _ _)⟩
  have hrp : rt p < N := by obtain ⟨ab, d, _, hF⟩ := h; exact hF.rl p hp
  have TT : Hid (∀ W s, s < N → Hid (ChR W g N rt ∧ Only W0 W (fun k => k = g)) → Calls Try.prog 73 #[.agg #[.slice (some ⟨g, 0, none⟩) N N], .int .i64 (s : Int)] W fun e w' => e = .returned (.int .i64 ((rt s : Nat) : Int)) ∧ w'.cell? ⟨w.heap.size, 0, none⟩ = some (.slice (some ⟨g, 0, none⟩) N N) ∧ Hid (ChR w' g N rt ∧ Only W0 w' (fun k => k = g))) := hide (fun W s hs hW => (top_any W g N s rt hW.out.1 hs hN).mono fun e w' hh => by
    obtain ⟨rfl, hh⟩ := hh
    have o := hW.out.2.trans hh.out.2
    exact ⟨rfl, cell_of ((o.block w.heap.size (Array.getElem?_eq_some_iff.1 HD.out.2).1 (by omega)).trans HD.out.2) rfl, hide ⟨hh.out.1, o⟩⟩)
  clear d0 B0 h
  go_enter Try.func65, Try.ntmps65
  go_upto_region 1 with fail
  go_cut [1, 2, 3] from 1 to 12 (fun p1 p2 p3 W => p3 = .pointer (some ⟨w.heap.size, 0, none⟩) ∧ p1 = .int .i64 ((rt p : Nat) : Int) ∧ p2 = .int .i64 ((rt q : Nat) : Int) ∧ Hid (ChR W g N rt ∧ Only W0 W (fun k => k = g)))
  case first =>
    go_region_held3 (fun W2 => W2.cell? ⟨w.heap.size, 0, none⟩ = some (.slice (some ⟨g, 0, none⟩) N N) ∧ Hid (ChR W2 g N rt ∧ Only W0 W2 (fun k => k = g)))
      (first | exact ⟨hc3, hide hh3.out⟩ | exact ⟨hc2, hide hh2.out⟩ | exact ⟨k0, hide ⟨H0.out.1, H0.out.2.drew⟩⟩)
      (first | (go_at_call_of 73 p; refine (TT.out _ p hp (by exact hide ⟨H0.out.1, H0.out.2.drew⟩)).mono ?_; rintro e w2 ⟨rfl, hc2, hh2⟩) | (go_at_call_of 73 q; refine (TT.out _ q hq (by exact hide hh2.out)).mono ?_; rintro e w3 ⟨rfl, hc3, hh3⟩))
    all_goals (go_wp2_with fail; go_meet; exact ⟨rfl, rfl, rfl, hide ⟨hh3.out.1, hh3.out.2⟩⟩)
  case rest =>
    obtain ⟨rfl, rfl, rfl, HX⟩ := hcut
    rename World => wx
    have bW := (HX.out.2.block w.heap.size (Array.getElem?_eq_some_iff.1 HD.out.2).1 (by omega)).trans HD.out.2
    have x0 : wx.cell? ⟨w.heap.size, 0, none⟩ = some (.slice (some ⟨g, 0, none⟩) N N) := cell_of bW rfl
    have hrq : rt q < N := by obtain ⟨ab, d, _, hF⟩ := HX.out.1; exact hF.rl q hq
    have r0 : (0 : Int) ≤ ((rt p : Nat) : Int) := by omega
    have r1 : ((rt p : Nat) : Int) < (N : Int) := by omega
    obtain ⟨u, cu⟩ : ∃ u, wx.cell? ⟨g, rt p, none⟩ = some u := by obtain ⟨ab, d, hM, _⟩ := HX.out.1; exact hM.cell _ hrp
    have zu : wx.frozen? ⟨g, rt p, none⟩ = false := by obtain ⟨ab, d, hM, _⟩ := HX.out.1; exact hM.fz _
    have HJ : Hid (ChR (wx.setCell ⟨g, rt p, none⟩ (.int .i64 ((rt q : Nat) : Int))) g N (jn rt p q) ∧ Only w (wx.setCell ⟨g, rt p, none⟩ (.int .i64 ((rt q : Nat) : Int))) (fun k => k = g)) := hide ⟨HX.out.1.join hp hq 0, ((Only.ofBelow HD.out.1).andNew HX.out.2 (fun _ _ h => h)).trans (only_set _ _ _ _)⟩
    clear bW k0 TT
    by_cases e : rt p = rt q
    · have HE := hide e
      have e1 : (((rt p : Nat) : Int) != ((rt q : Nat) : Int)) = false := by rw [e]; simp
      clear e
      go_wp2_with fail
      go_ret
      exact ⟨by simp [HE.out], HJ⟩
    · have HE := hide e
      have e1 : ¬ (((rt p : Nat) : Int) = ((rt q : Nat) : Int)) := by omega
      clear e
      go_wp2_with fail
      go_ret
      exact ⟨by simp [HE.out]; exact e1, HJ⟩
/-! ### Meeting a state -/
theorem row_tag {W : World} {B k n sz : Nat} {e t : TypeId} {v : Value} {xs : List Value} {cs : Array Value} {fr : Nat × Nat} (h : W.ownsRow B e sz v n xs) (hb : W.heap[k]? = some (.cells cs t fr)) (hne : t ≠ e) (hk : v.ownBlock = some k) : False := by
  rcases h.2 with ⟨hv, _⟩ | ⟨g', cap', cur', hv, _, hgc, _⟩
  · subst hv
    cases hk
  · subst hv
    cases hk
    rw [hb] at hgc
    cases hgc
    exact hne rfl
def natI (T : List Nat) : List Int := T.map fun (q : Nat) => (q : Int)
theorem natI_len (T : List Nat) : (natI T).length = T.length := by simp [natI]
theorem natI_snoc (T : List Nat) (q : Nat) : natI (T ++ [q]) = natI T ++ [(q : Int)] := by simp [natI]
/-- The number of a state that was met; -1. -/
def numF (T : List Nat) (q : Nat) : Int := if q ∈ T then (T.idxOf q : Int) else -1
theorem numF_new {T : List Nat} {q : Nat} (h : q ∉ T) : numF (T ++ [q]) q = (T.length : Int) := by
  unfold numF
  rw [if_pos (by simp), List.idxOf_append]
  simp [h]
theorem numF_old {T : List Nat} {q c : Nat} (h : c ≠ q) : numF (T ++ [q]) c = numF T c := by
  unfold numF
  by_cases hc : c ∈ T
  · rw [if_pos (by simp [hc]), if_pos hc, List.idxOf_append]
    simp [hc]
  · rw [if_neg (by simp [hc, h]), if_neg hc]
/-- The numbering while it is made: its box, the states, their numbers. -/
structure NuS (B : Nat) (w : World) (N bn gn : Nat) (vT : Value) (T : List Nat) : Prop where
  bb : w.heap[bn]? = some (.cells #[vT, .slice (some ⟨gn, 0, none⟩) N N, .slice none 0 0] 55 (0, 0))
  rT : OwI w B vT (natI T)
  rN : Mrw w gn 3 N (fun q => .int .i64 (numF T q)) N
  ne : vT.ownBlock ≠ some gn
  lb : B ≤ bn
  lg : B ≤ gn
  nd : T.Nodup
  lt : ∀ q ∈ T, q < N
theorem nodup_le {T : List Nat} {N : Nat} (h : T.Nodup) (hl : ∀ q ∈ T, q < N) : T.length ≤ N := by
  have : T ⊆ List.range N := fun q hq => List.mem_range.2 (hl q hq)
  have := h.length_le_of_subset this
  rwa [List.length_range] at this
theorem NuS.on {B : Nat} {w w' : World} {N bn gn : Nat} {vT : Value} {T : List Nat} (h : NuS B w N bn gn vT T) (d : Below w.heap.size w w') : NuS B w' N bn gn vT T :=
  ⟨blk_on h.bb d, own_below h.rT d, h.rN.below d h.rN.lt, h.ne, h.lb, h.lg, h.nd, h.lt⟩
theorem NuS.only {B : Nat} {w w' : World} {N bn gn : Nat} {vT : Value} {T : List Nat} {R : Nat → Prop} (h : NuS B w N bn gn vT T) (o : Only w w' R) (h1 : ¬ R bn) (h2 : ¬ R gn) (h3 : ∀ k, vT.ownBlock = some k → ¬ R k) : NuS B w' N bn gn vT T :=
  ⟨(o.block _ (Array.getElem?_eq_some_iff.1 h.bb).1 h1).trans h.bb, row_only h.rT o h3, h.rN.only o h2, h.ne, h.lb, h.lg, h.nd, h.lt⟩
set_option maxRecDepth 100000 in
set_option maxHeartbeats 2000000 in
theorem meetI_old (B : Nat) (w : World) (N bn gn : Nat) (vT : Value) (T : List Nat) (h : NuS B w N bn gn vT T) (q : Nat) (m : Int) (hq : q < N) (hm : q ∈ T) :
    Calls Try.prog 55 #[.int .i64 (q : Int), .int .i64 m, .pointer (some ⟨bn, 0, none⟩)] w fun e w' => e = .returned (.int .i64 0) ∧ w' = w := by
  have c1 : w.cell? ⟨bn, 1, none⟩ = some (.slice (some ⟨gn, 0, none⟩) N N) := cell_of h.bb rfl
  have cq := h.rN.at q hq
  have n0 : 0 ≤ numF T q := by unfold numF; rw [if_pos hm]; omega
  generalize numF T q = x at *
  have p0 : (0 : Int) ≤ (q : Int) := by omega
  have p1 : (q : Int) < (N : Int) := by omega
  clear h hm
  go_enter Try.func55, Try.ntmps55
  go_wp2_with fail
  go_ret
  exact ⟨rfl, rfl⟩
set_option maxRecDepth 100000 in
set_option maxHeartbeats 2000000 in
theorem meetI_new (B : Nat) (w : World) (N bn gn : Nat) (vT : Value) (T : List Nat) (h : NuS B w N bn gn vT T) (q : Nat) (hq : q < N) (hm : q ∉ T) (hN : N ≤ 4194304) (hB : B ≤ w.heap.size) :
    Calls Try.prog 55 #[.int .i64 (q : Int), .int .i64 (T.length : Int), .pointer (some ⟨bn, 0, none⟩)] w fun e w' => e = .returned (.int .i64 1) ∧ ∃ vT', Hid (NuS B w' N bn gn vT' (T ++ [q]) ∧ Only w w' (fun k => k = bn ∨ k = gn ∨ vT.ownBlock = some k) ∧ (vT'.ownBlock = vT.ownBlock ∨ ∃ k, vT'.ownBlock = some k ∧ w.heap.size ≤ k)) := by
  have c0 : w.cell? ⟨bn, 0, none⟩ = some vT := cell_of h.bb rfl
  have c1 : w.cell? ⟨bn, 1, none⟩ = some (.slice (some ⟨gn, 0, none⟩) N N) := cell_of h.bb rfl
  have cq := h.rN.at q hq
  have n0 : numF T q = -1 := by unfold numF; rw [if_neg hm]
  simp only [n0] at cq
  have zq : w.frozen? ⟨gn, q, none⟩ = false := h.rN.fz q
  have p0 : (0 : Int) ≤ (q : Int) := by omega
  have p1 : (q : Int) < (N : Int) := by omega
  have hbg : bn ≠ gn := by
    rintro rfl
    obtain ⟨cur, e, _⟩ := h.rN
    rw [h.bb] at e
    cases e
  have hTl := nodup_le h.nd h.lt
  obtain ⟨t0, k0, rfl⟩ := own_slice h.rT
  obtain ⟨L, hL⟩ : ∃ L, T.length = L := ⟨_, rfl⟩
  rw [natI_len, hL] at c0
  have H := hide h
  have HL := hide hL
  rw [natI_len, hL] at H
  rw [hL]
  rw [hL] at hTl
  clear h hL
  obtain ⟨W1, hW1⟩ : ∃ W, w.setCell ⟨gn, q, none⟩ (.int .i64 (L : Int)) = W := ⟨_, rfl⟩
  have O1 : Only w W1 (fun k => k = gn) := by rw [← hW1]; exact only_set _ _ _ _
  have bb1 := (O1.block bn (Array.getElem?_eq_some_iff.1 H.out.bb).1 hbg).trans H.out.bb
  have rT1 : OwI W1 B (.slice t0 L k0) (natI T) := row_only H.out.rT O1 (fun k hk e => H.out.ne (by rw [hk, e]))
  have e0 : W1.cell? ⟨bn, 0, none⟩ = some (.slice t0 L k0) := cell_of bb1 rfl
  have rN1 : Mrw W1 gn 3 N (fun c => .int .i64 (numF (T ++ [q]) c)) N := by
    rw [← hW1]
    refine (H.out.rN.upd q _).congr fun c _ => ?_
    by_cases e : c = q
    · subst e
      rw [if_pos rfl, numF_new hm, HL.out]
    · rw [if_neg e, numF_old e]
  have HW := hide (And.intro bb1 (And.intro rT1 (And.intro rN1 O1)))
  have hB1 : B ≤ W1.heap.size := Nat.le_trans hB O1.size
  have hnl := natI_len T
  clear bb1 rT1 rN1 O1
  go_enter Try.func55, Try.ntmps55
  go_upto_region 4 with fail
  have dA : ∀ o : Obj, Below W1.heap.size W1 (W1.alloc o) := fun o => (Below.refl _ _).alloc (Nat.le_refl _) _
  go_wp2_with (at_builtin; refine wpList_appI rfl (.tmp 18) (.tmp 20) rfl B (.slice t0 L k0) (natI T) rfl (own_below HW.out.2.1 (dA _)) W1.heap.size (q : Int) rfl (World.alloc_heap_new _ _) (by rw [natI_len, HL.out]; omega) (by simp; omega) ?_; intro b2 m2 k2 w2 h1 h2 h3 h4; have O2 : Only W1 w2 (fun k => (Value.slice t0 L k0).ownBlock = some k) := (Only.ofBelow (dA _)).trans h3.out; have bb2 : w2.heap[bn]? = _ := (O2.block bn (Array.getElem?_eq_some_iff.1 HW.out.1).1 (fun e => row_tag HW.out.2.1 HW.out.1 (by decide) e)).trans HW.out.1; have e5 : w2.cell? ⟨bn, 0, none⟩ = some (.slice t0 L k0) := cell_of bb2 rfl; have z5 : w2.frozen? ⟨bn, 0, none⟩ = false := fz_of bb2; have HN := hide (And.intro h1.out (And.intro O2 (And.intro h4.out bb2))); clear h1 h2 h3 h4 O2 bb2)
  go_ret
  obtain ⟨hT, O2, hb, bb2⟩ := HN.out
  obtain ⟨bb1, rT1, rN1, O1⟩ := HW.out
  have O3 := only_set w2 bn 0 (.slice b2 m2 k2)
  have hlt := rT1.lt
  have hgn := rN1.lt
  have hbn := (Array.getElem?_eq_some_iff.1 bb1).1
  have nb : ∀ k, (Value.slice b2 m2 k2).ownBlock = some k → k ≠ bn := fun k hk e => by subst e; exact row_tag hT bb2 (by decide) hk
  have hn1 : (Value.slice t0 L k0).ownBlock ≠ some gn := H.out.ne
  have hb' : (Value.slice b2 m2 k2).ownBlock = (Value.slice t0 L k0).ownBlock ∨ (Value.slice b2 m2 k2).ownBlock = some (W1.heap.size + 1) := by simpa using hb
  have en : (Value.slice t0 (natI T).length k0).ownBlock = (Value.slice t0 L k0).ownBlock := by rw [natI_len, HL.out]
  refine ⟨rfl, .slice b2 m2 k2, hide ⟨⟨heap_setCell_same _ _ 0 _ 55 _ bb2, ?_, (rN1.only O2 hn1).only O3 (fun e => hbg e.symm), ?_, H.out.lb, H.out.lg, ?_, ?_⟩, ?_, ?_⟩⟩
  · rw [natI_snoc]
    exact row_only hT O3 (fun k hk e => nb k hk e)
  · intro e
    rcases hb' with e2 | e2
    · exact hn1 (e2.symm.trans e)
    · rw [e2] at e
      have := Option.some.inj e
      omega
  · rw [List.nodup_append]
    exact ⟨H.out.nd, by simp, fun a ha b hb e => by simp at hb; subst hb; subst e; exact hm ha⟩
  · intro x hx
    rcases List.mem_append.1 hx with hx | hx
    · exact H.out.lt x hx
    · simp at hx; omega
  · rw [en]
    exact ((O1.mono (fun k _ e => .inr (.inl e))).trans (O2.mono (fun k _ e => .inr (.inr e)))).trans (O3.mono (fun k _ e => .inl e))
  · rw [en]
    rcases hb' with e2 | e2
    · exact .inl e2
    · exact .inr ⟨_, e2, by have := O1.size; omega⟩
/-! ### A step of the walk -/
theorem info88 : (Try.prog.info? 88).map (fun i => (i.zero, i.size, i.bytes)) = some (some (.agg #[.int .i64 0, .int .i64 0]), 2, 16) := by kernel_rfl
def encS (x : Int × Int) : List Value := [.int .i64 x.1, .int .i64 x.2]
theorem encS_len (x : Int × Int) : (encS x).length = 2 := rfl
def OwS (W : World) (B : Nat) (v : Value) (L : List (Int × Int)) : Prop := W.ownsRow B 88 2 v L.length (L.flatMap encS)
theorem owS_nil (W : World) (B : Nat) : OwS W B (.slice none 0 0) [] := World.ownsRow_nil _ _ _ _
theorem owS_rd {W : World} {B c : Nat} {b : Option Addr} {n : Nat} {X : List (Int × Int)} (h : OwS W B (.slice b n c) X) : n = X.length ∧ RdS W b X := by
  unfold OwS at h
  rcases h.2 with ⟨hv, hn⟩ | ⟨g, cap, cur, hv, hB, hg, h1, h2, h3, h4⟩
  · cases hv
    exact ⟨hn.symm, fun j hj => by omega⟩
  · cases hv
    have key : ∀ i, i < 2 → ∀ j (hj : j < X.length), W.cell? ⟨g, j * 2 + i, none⟩ = (encS X[j])[i]? := fun i hi j hj => by
      have q : (cur.toList.take (X.length * 2))[j * 2 + i]? = (X.flatMap encS)[j * 2 + i]? := by rw [h4]
      rw [List.getElem?_take_of_lt (by omega), flat_get encS 2 encS_len X j i hj hi] at q
      have e : ∃ v, (encS X[j])[i]? = some v := ⟨_, List.getElem?_eq_getElem (by rw [encS_len]; exact hi)⟩
      obtain ⟨v, hv⟩ := e
      rw [hv] at q ⊢
      exact cell_of hg (by simpa using q)
    refine ⟨rfl, fun j hj => ⟨g, 0, rfl, ?_, ?_⟩⟩
    · have := key 0 (by omega) j hj
      simpa [encS] using this
    · have := key 1 (by omega) j hj
      simpa [encS] using this
/-- The walk while it goes. -/
structure RuS (B : Nat) (w : World) (N M wb mb sb bn gn : Nat) (fv : Value) (vM vS vT : Value) (T : List Nat) (St : List (Int × Int)) : Prop where
  nu : NuS B w N bn gn vT T
  bw : w.heap[wb]? = some (.cells #[.int .i64 (M : Int), fv, .func (.func 55) #[] #[.pointer (some ⟨bn, 0, none⟩)]] 83 (0, 0))
  bm : w.heap[mb]? = some (.cells #[vM] 22 (0, 0))
  bs : w.heap[sb]? = some (.cells #[vS] 53 (0, 0))
  rM : OwI w B vM (natI T)
  rS : OwS w B vS St
  nT : ∀ k, vM.ownBlock = some k → vT.ownBlock ≠ some k
  nG : vM.ownBlock ≠ some gn
  lw : B ≤ wb
  lm : B ≤ mb
  ls : B ≤ sb
  le : St.length = T.length
theorem RuS.on {B : Nat} {w w' : World} {N M wb mb sb bn gn : Nat} {fv vM vS vT : Value} {T : List Nat} {St : List (Int × Int)} (h : RuS B w N M wb mb sb bn gn fv vM vS vT T St) (d : Below w.heap.size w w') : RuS B w' N M wb mb sb bn gn fv vM vS vT T St :=
  ⟨h.nu.on d, blk_on h.bw d, blk_on h.bm d, blk_on h.bs d, own_below h.rM d, own_below h.rS d, h.nT, h.nG, h.lw, h.lm, h.ls, h.le⟩
set_option maxRecDepth 100000 in
set_option maxHeartbeats 2000000 in
theorem endsI_old (B : Nat) (w : World) (N M wb mb sb bn gn : Nat) (fv vM vS vT : Value) (T : List Nat) (St : List (Int × Int)) (h : RuS B w N M wb mb sb bn gn fv vM vS vT T St) (q : Nat) (x1 x2 : Int) (hq : q < N) (hm : q ∈ T) :
    Calls Try.prog 69 #[.int .i64 (q : Int), .agg #[.int .i64 x1, .int .i64 x2], .pointer (some ⟨wb, 0, none⟩), .pointer (some ⟨mb, 0, none⟩), .pointer (some ⟨sb, 0, none⟩)] w fun e w' => e = .returned (.bool false) ∧ Below w.heap.size w w' := by
  obtain ⟨W0, hW0⟩ : ∃ W0, w.alloc (.cells #[.int .i64 x1, .int .i64 x2] 88) = W0 := ⟨_, rfl⟩
  have d0 : Below w.heap.size w W0 := by rw [← hW0]; exact (Below.refl _ _).alloc (Nat.le_refl _) _
  have h0 := h.on d0
  have c2 : W0.cell? ⟨wb, 2, none⟩ = some (.func (.func 55) #[] #[.pointer (some ⟨bn, 0, none⟩)]) := cell_of h0.bw rfl
  obtain ⟨t0, k0, rfl⟩ := own_slice h0.rM
  have c3 : W0.cell? ⟨mb, 0, none⟩ = some (.slice t0 (natI T).length k0) := cell_of h0.bm rfl
  have TM := meetI_old B W0 N bn gn vT T h0.nu q ((natI T).length : Int) hq hm
  generalize (natI T).length = L at *
  have HD := hide d0
  clear d0 h0 h
  go_enter Try.func69, Try.ntmps69
  go_wp2_with (go_at_call 55; refine TM.mono ?_; rintro e w2 ⟨rfl, hw⟩; obtain rfl := hw.symm; clear hw)
  go_ret
  exact ⟨rfl, HD.out⟩
theorem blk_b (W : World) (o : Obj) : Below W.heap.size W (W.alloc o) := (Below.refl _ _).alloc (Nat.le_refl _) _
theorem own_al {W : World} {B n sz : Nat} {e : TypeId} {v : Value} {xs : List Value} (h : W.ownsRow B e sz v n xs) (o : Obj) : (W.alloc o).ownsRow B e sz v n xs := own_below h ((Below.refl _ _).alloc (Nat.le_refl _) o)
theorem blk_al {W : World} {k : Nat} {ob : Obj} (o : Obj) (h : W.heap[k]? = some ob) : (W.alloc o).heap[k]? = some ob := (((Below.refl W.heap.size W).alloc (Nat.le_refl _) o).block _ (Array.getElem?_eq_some_iff.1 h).1).trans h
theorem two_cells {W : World} {u v : Value} {t : TypeId} {p : Nat} (z : W.heap[p]? = some (.cells #[u, v] t (0, 0))) : ∀ (j : Nat) (x : Value), [u, v][j]? = some x → W.cell? ((⟨p, 0, none⟩ : Addr).add j) = some x := fun j x hx => by
  rw [Addr.add_lit]
  match j, hx with
  | 0, hx => exact cell_of z (by simpa using hx)
  | 1, hx => exact cell_of z (by simpa using hx)
  | (j + 2), hx => simp at hx
theorem own_ty {W : World} {B k n sz : Nat} {e : TypeId} {v : Value} {xs : List Value} (h : W.ownsRow B e sz v n xs) (hk : v.ownBlock = some k) : ∃ cs fr, W.heap[k]? = some (.cells cs e fr) := by
  rcases h.2 with ⟨hv, _⟩ | ⟨g', cap', cur', hv, _, hgc, _⟩
  · rw [hv] at hk; cases hk
  · rw [hv] at hk; cases hk; exact ⟨_, _, hgc⟩
theorem own_two {W : World} {B B' k n m sz sz' : Nat} {v u : Value} {xs ys : List Value} (h : W.ownsRow B 3 sz v n xs) (h' : W.ownsRow B' 88 sz' u m ys) (hk : v.ownBlock = some k) (hk' : u.ownBlock = some k) : False := by
  obtain ⟨cs, fr, e⟩ := own_ty h' hk'
  exact row_tag h e (by decide) hk
theorem ends_fin {B : Nat} {w w3 w4 w5 : World} {N M wb mb sb bn gn : Nat} {fv vT' : Value} {t0 s0 : Option Addr} {k0 j0 L q g9 c9 g8 c8 : Nat} {x1 x2 : Int} {T : List Nat} {St : List (Int × Int)}
    (hN1 : NuS B w3 N bn gn vT' (T ++ [q])) (bm3 : w3.heap[mb]? = some (.cells #[.slice t0 L k0] 22 (0, 0))) (bs3 : w3.heap[sb]? = some (.cells #[.slice s0 L j0] 53 (0, 0)))
    (bw3 : w3.heap[wb]? = some (.cells #[.int .i64 (M : Int), fv, .func (.func 55) #[] #[.pointer (some ⟨bn, 0, none⟩)]] 83 (0, 0)))
    (rM3 : OwI w3 B (.slice t0 L k0) (natI T)) (rS3 : OwS w3 B (.slice s0 L j0) St) (D3 : Below B w w3) (hB : B ≤ w.heap.size)
    (nT : ∀ k, (Value.slice t0 L k0).ownBlock = some k → vT'.ownBlock ≠ some k) (nG : (Value.slice t0 L k0).ownBlock ≠ some gn) (lw : B ≤ wb) (lm : B ≤ mb) (ls : B ≤ sb) (eT : T.length = L) (eS : St.length = L)
    (O34 : Only w3 w4 (fun k => (Value.slice t0 L k0).ownBlock = some k)) (G9 : (Value.slice t0 L k0).ownBlock = some g9 ∨ w3.heap.size ≤ g9)
    (ho4 : w4.ownsRow B 3 1 (.slice (some ⟨g9, 0, none⟩) (L + 1) c9) (L + 1) ((natI T).map (Value.int .i64) ++ [.int .i64 (q : Int)]))
    (O45 : Only w4 w5 (fun k => (Value.slice s0 L j0).ownBlock = some k)) (ho5 : w5.ownsRow B 88 2 (.slice (some ⟨g8, 0, none⟩) (L + 1) c8) (L + 1) (St.flatMap encS ++ [.int .i64 x1, .int .i64 x2])) :
    RuS B ((w5.setCell ⟨mb, 0, none⟩ (.slice (some ⟨g9, 0, none⟩) (L + 1) c9)).setCell ⟨sb, 0, none⟩ (.slice (some ⟨g8, 0, none⟩) (L + 1) c8)) N M wb mb sb bn gn fv (.slice (some ⟨g9, 0, none⟩) (L + 1) c9) (.slice (some ⟨g8, 0, none⟩) (L + 1) c8) vT' (T ++ [q]) (St ++ [(x1, x2)]) ∧
      Below B w ((w5.setCell ⟨mb, 0, none⟩ (.slice (some ⟨g9, 0, none⟩) (L + 1) c9)).setCell ⟨sb, 0, none⟩ (.slice (some ⟨g8, 0, none⟩) (L + 1) c8)) := by
  have hS4 : w4.ownsRow B 88 2 (.slice s0 L j0) St.length (St.flatMap encS) := row_only rS3 O34 (fun k hk e => own_two rM3 rS3 e hk)
  have n4 := hN1.only O34 (fun e => row_tag rM3 hN1.bb (by decide) e) nG (fun k hk e => nT k e hk)
  have gS : (Value.slice s0 L j0).ownBlock ≠ some gn := fun e => by
    obtain ⟨cs, fr, e2⟩ := own_ty hS4 e
    obtain ⟨cur, e3, _⟩ := n4.rN
    rw [e2] at e3; cases e3
  have n5 := n4.only O45 (fun e => row_tag hS4 n4.bb (by decide) e) gS (fun k hk e => own_two n4.rT hS4 hk e)
  have k4 : ∀ {k : Nat} {cs : Array Value} {t : TypeId}, w3.heap[k]? = some (.cells cs t (0, 0)) → t ≠ 3 → t ≠ 88 → w5.heap[k]? = some (.cells cs t (0, 0)) := fun {k cs t} h h3 h8 => by
    have e4 := (O34.block k (Array.getElem?_eq_some_iff.1 h).1 (fun e => row_tag rM3 h h3 e)).trans h
    exact (O45.block k (Array.getElem?_eq_some_iff.1 e4).1 (fun e => row_tag hS4 e4 h8 e)).trans e4
  have bm5 := k4 bm3 (by decide) (by decide)
  have bs5 := k4 bs3 (by decide) (by decide)
  have bw5 := k4 bw3 (by decide) (by decide)
  have hms : mb ≠ sb := fun e => by rw [e, bs3] at bm3; cases bm3
  have r5 := row_only ho4 O45 (fun k hk e => own_two ho4 hS4 hk e)
  have o1 := only_set w5 mb 0 (.slice (some ⟨g9, 0, none⟩) (L + 1) c9)
  have o2 := only_set (w5.setCell ⟨mb, 0, none⟩ (.slice (some ⟨g9, 0, none⟩) (L + 1) c9)) sb 0 (.slice (some ⟨g8, 0, none⟩) (L + 1) c8)
  have o3 : Only w5 ((w5.setCell ⟨mb, 0, none⟩ (.slice (some ⟨g9, 0, none⟩) (L + 1) c9)).setCell ⟨sb, 0, none⟩ (.slice (some ⟨g8, 0, none⟩) (L + 1) c8)) (fun k => k = mb ∨ k = sb) := (o1.mono fun _ _ e => .inl e).trans (o2.mono fun _ _ e => .inr e)
  have nt : ∀ {v : Value} {n sz : Nat} {e : TypeId} {xs : List Value}, w5.ownsRow B e sz v n xs → 22 ≠ e → 53 ≠ e → ∀ k, v.ownBlock = some k → ¬ (k = mb ∨ k = sb) := fun h h2 h5 k hk hh => by
    rcases hh with rfl | rfl
    · exact row_tag h bm5 h2 hk
    · exact row_tag h bs5 h5 hk
  have ng : ∀ {k : Nat} {cs : Array Value} {t : TypeId}, w5.heap[k]? = some (.cells cs t (0, 0)) → t ≠ 22 → t ≠ 53 → ¬ (k = mb ∨ k = sb) := fun h h2 h5 hh => by
    rcases hh with rfl | rfl
    · rw [bm5] at h; cases h; exact h2 rfl
    · rw [bs5] at h; cases h; exact h5 rfl
  have ngn : ¬ (gn = mb ∨ gn = sb) := by
    obtain ⟨cur, e3, _⟩ := n5.rN
    exact ng e3 (by decide) (by decide)
  have own9 : ∀ k, (Value.slice (some ⟨g9, 0, none⟩) (L + 1) c9).ownBlock = some k → k = g9 := fun k hk => by cases hk; rfl
  have hs3 : B ≤ w3.heap.size := Nat.le_trans hB D3.size
  have hs4 : B ≤ w4.heap.size := Nat.le_trans hs3 O34.size
  refine ⟨⟨n5.only o3 (ng n5.bb (by decide) (by decide)) ngn (nt n5.rT (by decide) (by decide)), ?_, ?_, ?_, ?_, ?_, fun k hk e => ?_, fun e => ?_, lw, lm, ls, ?_⟩, ?_⟩
  · exact (o3.block wb (Array.getElem?_eq_some_iff.1 bw5).1 (ng bw5 (by decide) (by decide))).trans bw5
  · exact (Below.heap_setCell _ _ _ _ hms).trans (heap_setCell_same _ _ 0 _ 22 _ bm5)
  · exact heap_setCell_same _ _ 0 _ 53 _ ((Below.heap_setCell _ _ _ _ (fun e => hms e.symm)).trans bs5)
  · unfold OwI
    rw [natI_snoc, List.map_append, List.length_append, natI_len, eT]
    exact row_only r5 o3 (nt r5 (by decide) (by decide))
  · unfold OwS
    rw [List.flatMap_append, List.length_append, eS]
    exact row_only (by simpa [encS] using ho5) o3 (nt ho5 (by decide) (by decide))
  · have e9 := own9 k hk
    subst e9
    rcases G9 with e2 | e2
    · exact nT _ e2 e
    · have := (hN1.rT.lt _ e).2
      omega
  · have e9 := own9 gn e
    rcases G9 with e2 | e2
    · rw [← e9] at e2
      exact nG e2
    · have := hN1.rN.lt
      omega
  · simp [eT, eS]
  · refine ((D3.trans (O34.toBelow hs3 (fun k hk => (rM3.lt k hk).1))).trans (O45.toBelow hs4 (fun k hk => (hS4.lt k hk).1))).trans (o3.toBelow (Nat.le_trans hs4 O45.size) (fun k hk => ?_))
    rcases hk with rfl | rfl
    · exact lm
    · exact ls
theorem grow_blk {W W' : World} {r : Option Nat} {k : Nat} {o : Obj} (h : W.grownBy W' r) (hk : W.heap[k]? = some o) (ne : r ≠ some k) : W'.heap[k]? = some o := (h.block k (Array.getElem?_eq_some_iff.1 hk).1 (fun e => ne e.symm)).trans hk
set_option maxRecDepth 100000 in
set_option maxHeartbeats 8000000 in
theorem endsI_new (B : Nat) (w : World) (N M wb mb sb bn gn : Nat) (fv vM vS vT : Value) (T : List Nat) (St : List (Int × Int)) (h : RuS B w N M wb mb sb bn gn fv vM vS vT T St) (q : Nat) (x1 x2 : Int) (hq : q < N) (hm : q ∉ T) (hN : N ≤ 4194304) (hB : B ≤ w.heap.size) :
    Calls Try.prog 69 #[.int .i64 (q : Int), .agg #[.int .i64 x1, .int .i64 x2], .pointer (some ⟨wb, 0, none⟩), .pointer (some ⟨mb, 0, none⟩), .pointer (some ⟨sb, 0, none⟩)] w fun e w' => e = .returned (.bool false) ∧ ∃ vM' vS' vT', Hid (RuS B w' N M wb mb sb bn gn fv vM' vS' vT' (T ++ [q]) (St ++ [(x1, x2)]) ∧ Below B w w') := by
  obtain ⟨i3, hi3, hz30, hz31, hz32⟩ := info_parts info3
  obtain ⟨i8, hi8, hz80, hz81, hz82⟩ := info_parts info88
  obtain ⟨W0, hW0⟩ : ∃ W0, w.alloc (.cells #[.int .i64 x1, .int .i64 x2] 88) = W0 := ⟨_, rfl⟩
  have d0 : Below w.heap.size w W0 := by rw [← hW0]; exact (Below.refl _ _).alloc (Nat.le_refl _) _
  have B0 : W0.heap[w.heap.size]? = some (.cells #[.int .i64 x1, .int .i64 x2] 88 (0, 0)) := by rw [← hW0]; exact World.alloc_heap_new _ _
  have h0 := h.on d0
  have c2 : W0.cell? ⟨wb, 2, none⟩ = some (.func (.func 55) #[] #[.pointer (some ⟨bn, 0, none⟩)]) := cell_of h0.bw rfl
  obtain ⟨t0, k0, rfl⟩ := own_slice h0.rM
  obtain ⟨s0, j0, rfl⟩ := own_slice h0.rS
  have c3 : W0.cell? ⟨mb, 0, none⟩ = some (.slice t0 (natI T).length k0) := cell_of h0.bm rfl
  have TM := meetI_new B W0 N bn gn vT T h0.nu q hq hm hN (Nat.le_trans hB d0.size)
  have hTl := nodup_le h.nu.nd h.nu.lt
  have hle := h.le
  have hnl := natI_len T
  obtain ⟨L, hL⟩ : ∃ L, T.length = L := ⟨_, rfl⟩
  rw [hL] at TM hTl hle hnl
  rw [hnl] at c3
  have H0 := hide (And.intro h0 (And.intro d0 (And.intro B0 hL)))
  rw [hnl, hle] at H0
  have HL := hide (And.intro hle hnl)
  clear d0 B0 h0 h hL hle hnl
  go_enter Try.func69, Try.ntmps69
  go_upto_region 3 with (go_at_call 55; refine TM.mono ?_; rintro e w3 ⟨rfl, vT', HN⟩)
  obtain ⟨hR, hd0, hB0, hTL⟩ := H0.out
  obtain ⟨hN1, hO1, hV1⟩ := HN.out
  have tgn : ∃ cs fr, w3.heap[gn]? = some (.cells cs 3 fr) := by obtain ⟨cur, e, _⟩ := hN1.rN; exact ⟨_, _, e⟩
  have tgn0 : ∃ cs fr, W0.heap[gn]? = some (.cells cs 3 fr) := by obtain ⟨cur, e, _⟩ := hR.nu.rN; exact ⟨_, _, e⟩
  have ty : ∀ {k : Nat} {cs : Array Value} {t : TypeId} {fr : Nat × Nat}, W0.heap[k]? = some (.cells cs t fr) → t ≠ 55 → t ≠ 3 → ¬ (k = bn ∨ k = gn ∨ vT.ownBlock = some k) := fun {k cs t fr} hk h55 h3 hh => by
    rcases hh with e | e | e
    · rw [e, hR.nu.bb] at hk; cases hk; exact h55 rfl
    · obtain ⟨cs', fr', e'⟩ := tgn0
      rw [e, e'] at hk; cases hk; exact h3 rfl
    · exact row_tag hR.nu.rT hk h3 e
  have kp : ∀ {k : Nat} {cs : Array Value} {t : TypeId} {fr : Nat × Nat}, W0.heap[k]? = some (.cells cs t fr) → t ≠ 55 → t ≠ 3 → w3.heap[k]? = some (.cells cs t fr) := fun {k cs t fr} hk h55 h3 => (hO1.block k (Array.getElem?_eq_some_iff.1 hk).1 (ty hk h55 h3)).trans hk
  have bm3 := kp hR.bm (by decide) (by decide)
  have bs3 := kp hR.bs (by decide) (by decide)
  have bw3 := kp hR.bw (by decide) (by decide)
  have be3 := kp hB0 (by decide) (by decide)
  have rM3 : OwI w3 B (.slice t0 L k0) (natI T) := row_only hR.rM hO1 (fun k hk hh => by
    rcases hh with e | e | e
    · subst e; exact row_tag hR.rM hR.nu.bb (by decide) hk
    · subst e; exact hR.nG hk
    · exact hR.nT k hk e)
  have rS3 : OwS w3 B (.slice s0 L j0) St := row_only hR.rS hO1 (fun k hk hh => by
    obtain ⟨cs, fr, e⟩ : ∃ cs fr, W0.heap[k]? = some (.cells cs 88 fr) := by
      rcases hR.rS.2 with ⟨hv, _⟩ | ⟨g', cap', cur', hv, _, hgc, _⟩
      · rw [hv] at hk; cases hk
      · rw [hv] at hk; cases hk; exact ⟨_, _, hgc⟩
    exact ty e (by decide) (by decide) hh)
  have hB3 : B ≤ w3.heap.size := Nat.le_trans (Nat.le_trans hB hd0.size) hO1.size
  have D3 : Below B w w3 := (hd0.mono hB).trans (hO1.toBelow (Nat.le_trans hB hd0.size) (fun k hk => by
    rcases hk with e | e | e
    · rw [e]; exact hR.nu.lb
    · rw [e]; exact hR.nu.lg
    · exact (hR.nu.rT.lt k e).1))
  have HA := hide (And.intro hN1 (And.intro bm3 (And.intro bs3 (And.intro bw3 (And.intro rM3 (And.intro rS3 (And.intro D3 hV1)))))))
  obtain ⟨e0, he0⟩ : ∃ e, w.heap.size = e := ⟨_, rfl⟩
  rw [he0] at be3
  have p1 : w3.cell? ⟨mb, 0, none⟩ = some (.slice t0 L k0) := cell_of bm3 rfl
  have p2 : w3.cell? ⟨sb, 0, none⟩ = some (.slice s0 L j0) := cell_of bs3 rfl
  have p3 : w3.cell? ⟨e0, 0, none⟩ = some (.int .i64 x1) := cell_of be3 rfl
  have p4 : w3.cell? ⟨e0, 1, none⟩ = some (.int .i64 x2) := cell_of be3 rfl
  have al : ∀ (o : Obj) (a : Addr) (u : Value), w3.cell? a = some u → (w3.alloc o).cell? a = some u := fun o a u h => (World.cell?_of_block (((Below.refl w3.heap.size w3).alloc (Nat.le_refl _) o).block a.block (World.block_lt_of_cell? w3 a h))).trans h
  have al2 : ∀ (o o' : Obj) (a : Addr) (u : Value), w3.cell? a = some u → ((w3.alloc o).alloc o').cell? a = some u := fun o o' a u h => (World.cell?_of_block ((((Below.refl w3.heap.size w3).alloc (Nat.le_refl _) o).alloc (by simp) o').block a.block (World.block_lt_of_cell? w3 a h))).trans h
  have t1 := fun o => al o _ _ p1
  have t2 := fun o => al o _ _ p2
  have t3 := fun o => al o _ _ p3
  have t4 := fun o => al o _ _ p4
  have u1 := fun o o' => al2 o o' _ _ p1
  have u2 := fun o o' => al2 o o' _ _ p2
  have u3 := fun o o' => al2 o o' _ _ p3
  have u4 := fun o o' => al2 o o' _ _ p4
  rw [he0]
  have HE0 := hide he0
  have HBE := hide be3
  have HNT : Hid (∀ k, (Value.slice t0 L k0).ownBlock = some k → vT'.ownBlock ≠ some k) := hide (fun k hk e => by
    rcases hV1 with e2 | ⟨k', e2, h2⟩
    · exact hR.nT k hk (e2.symm.trans e)
    · rw [e2] at e
      have := Option.some.inj e
      have := (hR.rM.lt k hk).2
      omega)
  have HNG := hide hR.nG
  have HLO := hide (And.intro hR.lw (And.intro hR.lm (And.intro hR.ls hTL)))
  have HOM := hide rM3
  have HOS := hide rS3
  have HLL := HL.out
  clear he0 bm3 bs3 bw3 be3 rM3 rS3 D3 hN1 hO1 hV1 hR hd0 hB0 hTL tgn tgn0 ty kp c2 c3 TM hW0
  have OA1 : ∀ o, OwI (w3.alloc o) B (.slice t0 L k0) (natI T) := fun o => own_below HOM.out ((Below.refl _ _).alloc (Nat.le_refl _) o)
  have OA2 : ∀ o o', OwI ((w3.alloc o).alloc o') B (.slice t0 L k0) (natI T) := fun o o' => own_below HOM.out (((Below.refl _ _).alloc (Nat.le_refl _) o).alloc (by simp) o')
  have NA1 := World.news_of_block (cs := #[.int .i64 (q : Int)]) (t := 3) (fr := (0, 0)) (heap_alloc_new w3 (.cells #[.int .i64 (q : Int)] 3))
  unfold OwI at OA1 OA2
  rw [HLL.2] at OA1 OA2
  have OB1 : ∀ o, OwS (w3.alloc o) B (.slice s0 L j0) St := fun o => own_below HOS.out ((Below.refl _ _).alloc (Nat.le_refl _) o)
  have OB2 : ∀ o o', OwS ((w3.alloc o).alloc o') B (.slice s0 L j0) St := fun o o' => own_below HOS.out (((Below.refl _ _).alloc (Nat.le_refl _) o).alloc (by simp) o')
  unfold OwS at OB1 OB2
  rw [HLL.1] at OB1 OB2
  obtain ⟨oq, hoq⟩ : ∃ o, Obj.cells #[.int .i64 (q : Int)] 3 (0, 0) = o := ⟨_, rfl⟩
  obtain ⟨os, hos⟩ : ∃ o, Obj.cells #[.int .i64 x1, .int .i64 x2] 88 (0, 0) = o := ⟨_, rfl⟩
  have b1 : ∀ {k : Nat} {ob : Obj} (o : Obj), w3.heap[k]? = some ob → (w3.alloc o).heap[k]? = some ob := fun o h => (((Below.refl w3.heap.size w3).alloc (Nat.le_refl _) o).block _ (Array.getElem?_eq_some_iff.1 h).1).trans h
  have b2 : ∀ {k : Nat} {ob : Obj} (o o' : Obj), w3.heap[k]? = some ob → ((w3.alloc o).alloc o').heap[k]? = some ob := fun o o' h => ((((Below.refl w3.heap.size w3).alloc (Nat.le_refl _) o).alloc (by simp) o').block _ (Array.getElem?_eq_some_iff.1 h).1).trans h
  have bm3 := HA.out.2.1
  have bs3 := HA.out.2.2.1
  have nm : (Value.slice t0 L k0).ownBlock ≠ some mb := fun e => row_tag HOM.out bm3 (by decide) e
  have ns : (Value.slice t0 L k0).ownBlock ≠ some sb := fun e => row_tag HOM.out bs3 (by decide) e
  have be3 : w3.heap[e0]? = some (.cells #[.int .i64 x1, .int .i64 x2] 88 (0, 0)) := HBE.out
  have nee : (Value.slice t0 L k0).ownBlock ≠ some e0 := fun e => row_tag HOM.out be3 (by decide) e
  have nm2 : (Value.slice s0 L j0).ownBlock ≠ some mb := fun e => row_tag HOS.out bm3 (by decide) e
  have ns2 : (Value.slice s0 L j0).ownBlock ≠ some sb := fun e => row_tag HOS.out bs3 (by decide) e
  have hms : mb ≠ sb := fun e => by rw [e, bs3] at bm3; cases bm3
  have hsm : sb ≠ mb := fun e => hms e.symm
  have HB := hide (And.intro bm3 (And.intro bs3 be3))
  clear bm3 bs3 be3
  have NQ1 : ∀ (j : Nat) (u : Value), [Value.int .i64 (q : Int)][j]? = some u → (w3.alloc oq).cell? ((⟨w3.heap.size, 0, none⟩ : Addr).add j) = some u := one_cells (t := 3) (by rw [← hoq]; exact World.alloc_heap_new _ _)
  have NQ2 : ∀ (j : Nat) (u : Value), [Value.int .i64 (q : Int)][j]? = some u → ((w3.alloc oq).alloc os).cell? ((⟨w3.heap.size, 0, none⟩ : Addr).add j) = some u := one_cells (t := 3) (by rw [← hoq]; exact (Below.heap_alloc _ _ _ (by simp)).trans (World.alloc_heap_new _ _))
  have NQ3 : ∀ (j : Nat) (u : Value), [Value.int .i64 (q : Int)][j]? = some u → ((w3.alloc os).alloc oq).cell? ((⟨w3.heap.size + 1, 0, none⟩ : Addr).add j) = some u := one_cells (t := 3) (by rw [← hoq]; have := World.alloc_heap_new (w3.alloc os) (.cells #[.int .i64 (q : Int)] 3); simpa using this)
  have NS1 : ∀ (W : World) (j : Nat) (u : Value), [Value.int .i64 x1, Value.int .i64 x2][j]? = some u → (W.alloc os).cell? ((⟨W.heap.size, 0, none⟩ : Addr).add j) = some u := fun W => two_cells (t := 88) (by rw [← hos]; exact World.alloc_heap_new _ _)
  have v3 : ((w3.alloc os).alloc oq).heap[w3.heap.size]? = some os := (Below.heap_alloc _ _ _ (by simp)).trans (World.alloc_heap_new _ _)
  have v2 : ((w3.alloc oq).alloc os).heap[w3.heap.size + 1]? = some os := by have := World.alloc_heap_new (w3.alloc oq) os; simpa using this
  have lM := HOM.out.lt
  have OA1d : (w3.alloc oq).drew.ownsRow B 3 1 (.slice t0 L k0) L ((natI T).map (Value.int .i64)) := OA1 oq
  have OA2d : ((w3.alloc oq).alloc os).drew.ownsRow B 3 1 (.slice t0 L k0) L ((natI T).map (Value.int .i64)) := OA2 oq os
  have OA3d : ((w3.alloc os).alloc oq).drew.ownsRow B 3 1 (.slice t0 L k0) L ((natI T).map (Value.int .i64)) := OA2 os oq
  go_region_law (first
    | (refine step_append_lies _ (by rfl) _ _ _ (by rfl) B 3 i3 _ 1 8 Try.underlying22 hi3 hz30 hz31 hz32 rfl (by omega) (.slice t0 L k0) L _ (by rfl) (by with_reducible exact OA1d) _ 1 1 [.int .i64 (q : Int)] (by rfl) (by rfl) (by exact NQ1) (by simp [Value.oneCell']) (by omega) (by unfold maxLen; omega) (by omega) (by simp; omega) _ rfl ?_; intro g9 c9 w4 ho4 hg4 ha4 hl4; have bm4 := grow_blk hg4 (by exact b1 _ HB.out.1) nm; have bs4 := grow_blk hg4 (by exact b1 _ HB.out.2.1) ns; have be4 := grow_blk hg4 (by exact b1 _ HB.out.2.2) nee;  have q1 : w4.cell? ⟨mb, 0, none⟩ = some (.slice t0 L k0) := cell_of bm4 rfl; have q2 : w4.cell? ⟨sb, 0, none⟩ = some (.slice s0 L j0) := cell_of bs4 rfl; have q3 : w4.cell? ⟨e0, 0, none⟩ = some (.int .i64 x1) := cell_of be4 rfl; have q4 : w4.cell? ⟨e0, 1, none⟩ = some (.int .i64 x2) := cell_of be4 rfl; have q5 : ∀ o, (w4.alloc o).cell? ⟨sb, 0, none⟩ = some (.slice s0 L j0) := fun o => cell_of (blk_al o bs4) rfl; have q6 : ∀ o, (w4.alloc o).cell? ⟨mb, 0, none⟩ = some (.slice t0 L k0) := fun o => cell_of (blk_al o bm4) rfl; have OS4 : w4.ownsRow B 88 2 (.slice s0 L j0) L (St.flatMap encS) := row_only (by exact OB1 _) (grown_only hg4) (fun k hk e => own_two HOM.out HOS.out e hk); have O34 : Only w3 w4 (fun k => (Value.slice t0 L k0).ownBlock = some k) := (Only.ofBelow (by exact ((Below.refl w3.heap.size w3).alloc (Nat.le_refl _) oq).drew)).trans (grown_only hg4); have G9 : (Value.slice t0 L k0).ownBlock = some g9 ∨ w3.heap.size ≤ g9 := ha4.imp id (fun e => by rw [e]; exact (((Below.refl w3.heap.size w3).alloc (Nat.le_refl _) oq).drew).size); have HQ := hide (And.intro ho4 (And.intro O34 (And.intro G9 (And.intro hl4 (And.intro bm4 bs4))))); have HS4 := hide OS4; clear ho4 hg4 ha4 hl4 OS4 O34 G9 bm4 bs4 be4)
    | (refine step_append_lies _ (by rfl) _ _ _ (by rfl) B 3 i3 _ 1 8 Try.underlying22 hi3 hz30 hz31 hz32 rfl (by omega) (.slice t0 L k0) L _ (by rfl) (by with_reducible exact OA2d) _ 1 1 [.int .i64 (q : Int)] (by rfl) (by rfl) (by exact NQ2) (by simp [Value.oneCell']) (by omega) (by unfold maxLen; omega) (by omega) (by simp; omega) _ rfl ?_; intro g9 c9 w4 ho4 hg4 ha4 hl4; have bm4 := grow_blk hg4 (by exact b2 _ _ HB.out.1) nm; have bs4 := grow_blk hg4 (by exact b2 _ _ HB.out.2.1) ns; have be4 := grow_blk hg4 (by exact b2 _ _ HB.out.2.2) nee; have bo4 := grow_blk hg4 (by exact v2) (fun e => by have := (lM _ e).2; omega); have q1 : w4.cell? ⟨mb, 0, none⟩ = some (.slice t0 L k0) := cell_of bm4 rfl; have q2 : w4.cell? ⟨sb, 0, none⟩ = some (.slice s0 L j0) := cell_of bs4 rfl; have q3 : w4.cell? ⟨e0, 0, none⟩ = some (.int .i64 x1) := cell_of be4 rfl; have q4 : w4.cell? ⟨e0, 1, none⟩ = some (.int .i64 x2) := cell_of be4 rfl; have q5 : ∀ o, (w4.alloc o).cell? ⟨sb, 0, none⟩ = some (.slice s0 L j0) := fun o => cell_of (blk_al o bs4) rfl; have q6 : ∀ o, (w4.alloc o).cell? ⟨mb, 0, none⟩ = some (.slice t0 L k0) := fun o => cell_of (blk_al o bm4) rfl; have OS4 : w4.ownsRow B 88 2 (.slice s0 L j0) L (St.flatMap encS) := row_only (by exact OB2 _ _) (grown_only hg4) (fun k hk e => own_two HOM.out HOS.out e hk); have O34 : Only w3 w4 (fun k => (Value.slice t0 L k0).ownBlock = some k) := (Only.ofBelow (by exact (((Below.refl w3.heap.size w3).alloc (Nat.le_refl _) oq).alloc (by simp) os).drew)).trans (grown_only hg4); have G9 : (Value.slice t0 L k0).ownBlock = some g9 ∨ w3.heap.size ≤ g9 := ha4.imp id (fun e => by rw [e]; exact ((((Below.refl w3.heap.size w3).alloc (Nat.le_refl _) oq).alloc (by simp) os).drew).size); have HQ := hide (And.intro ho4 (And.intro O34 (And.intro G9 (And.intro hl4 (And.intro bm4 bs4))))); have HS4 := hide OS4; clear ho4 hg4 ha4 hl4 OS4 O34 G9 bm4 bs4 be4)
    | (refine step_append_lies _ (by rfl) _ _ _ (by rfl) B 3 i3 _ 1 8 Try.underlying22 hi3 hz30 hz31 hz32 rfl (by omega) (.slice t0 L k0) L _ (by rfl) (by with_reducible exact OA3d) _ 1 1 [.int .i64 (q : Int)] (by rfl) (by rfl) (by exact NQ3) (by simp [Value.oneCell']) (by omega) (by unfold maxLen; omega) (by omega) (by simp; omega) _ rfl ?_; intro g9 c9 w4 ho4 hg4 ha4 hl4; have bm4 := grow_blk hg4 (by exact b2 _ _ HB.out.1) nm; have bs4 := grow_blk hg4 (by exact b2 _ _ HB.out.2.1) ns; have be4 := grow_blk hg4 (by exact b2 _ _ HB.out.2.2) nee; have bo4 := grow_blk hg4 (by exact v3) (fun e => by have := (lM _ e).2; omega); have q1 : w4.cell? ⟨mb, 0, none⟩ = some (.slice t0 L k0) := cell_of bm4 rfl; have q2 : w4.cell? ⟨sb, 0, none⟩ = some (.slice s0 L j0) := cell_of bs4 rfl; have q3 : w4.cell? ⟨e0, 0, none⟩ = some (.int .i64 x1) := cell_of be4 rfl; have q4 : w4.cell? ⟨e0, 1, none⟩ = some (.int .i64 x2) := cell_of be4 rfl; have q5 : ∀ o, (w4.alloc o).cell? ⟨sb, 0, none⟩ = some (.slice s0 L j0) := fun o => cell_of (blk_al o bs4) rfl; have q6 : ∀ o, (w4.alloc o).cell? ⟨mb, 0, none⟩ = some (.slice t0 L k0) := fun o => cell_of (blk_al o bm4) rfl; have OS4 : w4.ownsRow B 88 2 (.slice s0 L j0) L (St.flatMap encS) := row_only (by exact OB2 _ _) (grown_only hg4) (fun k hk e => own_two HOM.out HOS.out e hk); have O34 : Only w3 w4 (fun k => (Value.slice t0 L k0).ownBlock = some k) := (Only.ofBelow (by exact (((Below.refl w3.heap.size w3).alloc (Nat.le_refl _) os).alloc (by simp) oq).drew)).trans (grown_only hg4); have G9 : (Value.slice t0 L k0).ownBlock = some g9 ∨ w3.heap.size ≤ g9 := ha4.imp id (fun e => by rw [e]; exact ((((Below.refl w3.heap.size w3).alloc (Nat.le_refl _) os).alloc (by simp) oq).drew).size); have HQ := hide (And.intro ho4 (And.intro O34 (And.intro G9 (And.intro hl4 (And.intro bm4 bs4))))); have HS4 := hide OS4; clear ho4 hg4 ha4 hl4 OS4 O34 G9 bm4 bs4 be4)
    | (refine step_append_lies _ (by rfl) _ _ _ (by rfl) B 88 i8 _ 2 16 Try.underlying53 hi8 hz80 hz81 hz82 rfl (by omega) (.slice s0 L j0) L _ (by rfl) (by with_reducible exact own_al HS4.out _) _ 1 1 [.int .i64 x1, .int .i64 x2] (by rfl) (by rfl) (by exact NS1 _) (by simp [Value.oneCell']) (by omega) (by unfold maxLen; omega) (by omega) (by have := HQ.out.2.1.size; simp at this ⊢; omega) _ rfl ?_; intro g8 c8 w5 ho5 hg5 ha5 hl5; have bm5 := grow_blk hg5 (by exact blk_al _ HQ.out.2.2.2.2.1) nm2; have bs5 := grow_blk hg5 (by exact blk_al _ HQ.out.2.2.2.2.2) ns2; have r1 : w5.cell? ⟨mb, 0, none⟩ = some (.slice t0 L k0) := cell_of bm5 rfl; have r2 : w5.cell? ⟨sb, 0, none⟩ = some (.slice s0 L j0) := cell_of bs5 rfl; have y1 : w5.frozen? ⟨mb, 0, none⟩ = false := fz_of bm5; have y2 : w5.frozen? ⟨sb, 0, none⟩ = false := fz_of bs5; have O45 : Only w4 w5 (fun k => (Value.slice s0 L j0).ownBlock = some k) := (Only.ofBelow (by exact (blk_b w4 os))).trans (grown_only hg5); have HV := hide (And.intro ho5 O45); clear ho5 hg5 ha5 hl5 bm5 bs5 O45)
    | (refine step_append_lies _ (by rfl) _ _ _ (by rfl) B 88 i8 _ 2 16 Try.underlying53 hi8 hz80 hz81 hz82 rfl (by omega) (.slice s0 L j0) L _ (by rfl) (by with_reducible exact HS4.out) _ 1 1 [.int .i64 x1, .int .i64 x2] (by rfl) (by rfl) (by exact two_cells (t := 88) (by rw [hos]; exact bo4)) (by simp [Value.oneCell']) (by omega) (by unfold maxLen; omega) (by omega) (by have := HQ.out.2.1.size; simp at this ⊢; omega) _ rfl ?_; intro g8 c8 w5 ho5 hg5 ha5 hl5; have bm5 := grow_blk hg5 (by exact id HQ.out.2.2.2.2.1) nm2; have bs5 := grow_blk hg5 (by exact id HQ.out.2.2.2.2.2) ns2; have r1 : w5.cell? ⟨mb, 0, none⟩ = some (.slice t0 L k0) := cell_of bm5 rfl; have r2 : w5.cell? ⟨sb, 0, none⟩ = some (.slice s0 L j0) := cell_of bs5 rfl; have y1 : w5.frozen? ⟨mb, 0, none⟩ = false := fz_of bm5; have y2 : w5.frozen? ⟨sb, 0, none⟩ = false := fz_of bs5; have O45 : Only w4 w5 (fun k => (Value.slice s0 L j0).ownBlock = some k) := (Only.ofBelow (by exact (Below.refl w4.heap.size w4))).trans (grown_only hg5); have HV := hide (And.intro ho5 O45); clear ho5 hg5 ha5 hl5 bm5 bs5 O45))
  all_goals
    go_wp2_with fail
    go_ret
    exact ⟨rfl, _, _, _, hide (ends_fin HA.out.1 HA.out.2.1 HA.out.2.2.1 HA.out.2.2.2.1 HA.out.2.2.2.2.1 HA.out.2.2.2.2.2.1 HA.out.2.2.2.2.2.2.1 hB HNT.out HNG.out HLO.out.1 HLO.out.2.1 HLO.out.2.2.1 HLO.out.2.2.2 HLL.1 HQ.out.2.1 HQ.out.2.2.1 HQ.out.1 HV.out.2 HV.out.1)⟩
/-! ### A region whose operations read, and whose callees make memory -/
/-- How far a world is from another one: draws, and blocks behind it. -/
structure GB where
  d : Nat
  os : Array Obj
  deriving Inhabited
/-- That world. -/
def gw (w : World) (d : Nat) (os : Array Obj) : World := { w with heap := w.heap ++ os, drawn := d }
theorem gw_below (w : World) (d : Nat) (os : Array Obj) : Below w.heap.size w (gw w d os) :=
  ⟨rfl, rfl, rfl, by simp [gw], fun k hk => by simp [gw, Array.getElem?_append_left hk]⟩
theorem below_gw {w w' : World} (h : Below w.heap.size w w') : ∃ p : GB, w' = gw w p.d p.os := by
  refine ⟨⟨w'.drawn, w'.heap.extract w.heap.size w'.heap.size⟩, ?_⟩
  have e : w'.heap = w.heap ++ w'.heap.extract w.heap.size w'.heap.size := by
    apply Array.ext_getElem?
    intro i
    by_cases hi : i < w.heap.size
    · rw [Array.getElem?_append_left hi, h.block i hi]
    · rw [Array.getElem?_append_right (by omega), Array.getElem?_extract]
      by_cases h2 : i < w'.heap.size
      · rw [if_pos (by omega), show w.heap.size + (i - w.heap.size) = i by omega]
      · rw [if_neg (by omega), Array.getElem?_eq_none (by omega)]
  have h1 := h.os
  have h2 := h.tape
  have h3 := h.output
  cases w'
  simp only at h1 h2 h3 e
  subst h1 h2 h3
  unfold gw
  simp only
  rw [← e]
theorem gw_cell {w : World} {a : Addr} {v : Value} (h : w.cell? a = some v) (d : Nat) (os : Array Obj) : (gw w d os).cell? a = some v :=
  ((gw_below w d os).cell (World.block_lt_of_cell? w a h)).trans h
/-- A callee's contract there. -/
theorem calls_gw {f : FuncId} {args : Array Value} {w : World} {d : Nat} {os : Array Obj} {v : Value}
    (h : Calls Try.prog f args (gw w d os) fun e w' => e = .returned v ∧ Below (gw w d os).heap.size (gw w d os) w') : Calls Try.prog f args (gw w d os) fun e w'' => e = .returned v ∧ ∃ p : GB, w'' = gw w p.d p.os :=
  h.mono fun _ _ ⟨he, hb⟩ => ⟨he, below_gw ((gw_below w d os).trans (hb.mono (gw_below w d os).size))⟩
theorem wp_region_phg {id : Nat} {Q : Exit → Act → World → Prop} {a : Act} {w : World} {l : List Oper} (n : Nat) (L : Array Bool) (hB : phaseB l.toArray n L = true)
    (h : wpQuiet Try.prog l.toArray (fun w' => ∃ p : GB, w' = gw w p.d p.os) (fun a' => ∀ w', (∃ p : GB, w' = gw w p.d p.os) → wpList Try.prog l.toArray Q (l.drop n) a' w') (l.take n) a) : (Code.region id l.toArray true).wp Try.prog Q a w := by
  unfold phaseB at hB
  simp only [Bool.and_eq_true] at hB
  obtain ⟨⟨⟨⟨h0, h1⟩, h2⟩, h3⟩, h4⟩ := hB
  have hn : n ≤ l.length := by simpa using Nat.le_of_ble_eq_true h0
  refine wp_region_any (by kernel_rfl) ?_
  have hl1 : (l.take n).length = n := by simp [hn]
  have hl2 : (l.drop n).length = l.toArray.size - n := by simp
  have F := wpFirst_lex (P := Try.prog) (C := fun w' => ∃ p : GB, w' = gw w p.d p.os) (L := L) h1 h2 (l.take n) 0 (Array.replicate l.toArray.size false) a (closed_none _ _)
    (fun j o ho => by
      rw [List.getElem?_take] at ho
      split at ho
      · simpa using ho
      · cases ho) (by rw [hl1]; exact h3) h
  have A := wpAny_of_first (Q := Q) (k := l.toArray.size - n) (fun listed a' w' hw' hT => by
    obtain ⟨e, hT⟩ := hT
    subst e
    have := wpAny_line (P := Try.prog) (md := .any) (Q := Q) (l.drop n) n _ a' w' (fun j o ho => by rw [List.getElem?_drop] at ho; simpa using ho) (by rw [hl2]; exact h4) (hT w' hw')
    rwa [hl2] at this) _ _ _ (w.drewN 1) ⟨⟨w.drawn + 1, #[]⟩, by simp [gw, World.drewN]⟩ F
  rw [hl1, show l.toArray.size - n + n = l.toArray.size by simp only [List.size_toArray]; omega] at A
  exact A
end Go.Proofs.Ytocoghljmlpdeaa
