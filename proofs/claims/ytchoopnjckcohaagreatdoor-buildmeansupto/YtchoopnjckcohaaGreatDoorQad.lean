import Derived.Test.YtchoopnjckcohaaGreatDoorQac
import Derived.Lib.Small
import Derived.Shelf.SlSortCmp.NoneTotal
import Derived.Ground.SlsfProg
import Derived.DeepKeys4
import Derived.Maps.OwnSet
set_option maxRecDepth 100000
set_option maxHeartbeats 40000000
namespace Go.Proofs.YtchoopnjckcohaaGreatDoor
open Go.RowKit
/-! ### Short words for drawn regions -/
theorem zsb {A : Act} {t : Nat} {v : Value} (h : A.tmps.getD t undef = v) : A.tmps.getD t undef = v ∧ A.tmps[t]?.getD undef = v := ⟨h, by rw [← h, Array.getD_eq_getD_getElem?]⟩
theorem zsr {A : Act} {t : Nat} {x v : Value} (h : A.tmps.getD t undef = x) (e : x = v) : A.tmps.getD t undef = v ∧ A.tmps[t]?.getD undef = v := zsb (h.trans e)
theorem zsq {A : Act} {t j a b : Nat} {y : Nat → Value} {L : List It} {W : World} {v : Value} (h : A.tmps.getD t undef = y j) (e : ∃ lo hi, a ≤ lo ∧ hi ≤ b ∧ (itL L j).p y lo hi W) (hv : itL L j = vI j v) : A.tmps.getD t undef = v ∧ A.tmps[t]?.getD undef = v := by
  obtain ⟨_, _, _, _, e⟩ := e
  rw [hv] at e
  exact zsb (h.trans e)
theorem zsg {A : Act} {y : Nat → Value} {l : List Oper} {L : List It} {E : Array Edge} {a b : Nat} {W : World} {v : Value} (j t : Nat) (g : Ground) (hy : ∀ (j : Nat) (o' : Oper) (d : Nat), l[j]? = some o' → o'.dst = some d → A.tmps.getD d undef = y j) (hd : ∀ e ∈ E, Region.binds .any e = true → ndB e = true → ∃ lo hi, a ≤ lo ∧ hi ≤ b ∧ (itL L e.on).p y lo hi W) (hv : itL L j = vI j v) (h1 : l[j]?.bind Oper.dst = some t := by exact rfl) (h3 : (⟨j, g⟩ : Edge) ∈ E := by simp) (h4 : Region.binds .any ⟨j, g⟩ = true := by exact rfl) (h5 : ndB ⟨j, g⟩ = true := by exact rfl) : A.tmps.getD t undef = v ∧ A.tmps[t]?.getD undef = v := by
  cases h : l[j]? with
  | none => rw [h] at h1; cases h1
  | some o => rw [h] at h1; exact zsq (hy j o t h h1) (hd _ h3 h4 h5) hv
theorem zgd {A : Act} {y : Nat → Value} {l : List Oper} {L : List It} {E : Array Edge} {a b : Nat} {W : World} {v : Bool} (j t : Nat) (hy : ∀ (j : Nat) (o' : Oper) (d : Nat), l[j]? = some o' → o'.dst = some d → A.tmps.getD d undef = y j) (hd : ∀ e ∈ E, Region.binds .any e = true → ndB e = true → ∃ lo hi, a ≤ lo ∧ hi ≤ b ∧ (itL L e.on).p y lo hi W) (hv : itL L j = vI j (.bool v)) (h1 : l[j]?.bind Oper.dst = some t := by exact rfl) (h3 : (⟨j, .guard⟩ : Edge) ∈ E := by simp) (h4 : Region.binds .any ⟨j, .guard⟩ = true := by exact rfl) (h5 : ndB ⟨j, .guard⟩ = true := by exact rfl) : A.tmps[t]? = some (.bool v) := got_bool (zsg j t .guard hy hd hv h1 h3 h4 h5).1
theorem zgu {A : Act} {y : Nat → Value} {l : List Oper} {L : List It} {E : Array Edge} {a b : Nat} {W : World} (j t : Nat) (hy : ∀ (j : Nat) (o' : Oper) (d : Nat), l[j]? = some o' → o'.dst = some d → A.tmps.getD d undef = y j) (hd : ∀ e ∈ E, Region.binds .any e = true → ndB e = true → ∃ lo hi, a ≤ lo ∧ hi ≤ b ∧ (itL L e.on).p y lo hi W) (hv : itL L j = vI j undef) (h1 : l[j]?.bind Oper.dst = some t := by exact rfl) (h3 : (⟨j, .guard⟩ : Edge) ∈ E := by simp) (h4 : Region.binds .any ⟨j, .guard⟩ = true := by exact rfl) (h5 : ndB ⟨j, .guard⟩ = true := by exact rfl) : A.tmps[t]? = none ∨ A.tmps[t]? = some (.tuple #[]) := got_undef (zsg j t .guard hy hd hv h1 h3 h4 h5).1
theorem MadeI.v {w : World} {L : List It} {ops : Array Oper} {n : Nat} {is : Nat → Bool} {y : Nat → Value} {lo hi : Nat → Nat} {W : World} (hM : MadeI w L ops n is y lo hi W) (i : Nat) {v : Value} (h1 : i < n) (h2 : is i = true) (h3 : notR (L.map It.ret) i = true) (hv : itL L i = vI i v) : y i = v := by
  have e := hM.fact i h1 h2 (notR_all i h3)
  rw [hv] at e
  exact e
theorem zkq {w : World} {L : List It} {i : Nat} {A : Act} {d : Option Nat} {y : Nat → Value} {W : World} {K : Act → World → Prop} {x : Value} (hK : Shut (∀ x W', Stp w L i y W W' → (itL L i).p (updV y i x) W.heap.size W'.heap.size W' → K (A.put d x) W')) (hm : MonIL 0 L) (hd : Below w.heap.size w W) (h : (itL L i).p (updV y i x) W.heap.size W.heap.size W) : K (A.put d x) W := hK.out x W (stp_of hm hd (Below.refl _ _)) h
theorem zc5 {w : World} {b : Nat} {t : TypeId} {fr : Nat × Nat} {v0 v1 v2 v3 v4 : Value} (h : w.heap[b]? = some (.cells #[v0, v1, v2, v3, v4] t fr)) : w.cell? ⟨b, 0, none⟩ = some v0 ∧ w.cell? ⟨b, 1, none⟩ = some v1 ∧ w.cell? ⟨b, 2, none⟩ = some v2 ∧ w.cell? ⟨b, 3, none⟩ = some v3 ∧ w.cell? ⟨b, 4, none⟩ = some v4 := ⟨cell_of h rfl, cell_of h rfl, cell_of h rfl, cell_of h rfl, cell_of h rfl⟩
theorem zc12 {w : World} {b : Nat} {t : TypeId} {fr : Nat × Nat} {v0 v1 v2 v3 v4 v5 v6 v7 v8 v9 v10 v11 : Value} (h : w.heap[b]? = some (.cells #[v0, v1, v2, v3, v4, v5, v6, v7, v8, v9, v10, v11] t fr)) : w.cell? ⟨b, 0, none⟩ = some v0 ∧ w.cell? ⟨b, 1, none⟩ = some v1 ∧ w.cell? ⟨b, 2, none⟩ = some v2 ∧ w.cell? ⟨b, 3, none⟩ = some v3 ∧ w.cell? ⟨b, 4, none⟩ = some v4 ∧ w.cell? ⟨b, 5, none⟩ = some v5 ∧ w.cell? ⟨b, 6, none⟩ = some v6 ∧ w.cell? ⟨b, 7, none⟩ = some v7 ∧ w.cell? ⟨b, 8, none⟩ = some v8 ∧ w.cell? ⟨b, 9, none⟩ = some v9 ∧ w.cell? ⟨b, 10, none⟩ = some v10 ∧ w.cell? ⟨b, 11, none⟩ = some v11 := ⟨cell_of h rfl, cell_of h rfl, cell_of h rfl, cell_of h rfl, cell_of h rfl, cell_of h rfl, cell_of h rfl, cell_of h rfl, cell_of h rfl, cell_of h rfl, cell_of h rfl, cell_of h rfl⟩
end Go.Proofs.YtchoopnjckcohaaGreatDoor
namespace Go.Proofs.YtchoopnjckcohaaGreatDoor
open Go.RowKit
attribute [local go_sem] Oper.semAt_some
theorem readsI_of {W : World} {ao : Option Addr} {L : List Int} (h : RdN W ao L) : ReadsI W ao L := fun k hk => by
 obtain ⟨g, o, e, c⟩ := h k hk
 exact ⟨g, o, e, by rw [c, List.getD_eq_getElem?_getD, List.getElem?_eq_getElem hk]; rfl⟩
theorem okI_of {n : Nat} {L : List Int} (h : L.all (inB n) = true) : okI n L = true := by
 unfold okI
 rw [List.all_eq_true] at h ⊢
 intro x hx
 have := h x hx
 simpa [inB] using this
theorem own_blk {w w' : World} {B e sz n g cap : Nat} {xs : List Value} (h : w.ownsRow B e sz (.slice (some ⟨g, 0, none⟩) n cap) n xs) (hg : w'.heap[g]? = w.heap[g]?) : w'.ownsRow B e sz (.slice (some ⟨g, 0, none⟩) n cap) n xs := by
 refine ⟨h.1, ?_⟩
 rcases h.2 with z | ⟨g', cap', cur, e1, hb, hc, rest⟩
 · exact .inl z
 · cases e1
   exact .inr ⟨g, cap, cur, rfl, hb, hg.trans hc, rest⟩
theorem IsSet.keep {w w' : World} {b g cap n X : Nat} (h : IsSet w b g cap n X) (h1 : w'.heap[b]? = w.heap[b]?) (h2 : w'.heap[g]? = w.heap[g]?) : IsSet w' b g cap n X := ⟨h.hn, h.hX, h1.trans h.blk, own_blk h.own h2⟩
def ends (back : Bool) (e : EdT) : Int × Int := if back then (e.2.2, e.1) else (e.1, e.2.2)
open Go.Maps
structure Only (w w' : World) (R : Nat → Prop) : Prop where
 os : w'.os = w.os
 tape : w'.tape = w.tape
 output : w'.output = w.output
 size : w.heap.size ≤ w'.heap.size
 block : ∀ k, k < w.heap.size → ¬ R k → w'.heap[k]? = w.heap[k]?
theorem Only.ofBelow {w w' : World} {R : Nat → Prop} (h : Below w.heap.size w w') : Only w w' R := ⟨h.os, h.tape, h.output, h.size, fun k hk _ => h.block k hk⟩
theorem Only.toBelow {w w' : World} {R : Nat → Prop} {B : Nat} (h : Only w w' R) (hB : B ≤ w.heap.size) (hR : ∀ k, R k → B ≤ k) : Below B w w' :=
 ⟨h.os, h.tape, h.output, h.size, fun k hk => h.block k (by omega) (fun hr => by have := hR k hr; omega)⟩
theorem Only.trans {a b c : World} {R : Nat → Prop} (h : Only a b R) (k : Only b c R) : Only a c R :=
 ⟨k.os.trans h.os, k.tape.trans h.tape, k.output.trans h.output, Nat.le_trans h.size k.size, fun i hi hn => (k.block i (Nat.lt_of_lt_of_le hi h.size) hn).trans (h.block i hi hn)⟩
theorem Only.mono {w w' : World} {R R' : Nat → Prop} (h : Only w w' R) (hr : ∀ k, k < w.heap.size → R k → R' k) : Only w w' R' := ⟨h.os, h.tape, h.output, h.size, fun k hk hn => h.block k hk (fun h' => hn (hr k hk h'))⟩
theorem Only.andNew {a b c : World} {R S : Nat → Prop} (h : Only a b R) (k : Only b c S) (hs : ∀ i, i < a.heap.size → S i → R i) : Only a c R :=
 ⟨k.os.trans h.os, k.tape.trans h.tape, k.output.trans h.output, Nat.le_trans h.size k.size, fun i hi hn => (k.block i (Nat.lt_of_lt_of_le hi h.size) (fun hx => hn (hs i hi hx))).trans (h.block i hi hn)⟩
theorem flat_get {α : Type} (cs : α → List Value) (sz : Nat) (hl : ∀ a, (cs a).length = sz) : ∀ (l : List α) (j i : Nat) (hj : j < l.length), i < sz → (l.flatMap cs)[j * sz + i]? = (cs l[j])[i]?
 | a :: l, 0, i, _, hi => by
  rw [Nat.zero_mul, Nat.zero_add, List.flatMap_cons, List.getElem?_append_left (by rw [hl]; exact hi)]; rfl
 | a :: l, j + 1, i, hj, hi => by
  rw [List.flatMap_cons, List.getElem?_append_right (by rw [hl, Nat.succ_mul]; omega), hl, show (j + 1) * sz + i - sz = j * sz + i by rw [Nat.succ_mul]; omega]
  exact flat_get cs sz hl l j i (by simpa using hj) hi
theorem nan_any (x : Int) (w : World) : Calls Tryz.prog 158 #[.int .i64 x] w fun e w' => e = .returned (.bool false) ∧ w' = w := by
 go_enter Tryz.func158, Tryz.ntmps158
 go_wp2
 go_ret
 simp
theorem cmpi_any (x y : Int) (w : World) : Calls Tryz.prog 145 #[.int .i64 x, .int .i64 y] w fun e w' => e = .returned (.int .i64 (Lib.compareInt x y)) ∧ w' = w := by
 unfold Lib.compareInt
 by_cases h1 : x < y
 · go_enter Tryz.func145, Tryz.ntmps145
   go_wp2_with (go_at_call 158; refine (nan_any _ _).mono ?_; rintro e w' ⟨rfl, rfl⟩)
   go_ret
   simp
 · by_cases h2 : y < x
   · go_enter Tryz.func145, Tryz.ntmps145
     go_wp2_with (go_at_call 158; refine (nan_any _ _).mono ?_; rintro e w' ⟨rfl, rfl⟩)
     go_ret
     simp
   · go_enter Tryz.func145, Tryz.ntmps145
     go_wp2_with (go_at_call 158; refine (nan_any _ _).mono ?_; rintro e w' ⟨rfl, rfl⟩)
     go_ret
     simp
def cmpE (x y : EdT) : Int := if x.1 ≠ y.1 then Lib.compareInt x.1 y.1 else if x.2.1 ≠ y.2.1 then Lib.compareInt x.2.1 y.2.1 else Lib.compareInt x.2.2 y.2.2
theorem two_new (w : World) (a b : Obj) (n : Nat) : ((w.alloc a).alloc b).drewN n = { w with heap := w.heap ++ #[a, b], drawn := w.drawn + n } := by
 have h : (w.heap.push a).push b = w.heap ++ #[a, b] := by apply Array.ext'; simp
 show ({ w with heap := (w.heap.push a).push b, drawn := w.drawn + n } : World) = _
 rw [h]
theorem cmpE_any (x y : EdT) (w : World) : Calls Tryz.prog 147 #[.agg #[.int .i64 x.1, .int .i64 x.2.1, .int .i64 x.2.2], .agg #[.int .i64 y.1, .int .i64 y.2.1, .int .i64 y.2.2]] w fun e w' => e = .returned (.int .i64 (cmpE x y)) ∧ ∃ q os, w' = { w with heap := w.heap ++ os, drawn := w.drawn + q } := by
 obtain ⟨x0, x1, x2⟩ := x
 obtain ⟨y0, y1, y2⟩ := y
 simp only
 obtain ⟨W0, hW0⟩ : ∃ W0, (w.alloc (.cells #[.int .i64 x0, .int .i64 x1, .int .i64 x2] 61)).alloc (.cells #[.int .i64 y0, .int .i64 y1, .int .i64 y2] 61) = W0 := ⟨_, rfl⟩
 have a0 : W0.heap[w.heap.size]? = some (.cells #[.int .i64 x0, .int .i64 x1, .int .i64 x2] 61 (0, 0)) := by rw [← hW0]; exact (Below.heap_alloc _ _ _ (by simp)).trans (World.alloc_heap_new _ _)
 have b0 : W0.heap[w.heap.size + 1]? = some (.cells #[.int .i64 y0, .int .i64 y1, .int .i64 y2] 61 (0, 0)) := by
  rw [← hW0]
  have := World.alloc_heap_new (w.alloc (.cells #[.int .i64 x0, .int .i64 x1, .int .i64 x2] 61)) (.cells #[.int .i64 y0, .int .i64 y1, .int .i64 y2] 61)
  simpa using this
 have c0 : W0.cell? ⟨w.heap.size, 0, none⟩ = some (.int .i64 x0) := by simp [World.cell?, a0]
 have c1 : W0.cell? ⟨w.heap.size, 1, none⟩ = some (.int .i64 x1) := by simp [World.cell?, a0]
 have c2 : W0.cell? ⟨w.heap.size, 2, none⟩ = some (.int .i64 x2) := by simp [World.cell?, a0]
 have d0 : W0.cell? ⟨w.heap.size + 1, 0, none⟩ = some (.int .i64 y0) := by simp [World.cell?, b0]
 have d1 : W0.cell? ⟨w.heap.size + 1, 1, none⟩ = some (.int .i64 y1) := by simp [World.cell?, b0]
 have d2 : W0.cell? ⟨w.heap.size + 1, 2, none⟩ = some (.int .i64 y2) := by simp [World.cell?, b0]
 have HW := hide hW0
 clear a0 b0
 unfold cmpE
 simp only
 have T0 := fun W => cmpi_any x0 y0 W
 have T1 := fun W => cmpi_any x1 y1 W
 have T2 := fun W => cmpi_any x2 y2 W
 by_cases h0 : x0 = y0
 · by_cases h1 : x1 = y1
   · by_cases h2 : x2 = y2
     · subst h0; subst h1; subst h2
       rw [if_neg (by simp), if_neg (by simp), show Lib.compareInt x2 x2 = 0 by simp [Lib.compareInt]]
       go_enter Tryz.func147, Tryz.ntmps147
       go_wp2_with fail
       go_ret
       exact ⟨rfl, 0, _, by rw [← HW.out]; exact two_new w _ _ 0⟩
     · subst h0; subst h1
       rw [if_neg (by simp), if_neg (by simp)]
       go_enter Tryz.func147, Tryz.ntmps147
       go_wp2_with (go_at_call 145; refine (T2 _).mono ?_; rintro e w' ⟨rfl, rfl⟩)
       go_ret
       exact ⟨rfl, 0, _, by rw [← HW.out]; exact two_new w _ _ 0⟩
   · subst h0
     rw [if_neg (by simp), if_pos h1]
     go_enter Tryz.func147, Tryz.ntmps147
     go_wp2_with (go_at_call 145; refine (T1 _).mono ?_; rintro e w' ⟨rfl, rfl⟩)
     go_ret
     exact ⟨rfl, 0, _, by rw [← HW.out]; exact two_new w _ _ 0⟩
 · rw [if_pos h0]
   go_enter Tryz.func147, Tryz.ntmps147
   go_wp2_with (go_at_call 145; refine (T0 _).mono ?_; rintro e w' ⟨rfl, rfl⟩)
   go_ret
   exact ⟨rfl, 0, _, by rw [← HW.out]; exact two_new w _ _ 0⟩
end Go.Proofs.YtchoopnjckcohaaGreatDoor
namespace Go.Proofs
open Go.Shelf
end Go.Proofs
namespace Go.Proofs.YtchoopnjckcohaaGreatDoor
open Go.RowKit Go.Maps Go.Shelf Go.Sort
def encE (x : EdT) : List Value := [.int .i64 x.1, .int .i64 x.2.1, .int .i64 x.2.2]
def ltE (x y : EdT) : Bool := decide (x.1 < y.1 ∨ (x.1 = y.1 ∧ (x.2.1 < y.2.1 ∨ (x.2.1 = y.2.1 ∧ x.2.2 < y.2.2))))
theorem ltE_iff {x y : EdT} : ltE x y = true ↔ x.1 < y.1 ∨ (x.1 = y.1 ∧ (x.2.1 < y.2.1 ∨ (x.2.1 = y.2.1 ∧ x.2.2 < y.2.2))) := decide_eq_true_iff
theorem ltE_not {x y : EdT} : ltE x y = false ↔ ¬ (x.1 < y.1 ∨ (x.1 = y.1 ∧ (x.2.1 < y.2.1 ∨ (x.2.1 = y.2.1 ∧ x.2.2 < y.2.2)))) := decide_eq_false_iff_not
theorem cmp_pos (x y : Int) : (x < y ∧ Lib.compareInt x y = -1) ∨ (y < x ∧ Lib.compareInt x y = 1) ∨ (x = y ∧ Lib.compareInt x y = 0) := by
 unfold Lib.compareInt
 rcases Int.lt_trichotomy x y with h | h | h
 · exact .inl ⟨h, by simp [h]⟩
 · exact .inr (.inr ⟨h, by simp [h]⟩)
 · exact .inr (.inl ⟨h, by rw [if_neg (by omega), if_pos (by omega)]⟩)
theorem ltE_is : ltOf cmpE = ltE := by
 funext x y
 unfold ltOf cmpE ltE
 rcases cmp_pos x.1 y.1 with ⟨h1, e1⟩ | ⟨h1, e1⟩ | ⟨h1, e1⟩ <;> rcases cmp_pos x.2.1 y.2.1 with ⟨h2, e2⟩ | ⟨h2, e2⟩ | ⟨h2, e2⟩ <;> rcases cmp_pos x.2.2 y.2.2 with ⟨h3, e3⟩ | ⟨h3, e3⟩ | ⟨h3, e3⟩ <;> simp only [e1, e2, e3] <;> (repeat' split) <;> simp <;> omega
theorem swoE : SWO ltE where
 irrefl x := by rw [ltE_not]; omega
 trans x y z h1 h2 := by rw [ltE_iff] at *; omega
 ntrans x y z h1 h2 := by rw [ltE_not] at *; omega
theorem totE (x y : EdT) (h1 : ltE x y = false) (h2 : ltE y x = false) : x = y := by
 rw [ltE_not] at h1 h2
 exact Prod.ext (by omega) (Prod.ext (by omega) (by omega))
theorem encE_len (x : EdT) : (encE x).length = 3 := rfl
theorem flatE (L : List EdT) : (flatK encE 3 L.toArray).toList = L.flatMap encE := by
 have hz : (L.flatMap encE).length = L.length * 3 := by
  induction L with
  | nil => rfl
  | cons x L ih => rw [List.flatMap_cons, List.length_append, ih, encE_len, List.length_cons]; omega
 apply List.ext_getElem?
 intro t
 by_cases ht : t < L.length * 3
 · have h1 : t / 3 < L.length := by omega
   have h2 : t % 3 < 3 := by omega
   have e := flat_get encE 3 encE_len L (t / 3) (t % 3) h1 h2
   rw [show t / 3 * 3 + t % 3 = t by omega] at e
   rw [e, Array.getElem?_toList]
   have hs : t < (flatK encE 3 L.toArray).size := by simpa using ht
   have g := get_flatK encE 3 L.toArray t (by simpa using ht)
   rw [getElem!_pos _ t hs] at g
   rw [Array.getElem?_eq_getElem hs, g]
   have h3 : t % 3 < (encE L[t / 3]).length := by rw [encE_len]; exact h2
   have h4 : L.toArray[t / 3]! = L[t / 3] := by rw [getElem!_pos _ _ (by simpa using h1)]; simp
   rw [List.getElem?_eq_getElem h3, h4, getElem!_pos (encE L[t / 3]) (t % 3) h3]
 · rw [List.getElem?_eq_none (by rw [Array.length_toList, size_flatK]; simpa using ht), List.getElem?_eq_none (by omega)]
def sortE (L : List EdT) : List EdT := L.mergeSort fun x y => !ltE y x
theorem sortE_len (L : List EdT) : (sortE L).length = L.length := List.length_mergeSort _
theorem cmpLays (blk off size : Nat) (w : World) : CmpLays Tryz.prog 147 #[] encE 3 cmpE blk off size w := fun _ _ _ _ x y => (cmpE_any x y _).mono fun _ _ ⟨he, q, os, hw⟩ => ⟨he, q, os, hw⟩
theorem sortE_any (W : World) (B : Nat) (v : Value) (L : List EdT) (hv : W.ownsRow B 61 3 v L.length (L.flatMap encE)) (hl : L.length ≤ 4194304) :
 Calls Tryz.prog 159 #[v, .func (.func 147) #[] #[]] W fun e w' => e = .returned (.tuple #[]) ∧ w'.ownsRow B 61 3 v L.length ((sortE L).flatMap encE) ∧ Only W w' (fun k => v.ownBlock = some k) := by
 rcases hv.2 with ⟨rfl, h0⟩ | ⟨g, cap, cur, rfl, hB, hb, hn, hcap, hsz, hxs⟩
 · obtain rfl : L = [] := List.eq_nil_of_length_eq_zero h0
   refine (AnyF.slices_SortFunc_none Tryz.sortEdge none 0 (.func (.func 147) #[] #[]) W).mono ?_
   rintro e w' ⟨rfl, rfl⟩
   refine ⟨rfl, ?_, Only.ofBelow (Below.refl _ _)⟩
   rw [show sortE [] = [] by simp [sortE]]
   exact hv
 · have eg : ∀ args w, (callFunc 147 args).run Tryz.prog w = .ok (.enter 147 args) w := enters_of Tryz.func147 (by kernel_rfl) rfl
   have hg : g < W.heap.size := (Array.getElem?_eq_some_iff.1 hb).1
   have hH : HoldsK encE 3 W g 0 L.toArray := by
    intro j hj
    have hj2 : j < L.length * 3 := by simpa using hj
    refine ⟨?_, by simp [World.frozen?, hb]⟩
    have hfe : (flatK encE 3 L.toArray).toList[j]? = cur.toList[j]? := by rw [flatE, ← hxs, List.getElem?_take_of_lt hj2]
    have hs : j < (flatK encE 3 L.toArray).size := hj
    rw [Array.getElem?_toList, Array.getElem?_eq_getElem hs, Array.getElem?_toList] at hfe
    simp only [World.cell?, hb, Nat.zero_add]
    simp only [Option.isSome_none, Bool.false_eq_true, if_false, id]
    rw [← hfe, getElem!_pos (flatK encE 3 L.toArray) j hs]
   have hO : SWO (ltOf cmpE) := by rw [ltE_is]; exact swoE
   have H := AnyQ.slices_SortFunc_total Tryz.sortEdge 3 Tryz.isAgg61 Tryz.sizeOf61 encE encE_len (fun x v hv => by simp [encE] at hv; rcases hv with rfl | rfl | rfl <;> rfl) cmpE hO 147 #[] g 0 cap L.toArray W eg (cmpLays g 0 _ W) hH hg (by simp; omega) (by rw [ltE_is]; exact totE)
   rw [ltE_is] at H
   have e1 : L.toArray.size = L.length := by simp
   rw [e1] at H
   refine Calls.mono H ?_
   rintro e w' ⟨rfl, n, os, rfl⟩
   have hq : (sortWorldK encE 3 W g 0 n (sortE L).toArray os).heap[g]? = some (.cells (putCells id 0 (flatK encE 3 (sortE L).toArray) cur) 61 (0, 0)) := by
    unfold sortWorldK putRowK
    rw [heap_grow_old _ _ (by simpa using hg)]
    simp [putRow, mapBlock, Sort.ahead, Array.getElem?_modify, hb, onCells]
   have hfs : (flatK encE 3 (sortE L).toArray).size = L.length * 3 := by simp [sortE_len]
   refine ⟨rfl, ⟨?_, .inr ⟨g, cap, _, rfl, hB, hq, hn, hcap, by simp [putCells, hsz], ?_⟩⟩, ?_⟩
   · rw [← flatE, Array.length_toList, hfs]
   · rw [← flatE]
     apply List.ext_getElem?
     intro j
     by_cases hj : j < L.length * 3
     · have hj3 : j < cur.size := by rw [hsz]; have := Nat.mul_le_mul_right 3 hn; omega
       rw [List.getElem?_take_of_lt hj, Array.getElem?_toList, Array.getElem?_toList]
       simp [putCells, hj3, sortE_len, hj]
     · rw [List.getElem?_take_eq_none (by omega), List.getElem?_eq_none (by rw [Array.length_toList, hfs]; omega)]
   · refine ⟨rfl, rfl, rfl, by simp [sortWorldK, putRowK, putRow, mapBlock, Sort.ahead, grow], fun k hk hne => ?_⟩
     unfold sortWorldK putRowK
     rw [heap_grow_old _ _ (by simpa using hk)]
     have : g ≠ k := fun e => hne (by rw [e]; rfl)
     simp [putRow, mapBlock, Sort.ahead, Array.getElem?_modify, this]
end Go.Proofs.YtchoopnjckcohaaGreatDoor
