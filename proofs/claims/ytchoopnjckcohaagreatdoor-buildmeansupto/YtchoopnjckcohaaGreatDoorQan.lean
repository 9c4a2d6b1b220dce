import Derived.Test.YtchoopnjckcohaaGreatDoorQam
import Derived.Laws.IdiomStrings
import Derived.Laws.AppendOwnNone
set_option maxRecDepth 100000
set_option maxHeartbeats 40000000
namespace Go.Proofs.YtchoopnjckcohaaGreatDoor
open Go.RowKit Go.Maps Go.Shelf
attribute [local go_sem] Oper.semAt_some
def ledL (E : List EdT) (p s : Int) (C : List Int) : List EdT := E ++ C.map fun q => (p, s, q)
theorem ledL_snoc (E : List EdT) (p s : Int) (C : List Int) (i : Nat) (h : i < C.length) : ledL E p s (C.take (i + 1)) = ledL E p s (C.take i) ++ [(p, s, C[i])] := by
 unfold ledL
 rw [List.take_succ_eq_append_getElem h, List.map_append, ← List.append_assoc]
 rfl
theorem ledL_len (E : List EdT) (p s : Int) (C : List Int) : (ledL E p s C).length = E.length + C.length := by simp [ledL]
theorem grown_only {w w' : World} {r : Option Nat} (h : w.grownBy w' r) : Only w w' (fun k => r = some k) := ⟨h.os, h.tape, h.output, h.size, fun k hk hn => h.block k hk (fun e => hn e.symm)⟩
theorem rows_differ {W : World} {B C n m sz sy : Nat} {e t : TypeId} {v u : Value} {xs ys : List Value} (h : W.ownsRow B e sz v n xs) (h2 : W.ownsRow C t sy u m ys) (hne : t ≠ e) {k : Nat} (hk : v.ownBlock = some k) (hk2 : u.ownBlock = some k) : False := by
 rcases h2.2 with ⟨hv, _⟩ | ⟨g', cap', cur', hv, _, hgc, _⟩
 · subst hv
   cases hk2
 · subst hv
   have e2 : g' = k := by simpa [Value.ownBlock] using hk2
   subst e2
   exact row_tag h hgc hne hk
theorem wpList_appG {ops : Array Oper} {rest : List Oper} {o : Oper} {a : Act} {Q : Exit → Act → World → Prop} {w : World} (hgd : o.guard = none) (s x : Operand)
 (ho : o.op = .call { callee := .builtin .append, args := #[s, x], argTypes := #[23, 23] }) (B : Nat) (v : Value) (X : List EdT) (hs : a.eval s = v) (hown : w.ownsRow B 61 3 v X.length (X.flatMap encE)) (p : Nat) (y : EdT) (hx : a.eval x = .slice (some ⟨p, 0, none⟩) 1 1) (hp : w.heap[p]? = some (.cells #[.int .i64 y.1, .int .i64 y.2.1, .int .i64 y.2.2] 61 (0, 0))) (hl : X.length ≤ 16777216) (hB : B ≤ w.heap.size)
 (h : ∀ v' w', Hid (w'.ownsRow B 61 3 v' (X ++ [y]).length ((X ++ [y]).flatMap encE)) → Hid (Only w w' (fun k => v.ownBlock = some k)) → wpList Tryz.prog ops Q rest (a.put o.dst v') w') : wpList Tryz.prog ops Q (o :: rest) a w := by
 obtain ⟨i5, hi5, hz50, hz51, hz52⟩ := info_parts info59
 refine wpList_append_own_at _ hgd s x 23 ho B 61 i5 _ 3 24 Tryz.underlying23 hi5 hz50 hz51 hz52 rfl (by omega) v X.length (X.flatMap encE) hs hown ⟨p, 0, none⟩ 1 1 (encE y) hx rfl (three_cells hp) (by simp [encE, Value.oneCell']) (by unfold maxLen; omega) (by omega) (by omega) ?_
 intro v2 w2 h2 hgr _ _
 exact h v2 w2 (hide (by rw [List.flatMap_append, List.length_append]; simpa using h2)) (hide (grown_only hgr))
structure LedI (w : World) (B : Nat) (E : List EdT) (p s : Int) (C : List Int) (i : Nat) (vc v : Value) (wr : World) : Prop where
 ed : wr.ownsRow B 61 3 v (ledL E p s (C.take i)).length ((ledL E p s (C.take i)).flatMap encE)
 en : wr.ownsRow B 3 1 vc C.length (C.map (Value.int .i64))
 be : Below B w wr
theorem ledI_next {w wr w5 : World} {B i : Nat} {E : List EdT} {p s : Int} {C : List Int} {vc v v5 : Value} {cs : Array Value} (hB : B ≤ w.heap.size) (h : LedI w B E p s C i vc v wr) (hi : i < C.length) (ho : w5.ownsRow B 61 3 v5 (ledL E p s (C.take i) ++ [(p, s, C[i])]).length ((ledL E p s (C.take i) ++ [(p, s, C[i])]).flatMap encE)) (oo : Only (wr.alloc (.cells cs 61)) w5 (fun k => v.ownBlock = some k)) : LedI w B E p s C (i + 1) vc v5 w5 := by
 have d1 : Below wr.heap.size wr (wr.alloc (.cells cs 61)) := (Below.refl _ _).alloc (Nat.le_refl _) _
 have e1 := own_below h.ed d1
 have c1 := own_below h.en d1
 have b1 := h.be.trans (d1.mono (Nat.le_trans hB h.be.size))
 refine ⟨by rw [ledL_snoc _ _ _ _ _ hi]; exact ho, row_only c1 oo (fun k hk hk2 => rows_differ e1 c1 (by decide) hk2 hk), b1.trans (oo.toBelow (Nat.le_trans hB b1.size) (fun k hk => (e1.lt k hk).1))⟩
theorem lead_any (w : World) (B : Nat) (vE vL : Value) (E : List EdT) (p s : Int) (n : Nat) (L : List Int) (hn : n = L.length) (hE : Hid (w.ownsRow B 61 3 vE E.length (E.flatMap encE))) (hL : Hid (w.ownsRow B 3 1 vL n (L.map (Value.int .i64)))) (hB : B ≤ w.heap.size) (hl : n ≤ 4194304) (hl2 : E.length ≤ 4194304) :
 Calls Tryz.prog 123 #[vE, .int .i64 p, .int .i64 s, vL] w fun e w' => ∃ v', e = .returned v' ∧ Hid (w'.ownsRow B 61 3 v' (ledL E p s (riseL L)).length ((ledL E p s (riseL L)).flatMap encE) ∧ Below B w w') := by
 have TS := sort_own w B n vL L hn hL.out hl
 obtain ⟨C, hC⟩ : ∃ C, riseL L = C := ⟨_, rfl⟩
 have hCl : C.length ≤ 4194304 := by rw [← hC]; have := riseL_len L; omega
 rw [hC]
 have HC := hide hC
 clear hC
 go_enter Tryz.func123, Tryz.ntmps123
 go_wp2_with (go_at_call 148; refine TS.mono ?_; rintro e w1 ⟨rfl, o1, g1⟩)
 have HO := hide (And.intro o1 g1)
 clear TS o1 g1
 have TC := compact_own w1 B n vL (sortI L) (by rw [sortI_len]; exact hn) HO.out.1 hl
 rw [show Lib.compact (sortI L) = riseL L from rfl, HC.out] at TC
 go_wp2_with (go_at_call 149; refine TC.mono ?_; rintro e w2 ⟨v2, rfl, o2, g2, b2⟩; obtain ⟨ac, cc, rfl⟩ := own_slice o2)
 have H0 : Hid (LedI w B E p s C 0 (.slice ac C.length cc) vE w2) := hide (by
  have e1 := row_only hE.out (grown_only HO.out.2) (fun k hk hk2 => rows_differ hE.out hL.out (by decide) hk hk2)
  have e2 := row_only e1 (grown_only g2) (fun k hk hk2 => rows_differ e1 HO.out.1 (by decide) hk hk2)
  have d1 := (grown_only HO.out.2).toBelow hB (fun k hk => (hL.out.lt k hk).1)
  have d2 := (grown_only g2).toBelow (Nat.le_trans hB d1.size) (fun k hk => (HO.out.1.lt k hk).1)
  have z : ledL E p s (C.take 0) = E := by simp [ledL]
  exact ⟨by rw [z]; exact e2, o2, d1.trans d2⟩)
 clear TC HO o2 g2 b2 hL hE hn HC
 go_loopw [0, 16] (fun ev iv wr => ∃ i : Nat, i ≤ C.length ∧ iv = .int .i64 (i : Int) ∧ Hid (LedI w B E p s C i (.slice ac C.length cc) ev wr)) (fun _ iv _ => C.length - (intOf iv).toNat)
 case atStart => exact ⟨0, Nat.zero_le _, rfl, H0⟩
 case round =>
  obtain ⟨i, hi, rfl, HY⟩ := hrel
  clear H0
  by_cases hil : i < C.length
  · have i0 : (0 : Int) ≤ (i : Int) := by omega
    have i1 : (i : Int) < (C.length : Int) := by omega
    obtain ⟨g, o, rfl, q⟩ := own_rdN HY.out.en i hil
    have hbw : B ≤ wr.heap.size := Nat.le_trans hB HY.out.be.size
    have hll : (ledL E p s (C.take i)).length ≤ 16777216 := by rw [ledL_len, List.length_take]; omega
    obtain ⟨x, hx⟩ : ∃ x, C[i] = x := ⟨_, rfl⟩
    rw [hx] at q
    have HX := hide hx
    clear hx
    go_wp2_with (at_builtin; refine wpList_appG rfl _ _ rfl B u0 (ledL E p s (C.take i)) rfl (own_below HY.out.ed ((Below.refl _ _).alloc (Nat.le_refl _) _)) wr.heap.size (p, s, x) rfl (World.alloc_heap_new _ _) hll (by rw [World.size_alloc]; omega) ?_; intro v5 w5 HO5 HG5)
    refine ⟨⟨i + 1, by omega, by go_num, hide (ledI_next hB HY.out hil (by rw [HX.out]; exact HO5.out) HG5.out)⟩, by simp [intOf]; omega⟩
  · obtain rfl : i = C.length := by omega
    have i1 : ¬ (C.length : Int) < (C.length : Int) := by omega
    go_wp2_with fail
    refine bodyPost_ret (results_tmp rfl _ _ _) rfl ?_
    have z := HY.out.ed
    rw [List.take_length] at z
    exact ⟨_, rfl, hide ⟨z, HY.out.be⟩⟩
theorem Only.grown {w w' : World} {r : Option Nat} {R : Nat → Prop} (h : w.grownBy w' r) (hr : ∀ k, r = some k → R k) : Only w w' R :=
 ⟨h.os, h.tape, h.output, h.size, fun k hk hn => h.block k hk (fun e => hn (hr k e.symm))⟩
section
variable {w W W' : World} {N : Nat} {v : Nat → Value} {bx : List (Nat × Array Value × TypeId)} {e sz n : Nat → Nat} {mk : Nat → Nat → Value} {x : Nat → List Value} {a : Nat → Nat}
end
theorem RwA.down {B : Nat} {w : World} {m R : Nat} {Ed : List EdT} {aE : Option Addr} {n cE g : Nat} (h : RwA B w m R Ed aE n cE g) : RwA 0 w m R Ed aE n cE g := ⟨owns_down h.ow (Nat.zero_le _), h.fi, Nat.zero_le _⟩
theorem RwA.on {B : Nat} {w w' : World} {m R : Nat} {Ed : List EdT} {aE : Option Addr} {n cE g : Nat} (h : RwA B w m R Ed aE n cE g) (d : Below w.heap.size w w') : RwA B w' m R Ed aE n cE g := ⟨own_below h.ow d, h.fi.below d h.fi.lt, h.ge⟩
def rwsP (m R n : Nat) (Ed : List EdT) : MkP := fun x _ _ W => ∃ aE cE g, x = .agg #[.int .i64 (m : Int), .slice aE n cE, .slice (some ⟨g, 0, none⟩) (R + 1) (R + 1)] ∧ RwA 0 W m R Ed aE n cE g
theorem rwsP_mono {m R n : Nat} {Ed : List EdT} : MonoP (rwsP m R n Ed) := fun _ _ _ _ _ _ d ⟨aE, cE, g, e, h⟩ => ⟨aE, cE, g, e, h.on d⟩
def finP (N : Nat) (Fi : List Int) : MkP := fun x _ _ W => ∃ gf, x = .slice (some ⟨gf, 0, none⟩) N N ∧ Mrw W gf 4 N (fun c => .bool (finB Fi c)) N
theorem finP_mono {N : Nat} {Fi : List Int} : MonoP (finP N Fi) := fun _ _ _ _ _ _ d ⟨gf, e, h⟩ => ⟨gf, e, h.below d h.lt⟩
def b3P : MkP := fun x lo hi W => x = .pointer (some ⟨lo, 0, none⟩) ∧ lo < hi ∧ W.heap[lo]? = some (.cells #[.int .i64 0, .slice none 0 0, .slice none 0 0] 93 (0, 0))
theorem b3P_mono : MonoP b3P := fun _ _ _ _ _ hs d ⟨e, l, z⟩ => ⟨e, l, (d.block _ (by omega)).trans z⟩
def b1P : MkP := fun x lo hi W => x = .pointer (some ⟨lo, 0, none⟩) ∧ lo < hi ∧ W.heap[lo]? = some (.cells #[.slice none 0 0] 77 (0, 0))
theorem b1P_mono : MonoP b1P := fun _ _ _ _ _ hs d ⟨e, l, z⟩ => ⟨e, l, (d.block _ (by omega)).trans z⟩
structure BrA (w W : World) (N m R n : Nat) (Ed : List EdT) (Fi : List Int) (p6 p7 : Nat) (aE : Option Addr) (cE g gf : Nat) : Prop where
 b6 : W.heap[p6]? = some (.cells #[.int .i64 (m : Int), .slice aE n cE, .slice (some ⟨g, 0, none⟩) (R + 1) (R + 1)] 93 (0, 0))
 b7 : W.heap[p7]? = some (.cells #[.slice (some ⟨gf, 0, none⟩) N N] 77 (0, 0))
 rw : RwA 0 W m R Ed aE n cE g
 fi : Mrw W gf 4 N (fun c => .bool (finB Fi c)) N
 be : Below w.heap.size w W
theorem BrA.on {w W W' : World} {N m R n : Nat} {Ed : List EdT} {Fi : List Int} {p6 p7 : Nat} {aE : Option Addr} {cE g gf : Nat} (h : BrA w W N m R n Ed Fi p6 p7 aE cE g gf) (d : Below W.heap.size W W') : BrA w W' N m R n Ed Fi p6 p7 aE cE g gf :=
 ⟨blk_on h.b6 d, blk_on h.b7 d, h.rw.on d, h.fi.below d h.fi.lt, h.be.trans (d.mono h.be.size)⟩
theorem mrw_tag {W : World} {g N k : Nat} {t t' : TypeId} {f : Nat → Value} {cs : Array Value} (h : Mrw W g t N f N) (z : W.heap[k]? = some (.cells cs t' (0, 0))) (ne : t ≠ t') : g ≠ k := fun e => by
 obtain ⟨cur, h1, _⟩ := h
 rw [e, z] at h1
 cases h1
 exact ne rfl
theorem brA_of {w W : World} {N m R n : Nat} {Ed : List EdT} {Fi : List Int} {p6 p7 : Nat} {aE : Option Addr} {cE g gf : Nat} (z1 : RwA 0 W m R Ed aE n cE g) (z3 : Mrw W gf 4 N (fun c => .bool (finB Fi c)) N) (z4 : W.heap[p6]? = some (.cells #[.int .i64 0, .slice none 0 0, .slice none 0 0] 93 (0, 0))) (z5 : W.heap[p7]? = some (.cells #[.slice none 0 0] 77 (0, 0))) (d : Below w.heap.size w W) (a4 : w.heap.size ≤ p6) (a5 : w.heap.size ≤ p7) :
 BrA w ((((W.setCell ⟨p6, 0, none⟩ (.int .i64 (m : Int))).setCell ⟨p6, 1, none⟩ (.slice aE n cE)).setCell ⟨p6, 2, none⟩ (.slice (some ⟨g, 0, none⟩) (R + 1) (R + 1))).setCell ⟨p7, 0, none⟩ (.slice (some ⟨gf, 0, none⟩) N N)) N m R n Ed Fi p6 p7 aE cE g gf := by
 have o1 := only3 W p6 0 1 2 (.int .i64 (m : Int)) (.slice aE n cE) (.slice (some ⟨g, 0, none⟩) (R + 1) (R + 1))
 have s1 := set3 W p6 _ _ _ (.int .i64 (m : Int)) (.slice aE n cE) (.slice (some ⟨g, 0, none⟩) (R + 1) (R + 1)) 93 z4
 have ne : p7 ≠ p6 := fun e => by rw [e, z4] at z5; cases z5
 have t5 := (o1.block p7 (Array.getElem?_eq_some_iff.1 z5).1 ne).trans z5
 have r1 := row_only z1.ow o1 (fun k hk e => by subst e; exact row_tag z1.ow z4 (by decide) hk)
 have m1 := z1.fi.only o1 (mrw_tag z1.fi z4 (by decide))
 have f1 := z3.only o1 (mrw_tag z3 z4 (by decide))
 have d1 := d.trans (o1.toBelow d.size (fun k hk => by rw [hk]; exact a4))
 generalize ((W.setCell ⟨p6, 0, none⟩ (.int .i64 (m : Int))).setCell ⟨p6, 1, none⟩ (.slice aE n cE)).setCell ⟨p6, 2, none⟩ (.slice (some ⟨g, 0, none⟩) (R + 1) (R + 1)) = W1 at *
 have o2 := only_set W1 p7 0 (.slice (some ⟨gf, 0, none⟩) N N)
 exact ⟨(o2.block p6 (Array.getElem?_eq_some_iff.1 s1).1 (fun e => ne e.symm)).trans s1, heap_setCell_same _ _ 0 _ 77 _ t5, ⟨row_only r1 o2 (fun k hk e => by subst e; exact row_tag r1 t5 (by decide) hk), m1.only o2 (mrw_tag m1 t5 (by decide)), Nat.zero_le _⟩, f1.only o2 (mrw_tag f1 t5 (by decide)), d1.trans (o2.toBelow d1.size (fun k hk => by rw [hk]; exact a5))⟩
def endL (Ed : List EdT) (Fi Bg : List Int) (p s : Nat) : List Int := if (toL (fromL Ed p (s : Int))).any (fun x => finB Fi x.toNat) then toL (fromL Ed p (s : Int)) ++ Bg else toL (fromL Ed p (s : Int))
def celL (Ed : List EdT) (Fi Bg : List Int) (p s : Nat) : List EdT := (riseL (endL Ed Fi Bg p s)).map fun q => ((p : Int), (s : Int), q)
def rowL (Ed : List EdT) (Fi Bg : List Int) (p k : Nat) : List EdT := (List.range k).flatMap (celL Ed Fi Bg p)
def brL (Ed : List EdT) (Fi Bg : List Int) (m p : Nat) : List EdT := (List.range p).flatMap (fun q => rowL Ed Fi Bg q m)
theorem rowL_next (Ed : List EdT) (Fi Bg : List Int) (p k : Nat) : rowL Ed Fi Bg p (k + 1) = rowL Ed Fi Bg p k ++ celL Ed Fi Bg p k := by simp [rowL, List.range_succ]
theorem brL_next (Ed : List EdT) (Fi Bg : List Int) (m p : Nat) : brL Ed Fi Bg m (p + 1) = brL Ed Fi Bg m p ++ rowL Ed Fi Bg p m := by simp [brL, List.range_succ]
theorem rowL_le (Ed : List EdT) (Fi Bg : List Int) (p : Nat) {k j : Nat} (h : k ≤ j) : (rowL Ed Fi Bg p k).length ≤ (rowL Ed Fi Bg p j).length := by
 induction h with
 | refl => exact Nat.le_refl _
 | step h ih => rw [rowL_next, List.length_append]; omega
theorem brL_le (Ed : List EdT) (Fi Bg : List Int) (m : Nat) {k j : Nat} (h : k ≤ j) : (brL Ed Fi Bg m k).length ≤ (brL Ed Fi Bg m j).length := by
 induction h with
 | refl => exact Nat.le_refl _
 | step h ih => rw [brL_next, List.length_append]; omega
theorem brL_part (Ed : List EdT) (Fi Bg : List Int) (m N : Nat) {p k : Nat} (hp : p < N) (hk : k ≤ m) : (brL Ed Fi Bg m p ++ rowL Ed Fi Bg p k).length ≤ (brL Ed Fi Bg m N).length := by
 have h1 := brL_le Ed Fi Bg m (show p + 1 ≤ N from hp)
 have h2 := rowL_le Ed Fi Bg p hk
 rw [brL_next, List.length_append] at h1
 rw [List.length_append]
 omega
theorem endL_len (Ed : List EdT) (Fi Bg : List Int) (p s : Nat) : (endL Ed Fi Bg p s).length ≤ Ed.length + Bg.length := by
 have h : (fromL Ed p (s : Int)).length ≤ Ed.length := List.length_filter_le _ _
 unfold endL
 split
 · rw [List.length_append, toL_len]; omega
 · rw [toL_len]; omega
theorem wpList_appL {ops : Array Oper} {rest : List Oper} {o : Oper} {a : Act} {Q : Exit → Act → World → Prop} {w : World} (hgd : o.guard = none) (s x : Operand)
 (ho : o.op = .call { callee := .builtin .append, args := #[s, x], argTypes := #[22, 22] }) (B : Nat) (v : Value) (X : List Int) (hs : a.eval s = v) (hown : w.ownsRow B 3 1 v X.length (X.map (Value.int .i64))) (ao : Option Addr) (n c : Nat) (Y : List Int) (hn : Y.length = n) (hz : ao = none → c = 0) (hx : a.eval x = .slice ao n c) (hr : RdN w ao Y) (hl : X.length + Y.length ≤ 16777216) (hB : B ≤ w.heap.size)
 (h : ∀ v' w', Hid (w'.ownsRow B 3 1 v' (X ++ Y).length ((X ++ Y).map (Value.int .i64))) → Hid (Only w w' (fun k => v.ownBlock = some k)) → wpList Tryz.prog ops Q rest (a.put o.dst v') w') : wpList Tryz.prog ops Q (o :: rest) a w := by
 obtain ⟨i3, hi3, hz30, hz31, hz32⟩ := info_parts info3
 subst hn
 cases ao with
 | none =>
  obtain rfl : Y = [] := by
   cases Y with
   | nil => rfl
   | cons y Y => obtain ⟨g, o, e, _⟩ := hr 0 (by simp); cases e
  obtain rfl := hz rfl
  refine wpList_append_own_none hgd s x 22 ho B 3 i3 1 Tryz.underlying22 hi3 v X.length (X.map (Value.int .i64)) hs hown hx ?_
  exact h v w (hide (by rw [List.append_nil]; exact hown)) (hide (Only.ofBelow (Below.refl _ _)))
 | some ad =>
  refine wpList_append_own _ hgd s x 22 ho B 3 i3 _ 1 8 Tryz.underlying22 hi3 hz30 hz31 hz32 rfl (by omega) v X.length (X.map (Value.int .i64)) hs hown ad Y.length c (Y.map (Value.int .i64)) hx (by simp) (fun j u hu => ?_) (by simp [Value.oneCell']) (by unfold maxLen; omega) (by omega) hB ?_
  · have hj : j < Y.length := by
     have := (List.getElem?_eq_some_iff.1 hu).1
     simpa using this
    obtain ⟨g, o, e, q⟩ := hr j hj
    cases e
    rw [Addr.add_lit, q]
    rw [List.getElem?_map, List.getElem?_eq_getElem hj] at hu
    exact hu
  · intro v2 w2 h2 hgr _
    exact h v2 w2 (hide (by rw [List.map_append, List.length_append]; exact h2)) (hide (grown_only hgr))
structure BrI (wx : World) (E : List EdT) (v : Value) (wr : World) : Prop where
 ow : wr.ownsRow wx.heap.size 61 3 v E.length (E.flatMap encE)
 be : Below wx.heap.size wx wr
 le : E.length ≤ 65536
theorem celL_led (E : List EdT) (Ed : List EdT) (Fi Bg : List Int) (p s : Nat) : ledL E (p : Int) (s : Int) (riseL (endL Ed Fi Bg p s)) = E ++ celL Ed Fi Bg p s := rfl
def BrP (w : World) (E : List EdT) (e : Ending) (w' : World) : Prop :=
 if 65536 < E.length then e = .returned (.tuple #[.slice none 0 0, .int .i64 8]) ∧ Below w.heap.size w w'
 else ∃ v, e = .returned (.tuple #[v, .int .i64 0]) ∧ w'.ownsRow w.heap.size 61 3 v E.length (E.flatMap encE) ∧ Below w.heap.size w w'
theorem brP_big {w w' : World} {E : List EdT} {e : Ending} (h : 65536 < E.length) (he : e = .returned (.tuple #[.slice none 0 0, .int .i64 8])) (d : Below w.heap.size w w') : BrP w E e w' := by
 unfold BrP
 rw [if_pos h]
 exact ⟨he, d⟩
theorem brP_ok {w w' : World} {E : List EdT} {e : Ending} {v : Value} (h : E.length ≤ 65536) (he : e = .returned (.tuple #[v, .int .i64 0])) (o : w'.ownsRow w.heap.size 61 3 v E.length (E.flatMap encE)) (d : Below w.heap.size w w') : BrP w E e w' := by
 unfold BrP
 rw [if_neg (by omega)]
 exact ⟨v, he, o, d⟩
theorem bridged_any (w : World) (N m n1 n2 n3 : Nat) (a1 a2 a3 aB : Option Addr) (c1 c2 c3 nB cB : Nat) (Ed : List EdT) (Fi Bg : List Int) (e2 : Fi.length = n2) (e3 : Ed.length = n3) (eB : Bg.length = nB) (zB : aB = none → cB = 0) (hN : N ≤ 4096) (hm : m ≤ 128) (hE : Hid (RdE w a3 Ed)) (hfi : Hid (RdN w a2 Fi)) (hBg : Hid (RdN w aB Bg)) (h2 : n2 ≤ 2000000) (h3 : n3 ≤ 2000000) (hB : nB ≤ 2000000) (hS : Hid (SsE Ed)) (hF : Hid (∀ e ∈ Ed, (0 ≤ e.1 ∧ e.1 < (N : Int)) ∧ (0 ≤ e.2.1 ∧ e.2.1 < (m : Int)) ∧ (0 ≤ e.2.2 ∧ e.2.2 < (N : Int)))) (hG : Hid (∀ x ∈ Fi, ∃ q : Nat, q < N ∧ x = (q : Int))) :
 Calls Tryz.prog 82 #[.agg #[.int .i64 (N : Int), .int .i64 (m : Int), .slice a1 n1 c1, .slice a2 n2 c2, .slice a3 n3 c3], .slice aB nB cB] w fun e w' => BrP w (brL Ed Fi Bg m N) e w' := by
 obtain ⟨R, hR⟩ : ∃ R, N * m = R := ⟨_, rfl⟩
 have hRl : R ≤ 524288 := by rw [← hR]; exact Nat.le_trans (Nat.mul_le_mul hN hm) (by decide)
 obtain ⟨W0, hW0⟩ : ∃ W0, w.alloc (.cells #[.int .i64 (N : Int), .int .i64 (m : Int), .slice a1 n1 c1, .slice a2 n2 c2, .slice a3 n3 c3] 25) = W0 := ⟨_, rfl⟩
 have HD : Hid (W0.heap[w.heap.size]? = some (.cells #[.int .i64 (N : Int), .int .i64 (m : Int), .slice a1 n1 c1, .slice a2 n2 c2, .slice a3 n3 c3] 25 (0, 0)) ∧ Below w.heap.size w W0 ∧ W0.heap.size = w.heap.size + 1) := hide (by rw [← hW0]; exact ⟨World.alloc_heap_new _ _, (Below.refl _ _).alloc (Nat.le_refl _) _, by simp⟩)
 have TR : Hid (∀ W : World, Below W0.heap.size W0 W → Calls Tryz.prog 89 #[.agg #[.int .i64 (N : Int), .int .i64 (m : Int), .slice a1 n1 c1, .slice a2 n2 c2, .slice a3 n3 c3]] W fun e w' => ∃ aE cE g, e = .returned (.agg #[.int .i64 (m : Int), .slice aE n3 cE, .slice (some ⟨g, 0, none⟩) (R + 1) (R + 1)]) ∧ Hid (RwA W.heap.size w' m R Ed aE n3 cE g) ∧ Below W.heap.size W w') := hide (fun W d => by
  have q := newRows_any W N m a1 a2 a3 n1 n2 c1 c2 c3 Ed hN hm (hide (hE.out.on (HD.out.2.1.trans (d.mono HD.out.2.1.size)))) (by omega) (hide (fun e he => ⟨(hF.out e he).1, (hF.out e he).2.1⟩))
  rw [hR, e3] at q
  exact q)
 have TF : Hid (∀ W : World, Below W0.heap.size W0 W → Calls Tryz.prog 93 #[.agg #[.int .i64 (N : Int), .int .i64 (m : Int), .slice a1 n1 c1, .slice a2 n2 c2, .slice a3 n3 c3]] W fun e w' => ∃ gf, e = .returned (.slice (some ⟨gf, 0, none⟩) N N) ∧ Hid (Mrw w' gf 4 N (fun c => .bool (finB Fi c)) N ∧ W.heap.size ≤ gf) ∧ Below W.heap.size W w') := hide (fun W d => by
  have q := finals_any W N (m : Int) a1 a2 a3 c1 c2 c3 n1 n3 Fi (hide (hfi.out.on (HD.out.2.1.trans (d.mono HD.out.2.1.size)))) hG (by omega) (by omega)
  rw [e2] at q
  exact q)
 have HR := hide hR
 have HL := hide (And.intro e2 (And.intro e3 eB))
 clear hR e2 e3 eB
 go_enter Tryz.func82, Tryz.ntmps82
 go_upto_region 1 with fail
 go_cut [6, 7] from 6 to 15 (fun v6 v7 W => ∃ p6 p7 aE cE g gf, v6 = .pointer (some ⟨p6, 0, none⟩) ∧ v7 = .pointer (some ⟨p7, 0, none⟩) ∧ Hid (BrA W0 W N m R n3 Ed Fi p6 p7 aE cE g gf))
 case first =>
  have hmo : MonIL 0 [vI 0 (.agg #[.int .i64 (N : Int), .int .i64 (m : Int), .slice a1 n1 c1, .slice a2 n2 c2, .slice a3 n3 c3]), pI 1 (rwsP m R n3 Ed), vI 2 (.agg #[.int .i64 (N : Int), .int .i64 (m : Int), .slice a1 n1 c1, .slice a2 n2 c2, .slice a3 n3 c3]), pI 3 (finP N Fi), pI 4 (b3P), pI 5 (b1P)] := ⟨vI_mono _ _, pI_mono rwsP_mono, vI_mono _ _, pI_mono finP_mono, pI_mono b3P_mono, pI_mono b1P_mono, trivial⟩
  refine wp_region_sl _ (by kernel_rfl) (by kernel_rfl) (by kernel_rfl) (by kernel_rfl) hmo ⟨?o0, ?o1, ?o2, ?o3, ?o4, ?o5, trivial⟩ ?fin
  case o0 =>
   intro At yy W hy hb d hd K hK
   obtain ⟨s2, s2'⟩ := zsb (hb 2 rfl : _ = .pointer (some ⟨w.heap.size, 0, none⟩))
   clear hd hy hb
   have bx := blk_on HD.out.1 d
   obtain ⟨y0, y1, y2, y3, y4⟩ := zd5 bx rfl rfl rfl rfl rfl
   clear bx
   go_simp
   exact zkq hK hmo d (if_pos rfl)
  case o1 =>
   intro At yy W hy hb d hd K hK
   obtain ⟨s12, s12'⟩ := zsg 0 12 .data hy hd rfl
   clear hd hy hb
   go_simp
   go_wp2_with (go_at_call 89; refine (TR.out _ d).mono ?_; rintro e wa ⟨aE, cE, g, rfl, hR, da⟩)
   exact hK.out _ wa (stp_of hmo d da) ⟨aE, cE, g, if_pos rfl, hR.out.down⟩
  case o2 =>
   intro At yy W hy hb d hd K hK
   obtain ⟨s2, s2'⟩ := zsb (hb 2 rfl : _ = .pointer (some ⟨w.heap.size, 0, none⟩))
   clear hd hy hb
   have bx := blk_on HD.out.1 d
   obtain ⟨y0, y1, y2, y3, y4⟩ := zd5 bx rfl rfl rfl rfl rfl
   clear bx
   go_simp
   exact zkq hK hmo d (if_pos rfl)
  case o3 =>
   intro At yy W hy hb d hd K hK
   obtain ⟨s14, s14'⟩ := zsg 2 14 .data hy hd rfl
   clear hd hy hb
   go_simp
   go_wp2_with (go_at_call 93; refine (TF.out _ d).mono ?_; rintro e wa ⟨gf, rfl, hR, da⟩)
   exact hK.out _ wa (stp_of hmo d da) ⟨gf, if_pos rfl, hR.out.1⟩
  case o4 =>
   intro At yy W hy hb d hd K hK
   clear hd hy hb
   go_simp
   exact hK.out _ _ (stp_of hmo d ((Below.refl _ _).alloc (Nat.le_refl _) _)) ⟨if_pos rfl, by simp, World.alloc_heap_new _ _⟩
  case o5 =>
   intro At yy W hy hb d hd K hK
   clear hd hy hb
   go_simp
   exact hK.out _ _ (stp_of hmo d ((Below.refl _ _).alloc (Nat.le_refl _) _)) ⟨if_pos rfl, by simp, World.alloc_heap_new _ _⟩
  case fin =>
   intro yy lo hi W hM
   show wpList _ _ _ [_, _] _ _
   have e0 := hM.v 0 (by simp) rfl rfl rfl
   have e2 := hM.v 2 (by simp) rfl rfl rfl
   obtain ⟨aE, cE, g, e1, z1⟩ := hM.fact 1 (by simp) rfl (notR_all 1 rfl)
   obtain ⟨gf, e3, z3⟩ := hM.fact 3 (by simp) rfl (notR_all 3 rfl)
   obtain ⟨e4, l4, z4⟩ := hM.fact 4 (by simp) rfl (notR_all 4 rfl)
   obtain ⟨e5, l5, z5⟩ := hM.fact 5 (by simp) rfl (notR_all 5 rfl)
   have dd := hM.d
   have a4 := hM.at' 4 (by simp) rfl
   have a5 := hM.at' 5 (by simp) rfl
   simp only [fills, Act.put, List.take, List.length, List.setIfInBounds_toArray, List.set_cons_zero, List.set_cons_succ, e0, e2, e1, e3, e4, e5]
   generalize lo 4 = p6 at z4 a4 l4 ⊢
   generalize lo 5 = p7 at z5 a5 l5 ⊢
   clear hM hmo e0 e2 e1 e3 e4 e5
   have HF := hide (brA_of (m := m) z1 z3 z4 z5 dd a4.1 a5.1)
   clear z1 z3 dd
   have ne : p6 ≠ p7 := fun e => by rw [e, z5] at z4; cases z4
   obtain ⟨o0, o1, o2⟩ := zd3 z4 rfl rfl rfl
   have f0 : W.frozen? ⟨p6, 0, none⟩ = false := fz_of z4
   have f1 : W.frozen? ⟨p6, 1, none⟩ = false := fz_of z4
   have f2 : W.frozen? ⟨p6, 2, none⟩ = false := fz_of z4
   have q0 : W.cell? ⟨p7, 0, none⟩ = some (.slice none 0 0) := cell_of z5 rfl
   have g0 : W.frozen? ⟨p7, 0, none⟩ = false := fz_of z5
   clear z4 z5
   go_wp2_with fail
   go_meet
   exact ⟨p6, p7, aE, cE, g, gf, rfl, rfl, HF⟩
 case rest =>
  obtain ⟨p6, p7, aE, cE, g, gf, rfl, rfl, HA⟩ := hcut
  rename World => wx
  have y0 : wx.cell? ⟨w.heap.size, 0, none⟩ = some (.int .i64 (N : Int)) := cell_of (blk_on HD.out.1 HA.out.be) rfl
  have H0 : Hid (BrI wx (brL Ed Fi Bg m 0) (.slice none 0 0) wx) := hide ⟨World.ownsRow_nil _ _ _ _, Below.refl _ _, Nat.zero_le _⟩
  clear TR TF
  go_wp2_with fail
  clear y0
  go_loopw [8, 18] (fun v8 v18 wr => ∃ p : Nat, p ≤ N ∧ v18 = .int .i64 (p : Int) ∧ Hid (BrI wx (brL Ed Fi Bg m p) v8 wr)) (fun _ v18 _ => N - (intOf v18).toNat)
  case atStart => exact ⟨0, Nat.zero_le _, rfl, H0⟩
  case round =>
   obtain ⟨p, hp, rfl, HY⟩ := hrel
   clear H0
   by_cases hpl : p < N
   · have i0 : (p : Int) < (N : Int) := by omega
     have y1 : wr.cell? ⟨w.heap.size, 1, none⟩ = some (.int .i64 (m : Int)) := cell_of (blk_on HD.out.1 (HA.out.on HY.out.be).be) rfl
     rename World => wo
     have H1 : Hid (BrI wx (brL Ed Fi Bg m p ++ rowL Ed Fi Bg p 0) u8 wo) := hide (by
      have q := HY.out
      rw [show rowL Ed Fi Bg p 0 = [] from rfl, List.append_nil]
      exact q)
     clear HY
     go_wp2_with fail
     clear y1
     go_loopw [8, 23] (fun v8 v23 wr => ∃ s : Nat, s ≤ m ∧ v23 = .int .i64 (s : Int) ∧ Hid (BrI wx (brL Ed Fi Bg m p ++ rowL Ed Fi Bg p s) v8 wr)) (fun _ v23 _ => m - (intOf v23).toNat)
     case atStart => exact ⟨0, Nat.zero_le _, rfl, H1⟩
     case round =>
      obtain ⟨s, hs, rfl, HI⟩ := hrel
      clear H1
      by_cases hsl : s < m
      · have j0 : (s : Int) < (m : Int) := by omega
        obtain ⟨k, hk⟩ : ∃ k, p * m + s = k := ⟨_, rfl⟩
        have hkR : k < R := by
         rw [← hk, ← HR.out]
         have : (p + 1) * m ≤ N * m := Nat.mul_le_mul_right _ hpl
         rw [Nat.add_mul, Nat.one_mul] at this
         omega
        have HAr := hide (HA.out.on HI.out.be)
        obtain ⟨z0, z1, z2⟩ := zd3 HAr.out.b6 rfl rfl rfl
        have TO := of_any wr 0 m R p s n3 k aE cE g Ed HL.out.2.1 (hide HAr.out.rw) hS (hide (fun e he => (hF.out e he).2.1)) hsl hk hkR hRl (by omega)
        have HFr : Hid ((∀ x ∈ toL (fromL Ed p (s : Int)), ∃ q : Nat, q < N ∧ x = (q : Int)) ∧ (fromL Ed p (s : Int)).length ≤ n3) := hide ⟨fun x hx => by
         obtain ⟨e, he, rfl⟩ := List.mem_map.1 hx
         have q := (hF.out e (List.mem_filter.1 he).1).2.2
         obtain ⟨t, ht⟩ := Int.eq_ofNat_of_zero_le q.1
         exact ⟨t, by omega, ht⟩, by rw [← HL.out.2.1]; exact List.length_filter_le _ _⟩
        have HEn : Hid (endL Ed Fi Bg p s = if (toL (fromL Ed p (s : Int))).any (fun x => finB Fi x.toNat) then toL (fromL Ed p (s : Int)) ++ Bg else toL (fromL Ed p (s : Int))) := hide rfl
        have HTL := hide (toL_len (fromL Ed p (s : Int)))
        have HKK := hide (And.intro hk hkR)
        clear hk hkR
        generalize toL (fromL Ed p (s : Int)) = X at TO HFr HEn HTL
        generalize (fromL Ed p (s : Int)).length = nf at TO HFr HTL
        have hnf : nf ≤ 2000000 := by have := HFr.out.2; omega
        obtain ⟨y, hy⟩ : ∃ y, X.any (fun x => finB Fi x.toNat) = y := ⟨_, rfl⟩
        rw [hy] at HEn
        have HYY := hide hy
        clear hy
        go_wp2_with (go_at_call 96; refine TO.mono ?_; rintro e w1 ⟨ao, co, rfl, H1⟩)
        clear TO z0 z1 z2
        have T62 := clone_own w1 ao nf co X HTL.out (hide (H1.out.1.on H1.out.2.2)) (by omega)
        go_wp2_with (go_at_call 62; refine T62.mono ?_; rintro e w2 ⟨v2, rfl, H2⟩; obtain ⟨b2, d2, rfl⟩ := own_slice H2.out.1)
        clear T62
        have HB2 : Hid (Below wr.heap.size wr w2) := hide (H1.out.2.2.trans (H2.out.2.mono H1.out.2.2.size))
        have T52 := cont122 w2 b2 d2 X p7 gf N (finB Fi) (hide (cell_of (blk_on HAr.out.b7 HB2.out) rfl)) (hide (HAr.out.fi.below HB2.out HAr.out.fi.lt)) (hide HFr.out.1) (hide (own_rdN (c := d2) (by rw [HTL.out]; exact H2.out.1))) (by rw [HTL.out]; omega)
        rw [HTL.out, HYY.out] at T52
        have G3 : Hid (∀ w3, Below w2.heap.size w2 w3 → w3.ownsRow wx.heap.size 3 1 (.slice b2 nf d2) nf (X.map (Value.int .i64)) ∧ Below wr.heap.size wr w3 ∧ wx.heap.size ≤ w3.heap.size) := hide (fun w3 d3 => by
         have q1 := HI.out.be.size
         have q2 := H1.out.2.2.size
         have q3 := HB2.out.size
         have q4 := d3.size
         exact ⟨owns_down (own_below H2.out.1 d3) (by omega), HB2.out.trans (d3.mono q3), by omega⟩)
        clear H1 HAr
        obtain ⟨E, hE'⟩ : ∃ E, brL Ed Fi Bg m p ++ rowL Ed Fi Bg p s = E := ⟨_, rfl⟩
        have HEE : Hid (brL Ed Fi Bg m p ++ rowL Ed Fi Bg p (s + 1) = ledL E (p : Int) (s : Int) (riseL (endL Ed Fi Bg p s)) ∧ (brL Ed Fi Bg m p ++ rowL Ed Fi Bg p (s + 1)).length ≤ (brL Ed Fi Bg m N).length) := hide ⟨by rw [celL_led, ← hE', rowL_next, List.append_assoc], brL_part Ed Fi Bg m N hpl hsl⟩
        rw [hE'] at HI
        clear hE'
        have HEL : Hid ((endL Ed Fi Bg p s).length ≤ 4194304) := hide (by have q := endL_len Ed Fi Bg p s; have := HL.out; omega)
        generalize endL Ed Fi Bg p s = Z at HEn HEE HEL
        have GI : Hid (∀ w3, Below wr.heap.size wr w3 → w3.ownsRow wx.heap.size 61 3 u8 E.length (E.flatMap encE) ∧ Below wx.heap.size wx w3) := hide (fun w3 d => ⟨own_below HI.out.ow d, HI.out.be.trans (d.mono HI.out.be.size)⟩)
        have HIl := hide HI.out.le
        clear HI HFr HB2 H2
        obtain ⟨E2, hE2⟩ : ∃ E2, brL Ed Fi Bg m p ++ rowL Ed Fi Bg p (s + 1) = E2 := ⟨_, rfl⟩
        rw [hE2] at HEE
        have HE2 := hide hE2
        clear hE2
        have key : ∀ (v4 : Value) (w4 : World), Hid (w4.ownsRow wx.heap.size 3 1 v4 Z.length (Z.map (Value.int .i64))) → Hid (w4.ownsRow wx.heap.size 61 3 u8 E.length (E.flatMap encE)) → Hid (Below wx.heap.size wx w4) → Calls Tryz.prog 123 #[u8, .int .i64 (p : Int), .int .i64 (s : Int), v4] w4 fun e w' => ∃ b5 d5, e = .returned (.slice b5 E2.length d5) ∧ Hid (w'.ownsRow wx.heap.size 61 3 (.slice b5 E2.length d5) E2.length (E2.flatMap encE) ∧ Below wx.heap.size wx w') := fun v4 w4 o1 o2 o3 => by
         refine (lead_any w4 wx.heap.size u8 v4 E (p : Int) (s : Int) Z.length Z rfl o2 o1 o3.out.size HEL.out (by have := HIl.out; omega)).mono ?_
         rintro e w5 ⟨v5, rfl, H5⟩
         rw [HEE.out.1]
         obtain ⟨b5, d5, rfl⟩ := own_slice H5.out.1
         exact ⟨b5, d5, rfl, hide ⟨H5.out.1, o3.out.trans H5.out.2⟩⟩
        have HK2 := hide key
        clear key
        have HZ := hide HEE.out.2
        clear HEE HEL
        cases y with
        | true =>
         obtain rfl := HTL.out
         go_wp2_with (first
          | (go_at_call 52; refine T52.mono ?_; rintro e w3 ⟨rfl, d3⟩; have H3 := hide (G3.out w3 d3); have HI3 := hide (GI.out w3 H3.out.2.1); clear d3)
          | (at_builtin; refine wpList_appL rfl _ _ rfl wx.heap.size (.slice b2 X.length d2) X rfl H3.out.1 aB nB cB Bg HL.out.2.2 zB rfl (hBg.out.on (HD.out.2.1.trans ((HA.out.be.trans (HI3.out.2.mono HA.out.be.size)).mono HD.out.2.1.size))) (by have := HL.out.2.2; omega) H3.out.2.2 ?_; intro v4 w4 HO4 HG4))
         have T := HK2.out v4 w4 (hide (by rw [HEn.out]; exact HO4.out)) (hide (row_only HI3.out.1 HG4.out (fun k hk hk2 => rows_differ HI3.out.1 H3.out.1 (by decide) hk hk2))) (hide (HI3.out.2.trans (HG4.out.toBelow H3.out.2.2 (fun k hk => (H3.out.1.lt k hk).1))))
         by_cases hbig : 65536 < E2.length
         · have jb : (65536 : Int) < (E2.length : Int) := by omega
           go_wp2_with (go_at_call 123; refine T.mono ?_; rintro e w5 ⟨b5, d5, rfl, H5⟩)
           refine bodyPost_ret (results_tmp2 rfl _ _ _) rfl ?_
           refine brP_big (Nat.lt_of_lt_of_le hbig HZ.out) rfl ?_
           have q := HA.out.be.trans (H5.out.2.mono HA.out.be.size)
           exact HD.out.2.1.trans (q.mono HD.out.2.1.size)
         · have jb : ¬ (65536 : Int) < (E2.length : Int) := by omega
           go_wp2_with (go_at_call 123; refine T.mono ?_; rintro e w5 ⟨b5, d5, rfl, H5⟩)
           refine ⟨⟨s + 1, by omega, by go_num, hide (by rw [HE2.out]; exact ⟨H5.out.1, H5.out.2, by omega⟩)⟩, by simp [intOf]; omega⟩
        | false =>
         go_wp2_with (go_at_call 52; refine T52.mono ?_; rintro e w3 ⟨rfl, d3⟩; have H3 := hide (G3.out w3 d3); have HI3 := hide (GI.out w3 H3.out.2.1); clear d3)
         have T := HK2.out (.slice b2 nf d2) w3 (hide (by rw [HEn.out, if_neg (by decide), HTL.out]; exact H3.out.1)) (hide HI3.out.1) (hide HI3.out.2)
         by_cases hbig : 65536 < E2.length
         · have jb : (65536 : Int) < (E2.length : Int) := by omega
           go_wp2_with (go_at_call 123; refine T.mono ?_; rintro e w5 ⟨b5, d5, rfl, H5⟩)
           refine bodyPost_ret (results_tmp2 rfl _ _ _) rfl ?_
           refine brP_big (Nat.lt_of_lt_of_le hbig HZ.out) rfl ?_
           have q := HA.out.be.trans (H5.out.2.mono HA.out.be.size)
           exact HD.out.2.1.trans (q.mono HD.out.2.1.size)
         · have jb : ¬ (65536 : Int) < (E2.length : Int) := by omega
           go_wp2_with (go_at_call 123; refine T.mono ?_; rintro e w5 ⟨b5, d5, rfl, H5⟩)
           refine ⟨⟨s + 1, by omega, by go_num, hide (by rw [HE2.out]; exact ⟨H5.out.1, H5.out.2, by omega⟩)⟩, by simp [intOf]; omega⟩
      · obtain rfl : m = s := by omega
        have j0 : ¬ (m : Int) < (m : Int) := by omega
        have HN : Hid (BrI wx (brL Ed Fi Bg m (p + 1)) u8 wr) := hide (by rw [brL_next]; exact HI.out)
        clear HI
        go_wp2_with fail
        refine ⟨⟨p + 1, by omega, by go_num, HN⟩, by simp [intOf]; omega⟩
   · obtain rfl : N = p := by omega
     have i0 : ¬ (N : Int) < (N : Int) := by omega
     go_wp2_with fail
     refine bodyPost_ret (results_tmp2 rfl _ _ _) rfl ?_
     have q := HA.out.be.trans (HY.out.be.mono HA.out.be.size)
     have s1 := HD.out.2.2
     have s2 := HA.out.be.size
     exact brP_ok HY.out.le rfl (owns_down HY.out.ow (by omega)) (HD.out.2.1.trans (q.mono HD.out.2.1.size))
def movN (L : List Int) (b : Int) : List Int := L.map (· + b)
theorem movN_len (L : List Int) (b : Int) : (movN L b).length = L.length := by simp [movN]
theorem mrw_row {W : World} {B H n : Nat} {K : List Int} (h : Mrw W H 3 n (fun c => .int .i64 (K.getD c 0)) n) (hK : K.length = n) (hB : B ≤ H) (hn : n ≤ maxLen) : W.ownsRow B 3 1 (.slice (some ⟨H, 0, none⟩) n n) n (K.map (Value.int .i64)) := by
 obtain ⟨cur, h1, h2, h3⟩ := h
 refine ⟨by simp [hK], .inr ⟨H, n, cur, rfl, hB, h1, Nat.le_refl _, hn, by omega, ?_⟩⟩
 rw [Nat.mul_one, List.take_of_length_le (by simp; omega)]
 apply List.ext_getElem?
 intro j
 by_cases hj : j < n
 · rw [Array.getElem?_toList, h3 j hj, List.getElem?_map, List.getElem?_eq_getElem (by omega)]
   simp [List.getD, List.getElem?_eq_getElem (show j < K.length by omega)]
 · rw [List.getElem?_eq_none (by simp; omega), List.getElem?_eq_none (by simp; omega)]
theorem movedS_any (w : World) (ao : Option Addr) (n c : Nat) (L : List Int) (b : Int) (hn : L.length = n) (hA : Hid (RdN w ao L)) (hl : n ≤ 4194304) (hb : 0 ≤ b ∧ b ≤ 4194304) (hin : Hid (∀ x ∈ L, 0 ≤ x ∧ x ≤ 4194304)) :
 Calls Tryz.prog 84 #[.slice ao n c, .int .i64 b] w fun e w' => ∃ g, e = .returned (.slice (some ⟨g, 0, none⟩) n n) ∧ Hid (w'.ownsRow w.heap.size 3 1 (.slice (some ⟨g, 0, none⟩) n n) n ((movN L b).map (Value.int .i64)) ∧ Below w.heap.size w w') := by
 have HN := hide hn
 clear hn
 obtain ⟨i9, hi9, hz90, hz91, hz92⟩ := info_parts info3
 go_enter Tryz.func84, Tryz.ntmps84
 go_upto_region 2 with (at_make; refine wpList_make_full _ rfl _ _ 22 rfl w.heap.size 3 i9 (.int .i64 0) 1 Tryz.underlying22 hi9 hz90 hz91 _ _ _ _ n rfl rfl (by go_num) (by go_num) (by rw [hz92]; omega) (by unfold maxLen; omega) (Nat.le_refl _) ?_; intro w6 ho hg)
 have D6 : Below w.heap.size w w6 := (Below.refl _ _).grown hg (Nat.le_refl _) (by intro k hk; cases hk)
 have M6 : Mrw w6 w.heap.size 3 n (fun c => .int .i64 ((movN L b).getD c 0)) 0 := by
  have q := Mrw.ofRow (fun c => .int .i64 ((movN L b).getD c 0)) ho
  rw [Nat.mul_one] at q
  exact q
 have H6 := hide (And.intro M6 D6)
 clear ho hg D6 M6
 go_wp2_with fail
 go_loopw [13] (fun iv wr => ∃ i : Nat, i ≤ n ∧ iv = .int .i64 (i : Int) ∧ Hid (Mrw wr w.heap.size 3 n (fun c => .int .i64 ((movN L b).getD c 0)) i ∧ Below w.heap.size w wr)) (fun iv _ => n - (intOf iv).toNat)
 case atStart => exact ⟨0, Nat.zero_le _, rfl, H6⟩
 case round =>
  obtain ⟨i, hi, rfl, HY⟩ := hrel
  clear H6
  by_cases hlt : i < n
  · have l0 : (i : Int) < (n : Int) := by omega
    have i0 : (0 : Int) ≤ (i : Int) := by omega
    have hil : i < L.length := by have := HN.out; omega
    obtain ⟨g, o, ea, ca⟩ := (hA.out.on HY.out.2) i hil
    subst ea
    have hx := hin.out _ (List.getElem_mem hil)
    have HV : Hid ((movN L b).getD i 0 = L[i] + b) := hide (by simp [movN, List.getD, List.getElem?_eq_getElem hil])
    generalize L[i] = x at ca hx HV
    have ew : IntKind.i64.wrap (x + b) = x + b := by rw [IntKind.wrap_i64]; omega
    obtain ⟨u, cu⟩ := HY.out.1.cell i hlt
    have zu := HY.out.1.fz i
    have J : Hid (Mrw (wr.setCell ⟨w.heap.size, i, none⟩ (.int .i64 (x + b))) w.heap.size 3 n (fun c => .int .i64 ((movN L b).getD c 0)) (i + 1) ∧ Below w.heap.size w (wr.setCell ⟨w.heap.size, i, none⟩ (.int .i64 (x + b)))) := hide ⟨HY.out.1.put hlt _ (by rw [HV.out]), HY.out.2.setCell (Nat.le_refl _) _⟩
    clear HY
    go_wp2_with fail
    go_roundw
    case rel => exact ⟨i + 1, by omega, by go_num, J⟩
    case measure => simp [intOf]; omega
  · have l0 : ¬ (i : Int) < (n : Int) := by omega
    obtain rfl : i = n := by omega
    have J := hide (And.intro (mrw_row HY.out.1 ((movN_len L b).trans HN.out) (Nat.le_refl _) (by unfold maxLen; omega)) HY.out.2)
    clear HY
    go_wp2_with fail
    go_ret
    exact ⟨_, rfl, J⟩
theorem riseE_one {L : List EdT} (h : L.length < 2) : riseE L = L :=
 ss_eq _ _ (riseE_ss _) (by
  match L, h with
  | [], _ => exact List.Pairwise.nil
  | [x], _ => exact List.pairwise_singleton _ _) fun x => riseE_iff L x
end Go.Proofs.YtchoopnjckcohaaGreatDoor
