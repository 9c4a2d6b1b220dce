import Derived.Test.YtnfdifkcchciaaaDoorMk
import Derived.Test.YtnfdifkcchciaaaDoorNmS
namespace Go.Proofs.YtnfdifkcchciaaaDoor
open Go.RowKit Go.Maps

/-- Rows of texts behind a list of N slices at block T; w0 is the world ahead, H its size. -/
structure Fm (w0 : World) (N T : Nat) (vs : Nat → Value) (ln : Nat → Nat) (ct : Nat → List ByteArray) (w : World) : Prop where
  row : ∀ i, i < N → w.cell? ⟨T, i, none⟩ = some (vs i)
  own : ∀ i, i < N → OwnS w 0 (vs i) (ct i)
  lens : ∀ i, i < N → (ct i).length = ln i
  sep : ∀ i j, i < N → j < N → i ≠ j → ∀ b, (vs i).ownBlock = some b → (vs j).ownBlock ≠ some b
  nT : ∀ i, i < N → (vs i).ownBlock ≠ some T
  O : Only w0 w (fun b => ∃ i, i < N ∧ (vs i).ownBlock = some b)

theorem Fm.below {w0 : World} {N T : Nat} {vs : Nat → Value} {ln : Nat → Nat} {ct : Nat → List ByteArray} {w w' : World} (h : Fm w0 N T vs ln ct w) (d : Below w.heap.size w w') : Fm w0 N T vs ln ct w' :=
  ⟨fun i hi => (d.cell (p := ⟨T, i, none⟩) (World.block_lt_of_cell? w _ (h.row i hi))).trans (h.row i hi), fun i hi => (h.own i hi).below d, h.lens, h.sep, h.nT, h.O.trans (Only.ofBelow d)⟩
theorem Fm.form {w0 : World} {N T : Nat} {vs : Nat → Value} {ln : Nat → Nat} {ct : Nat → List ByteArray} {w : World} (h : Fm w0 N T vs ln ct w) {i : Nat} (hi : i < N) : ∃ ao cp, vs i = .slice ao (ln i) cp := by
  obtain ⟨ao, cp, e, _⟩ := (h.own i hi).str
  exact ⟨ao, cp, by rw [e, h.lens i hi]⟩
theorem Fm.form1 {w0 : World} {N T : Nat} {vs : Nat → Value} {ln : Nat → Nat} {ct : Nat → List ByteArray} {w : World} (h : Fm w0 N T vs ln ct w) {i : Nat} (hi : i < N) (hl : 0 < ln i) :
    ∃ g cp, vs i = .slice (some ⟨g, 0, none⟩) (ln i) cp ∧ w.ownsRow 0 9 1 (.slice (some ⟨g, 0, none⟩) (ln i) cp) (ln i) (strV (ct i)) := by
  have ho : w.ownsRow 0 9 1 (vs i) (ln i) (strV (ct i)) := by have := h.own i hi; unfold OwnS at this; rwa [h.lens i hi] at this
  obtain ⟨g, cp, e, _, _⟩ := ho.form hl
  rw [e] at ho
  exact ⟨g, cp, e, ho⟩

def upd (ct : Nat → List ByteArray) (i : Nat) (l : List ByteArray) : Nat → List ByteArray := fun j => if j = i then l else ct j

theorem Fm.stored {w0 : World} {N T : Nat} {vs : Nat → Value} {ln : Nat → Nat} {ct : Nat → List ByteArray} {w : World} (h : Fm w0 N T vs ln ct w) {i k g cp : Nat} (hi : i < N) (he : vs i = .slice (some ⟨g, 0, none⟩) (ln i) cp) (s : ByteArray) :
    Fm w0 N T vs ln (upd ct i ((ct i).set k s)) (w.setCell ⟨g, k, none⟩ (.string s)) := by
  have hb : (vs i).ownBlock = some g := by rw [he]; rfl
  have ho : w.ownsRow 0 9 1 (.slice (some ⟨g, 0, none⟩) (ln i) cp) (ln i) (strV (ct i)) := by have := h.own i hi; unfold OwnS at this; rwa [h.lens i hi, he] at this
  have st := ho.stored k (.string s)
  have hTg : T ≠ g := fun e => h.nT i hi (by rw [hb, e])
  refine ⟨fun j hj => (World.cell?_of_block (Below.heap_setCell w _ _ T hTg)).trans (h.row j hj), fun j hj => ?_, fun j hj => ?_, h.sep, h.nT, h.O.set (R := fun b => ∃ i, i < N ∧ (vs i).ownBlock = some b) ⟨i, hi, hb⟩ k _⟩
  · unfold upd
    by_cases e : j = i
    · subst e
      rw [if_pos rfl]
      show World.ownsRow _ 0 9 1 _ ((ct j).set k s).length _
      rw [List.length_set, h.lens j hj, he]
      have := st.1
      simpa [strV, List.map_set] using this
    · rw [if_neg e]
      exact World.ownsRow.kept (h.own j hj) st.2 (.inr (fun e2 => h.sep j i hj hi e g (by simpa using e2) hb))
  · unfold upd
    by_cases e : j = i
    · subst e; rw [if_pos rfl, List.length_set]; exact h.lens j hj
    · rw [if_neg e]; exact h.lens j hj

/-- All lists below i are full of their marks, of list i the first k. -/
def Mkd (N : Nat) (ct : Nat → List ByteArray) (i k : Nat) : Prop := (∀ j, j < i → j < N → ∀ s ∈ ct j, s = mk j) ∧ ∀ q (h : q < (ct i).length), q < k → (ct i)[q] = mk i

theorem Mkd.step {N : Nat} {ct : Nat → List ByteArray} {i k : Nat} (h : Mkd N ct i k) : Mkd N (upd ct i ((ct i).set k (mk i))) i (k + 1) := by
  refine ⟨fun j hj hN s hs => ?_, fun q hq hk => ?_⟩
  · have e : upd ct i ((ct i).set k (mk i)) j = ct j := by unfold upd; rw [if_neg (by omega)]
    rw [e] at hs
    exact h.1 j hj hN s hs
  · have e : upd ct i ((ct i).set k (mk i)) i = (ct i).set k (mk i) := by unfold upd; rw [if_pos rfl]
    simp only [e] at hq ⊢
    rw [List.getElem_set]
    by_cases hkq : k = q
    · rw [if_pos hkq]
    · rw [if_neg hkq]; exact h.2 q (by simpa using hq) (by omega)
theorem Mkd.done {N : Nat} {ct : Nat → List ByteArray} {i : Nat} (h : Mkd N ct i (ct i).length) : Mkd N ct (i + 1) 0 := by
  refine ⟨fun j hj hN s hs => ?_, fun q hq hk => absurd hk (Nat.not_lt_zero _)⟩
  by_cases e : j = i
  · subst e
    obtain ⟨q, hq, rfl⟩ := List.getElem_of_mem hs
    exact h.2 q hq hq
  · exact h.1 j (by omega) hN s hs

theorem froz_below {w w' : World} {g k : Nat} (d : Below w.heap.size w w') (hg : g < w.heap.size) : w'.frozen? ⟨g, k, none⟩ = w.frozen? ⟨g, k, none⟩ := by
  simp [World.frozen?, d.block g hg]

/-- What apart promises of lists of texts. -/
def ApartSpec : Prop := ∀ (N T : Nat) (vs : Nat → Value) (ln : Nat → Nat) (ct : Nat → List ByteArray) (w : World), N ≤ 26 → (∀ i, i < N → ln i ≤ 2097152) → Fm w N T vs ln ct w → T < w.heap.size →
    Calls Tryd.prog 50 #[.slice (some ⟨T, 0, none⟩) N N, .slice none 0 0] w fun e w' => e = .returned (.bool true) ∧ Only w w' (fun b => ∃ i, i < N ∧ (vs i).ownBlock = some b)

def three (a b c : Value) : Nat → Value
  | 0 => a | 1 => b | _ => c

theorem fm_three {w : World} {T : Nat} {a b c : Value} {l : List ByteArray} (r0 : w.cell? ⟨T, 0, none⟩ = some a) (r1 : w.cell? ⟨T, 1, none⟩ = some b) (r2 : w.cell? ⟨T, 2, none⟩ = some c)
    (oa : OwnS w 0 a l) (ob : OwnS w 0 b l) (oc : OwnS w 0 c l) {h1 h2 h3 : Nat} (ba : ∀ k, a.ownBlock = some k → k < h1) (bb : ∀ k, b.ownBlock = some k → h1 ≤ k ∧ k < h2) (bc : ∀ k, c.ownBlock = some k → h2 ≤ k ∧ k < h3) (h12 : h1 ≤ h2) (h23 : h2 ≤ h3) (hT : h3 ≤ T) :
    Fm w 3 T (three a b c) (fun _ => l.length) (fun _ => l) w := by
  refine ⟨fun i hi => ?_, fun i hi => ?_, fun _ _ => rfl, fun i j hi hj hne x hx => ?_, fun i hi => ?_, Only.ofBelow (Below.refl _ _)⟩
  · match i, hi with
    | 0, _ => exact r0
    | 1, _ => exact r1
    | 2, _ => exact r2
  · match i, hi with
    | 0, _ => exact oa
    | 1, _ => exact ob
    | 2, _ => exact oc
  · match i, hi, j, hj with
    | 0, _, 0, _ => exact absurd rfl hne
    | 1, _, 1, _ => exact absurd rfl hne
    | 2, _, 2, _ => exact absurd rfl hne
    | 0, _, 1, _ => intro e; have := ba x hx; have := bb x e; omega
    | 0, _, 2, _ => intro e; have := ba x hx; have := bc x e; omega
    | 1, _, 0, _ => intro e; have := bb x hx; have := ba x e; omega
    | 1, _, 2, _ => intro e; have := bb x hx; have := bc x e; omega
    | 2, _, 0, _ => intro e; have := bc x hx; have := ba x e; omega
    | 2, _, 1, _ => intro e; have := bc x hx; have := bb x e; omega
  · match i, hi with
    | 0, _ => intro e; have := ba T e; omega
    | 1, _ => intro e; have := bb T e; omega
    | 2, _ => intro e; have := bc T e; omega

set_option maxRecDepth 100000 in
set_option maxHeartbeats 2000000 in
theorem listed_any (hap : Hid ApartSpec) (t bm : Nat) (most : Int) (v : Value) (l : List ByteArray) (vw : Value) (w : World) (h : Hid (Tbl w t most v bm l)) (hw : Hid (StrS w vw l)) :
    Calls Tryd.prog 24 #[.pointer (some ⟨t, 0, none⟩), vw] w fun e w' => e = .returned (.bool true) ∧ Below w.heap.size w w' := by
  have hll := h.out.sml
  have hlw := len_str hw.out
  go_enter Tryd.func24, Tryd.ntmps24
  go_wp2_with fail
  refine (list_tb t bm most v l _ h).mono ?_
  rintro e w1 ⟨va, rfl, oa, d1⟩
  have H1 := hide (h.out.below d1)
  go_wp2_with fail
  refine (list_tb t bm most v l _ H1).mono ?_
  rintro e w2 ⟨vb, rfl, ob, d2⟩
  have H2 := hide (H1.out.below d2)
  go_wp2_with fail
  refine (list_tb t bm most v l _ H2).mono ?_
  rintro e w3 ⟨vc, rfl, oc, d3⟩
  have H3 := hide (H2.out.below d3)
  have D3 := (d1.trans (d2.mono d1.size)).trans (d3.mono (d1.trans (d2.mono d1.size)).size)
  have bA := (World.ownsRow.lt oa)
  have bB := (World.ownsRow.lt ob)
  have bC := (World.ownsRow.lt oc)
  have HB := hide (And.intro bA (And.intro bB (And.intro bC (And.intro d1.size (And.intro d2.size d3.size)))))
  have HO := hide (And.intro ((oa.below d2).below d3) (And.intro (ob.below d3) oc))
  have HD := hide D3
  have HW := hide (hw.out.below D3)
  clear oa ob oc bA bB bC d1 d2 d3 D3 H1 H2
  go_wp2_with fail
  refine (count_tb t bm most v l _ H3).mono ?_
  rintro e wc ⟨rfl, hwc⟩
  obtain rfl := hwc.symm
  clear hwc
  go_wp2_with fail
  refine (same_any va vw l _ HO.out.1.str HW.out (by omega)).mono ?_
  rintro e w4 ⟨rfl, d4⟩
  have H4 := hide (H3.out.below d4)
  have HO4 := hide (And.intro (HO.out.1.below d4) (And.intro (HO.out.2.1.below d4) (HO.out.2.2.below d4)))
  have HD4 := hide (And.intro (HD.out.trans (d4.mono HD.out.size)) d4.size)
  have HW4 := hide (HW.out.below d4)
  clear d4
  go_wp2_with fail
  refine (same_any vb vw l _ HO4.out.2.1.str HW4.out (by omega)).mono ?_
  rintro e w5 ⟨rfl, d5⟩
  have H5 := hide (H4.out.below d5)
  have HO5 := hide (And.intro (HO4.out.1.below d5) (And.intro (HO4.out.2.1.below d5) (HO4.out.2.2.below d5)))
  have HD5 := hide (And.intro (HD4.out.1.trans (d5.mono HD4.out.1.size)) (Nat.le_trans HD4.out.2 d5.size))
  have HW5 := hide (HW4.out.below d5)
  clear d5
  go_wp2_with fail
  refine (same_any vc vw l _ HO5.out.2.2.str HW5.out (by omega)).mono ?_
  rintro e w6 ⟨rfl, d6⟩
  have H6 := hide (H5.out.below d6)
  have HO6 := hide (And.intro (HO5.out.1.below d6) (And.intro (HO5.out.2.1.below d6) (HO5.out.2.2.below d6)))
  have HD6 := hide (And.intro (HD5.out.1.trans (d6.mono HD5.out.1.size)) (Nat.le_trans HD5.out.2 d6.size))
  have HW6 := hide (HW5.out.below d6)
  clear d6
  obtain ⟨aa, ca, ea, _⟩ := HO6.out.1.str
  obtain ⟨ab, cb, eb, _⟩ := HO6.out.2.1.str
  obtain ⟨ac, cc, ec, _⟩ := HO6.out.2.2.str
  subst ea eb ec
  go_wp2_with fail
  have dn := below_new w6 (.cells #[.slice aa l.length ca, .slice ab l.length cb, .slice ac l.length cc] 22)
  have F7 : Fm (w6.alloc (.cells #[.slice aa l.length ca, .slice ab l.length cb, .slice ac l.length cc] 22)) 3 w6.heap.size (three (.slice aa l.length ca) (.slice ab l.length cb) (.slice ac l.length cc)) (fun _ => l.length) (fun _ => l)
      (w6.alloc (.cells #[.slice aa l.length ca, .slice ab l.length cb, .slice ac l.length cc] 22)) :=
    fm_three (h1 := w1.heap.size) (h2 := w2.heap.size) (h3 := w3.heap.size) (by rw [World.cell?_alloc_at _ _ _ _ rfl]; rfl) (by rw [World.cell?_alloc_at _ _ _ _ rfl]; rfl) (by rw [World.cell?_alloc_at _ _ _ _ rfl]; rfl)
      ((HO6.out.1.mono (Nat.zero_le _)).below dn) ((HO6.out.2.1.mono (Nat.zero_le _)).below dn) ((HO6.out.2.2.mono (Nat.zero_le _)).below dn)
      (fun k hk => (HB.out.1 k hk).2) (HB.out.2.1) (HB.out.2.2.1) HB.out.2.2.2.2.1 HB.out.2.2.2.2.2 HD6.out.2
  have D7 := HD6.out.1.trans (dn.mono HD6.out.1.size)
  have HF := hide F7
  have HD7 := hide D7
  clear F7 D7 dn
  refine (hap.out 3 w6.heap.size _ _ _ _ (by omega) (fun _ _ => hll) HF.out (by simp)).mono ?_
  rintro e w8 ⟨rfl, O8⟩
  have D8 : Below w.heap.size w w8 := by
    refine HD7.out.trans (O8.toBelow HD7.out.size ?_)
    rintro b ⟨i, hi, hb⟩
    have hA := HB.out.1
    have hB := HB.out.2.1
    have hC := HB.out.2.2.1
    have s1 := HB.out.2.2.2.1
    have s2 := HB.out.2.2.2.2.1
    match i, hi with
    | 0, _ => exact (hA b hb).1
    | 1, _ => have := (hB b hb).1; omega
    | 2, _ => have := (hC b hb).1; omega
  have HD8 := hide D8
  have H8 := hide (h.out.below D8)
  clear O8 D8
  go_wp2_with fail
  refine (list_tb t bm most v l _ H8).mono ?_
  rintro e w9 ⟨vd, rfl, od, d9⟩
  have D9 := HD8.out.trans (d9.mono HD8.out.size)
  have HO9 := hide (And.intro od (And.intro D9 (hw.out.below D9)))
  clear od d9 D9
  go_wp2_with fail
  refine (same_any vd vw l _ HO9.out.1.str HO9.out.2.2 (by omega)).mono ?_
  rintro e w10 ⟨rfl, d10⟩
  have D10 := HO9.out.2.1.trans (d10.mono HO9.out.2.1.size)
  clear d10
  go_wp2
  go_ret
  exact ⟨rfl, D10⟩

end Go.Proofs.YtnfdifkcchciaaaDoor
