import Derived.Test.YtdgmokelmocejaaDoorClr
namespace Go.Proofs.YtdgmokelmocejaaDoor
open Go.RowKit

/-- Where a set lies: its struct, its words, the words' room. -/
structure Blk where
  b : Nat
  g : Nat
  c : Nat

/-- No two share anything. -/
structure Sep (l : List Blk) : Prop where
  own : ∀ (k : Nat) (s : Blk), l[k]? = some s → s.b ≠ s.g
  two : ∀ (j k : Nat) (s t : Blk), l[j]? = some s → l[k]? = some t → j ≠ k → s.b ≠ t.g ∧ s.g ≠ t.g
/-- All are sets of bound n. -/
def SetsAt (w : World) (n : Nat) (l : List Blk) (Xs : Nat → Nat) : Prop := ∀ (k : Nat) (s : Blk), l[k]? = some s → IsSet w s.b s.g s.c n (Xs k)

theorem SetsAt.below {w w' : World} {n : Nat} {l : List Blk} {Xs : Nat → Nat} (h : SetsAt w n l Xs) (d : Below w.heap.size w w') : SetsAt w' n l Xs := fun k s hk => (h k s hk).below d

/-- All of it, and the words lie from B on. -/
def Fam (w : World) (B n : Nat) (l : List Blk) : Prop := (Sep l ∧ ∃ Xs, SetsAt w n l Xs) ∧ ∀ (k : Nat) (s : Blk), l[k]? = some s → B ≤ s.g

theorem fam_push {w w' : World} {B n b g c X : Nat} {l : List Blk} (h : Fam w B n l) (s' : IsSet w' b g c n X) (hb : w.heap.size ≤ b) (hg : w.heap.size ≤ g) (hbg : b ≠ g) (hB : B ≤ w.heap.size) (d : Below w.heap.size w w') :
    Fam w' B n (l ++ [⟨b, g, c⟩]) := by
  obtain ⟨⟨hS, Xs, hF⟩, hBs⟩ := h
  have cut : ∀ k s, (l ++ [(⟨b, g, c⟩ : Blk)])[k]? = some s → (k < l.length ∧ l[k]? = some s) ∨ (k = l.length ∧ s = ⟨b, g, c⟩) := by
    intro k s h
    by_cases hk : k < l.length
    · rw [List.getElem?_append_left hk] at h; exact .inl ⟨hk, h⟩
    · rw [List.getElem?_append_right (by omega)] at h
      by_cases h0 : k - l.length = 0
      · rw [h0] at h; simp at h; exact .inr ⟨by omega, h.symm⟩
      · obtain ⟨m, hm⟩ : ∃ m, k - l.length = m + 1 := ⟨k - l.length - 1, by omega⟩
        rw [hm] at h; simp at h
  refine ⟨⟨⟨fun k s hk => ?_, fun j k s t hj hk hne => ?_⟩, fun k => if k = l.length then X else Xs k, fun k s hk => ?_⟩, fun k s hk => ?_⟩
  · rcases cut k s hk with ⟨_, h⟩ | ⟨_, rfl⟩
    · exact hS.own k s h
    · exact hbg
  · rcases cut j s hj with ⟨_, h1⟩ | ⟨e1, rfl⟩ <;> rcases cut k t hk with ⟨_, h2⟩ | ⟨e2, rfl⟩
    · exact hS.two j k s t h1 h2 hne
    · have h3 := (hF j s h1).blt
      have h4 := (hF j s h1).glt
      exact ⟨by show s.b ≠ g; omega, by show s.g ≠ g; omega⟩
    · have h4 := (hF k t h2).glt
      exact ⟨by show b ≠ t.g; omega, by show g ≠ t.g; omega⟩
    · omega
  · rcases cut k s hk with ⟨hlt, h⟩ | ⟨e, rfl⟩
    · show IsSet w' s.b s.g s.c n (if k = l.length then X else Xs k)
      rw [if_neg (by omega)]; exact (hF k s h).below d
    · show IsSet w' b g c n (if k = l.length then X else Xs k)
      rw [if_pos e]; exact s'
  · rcases cut k s hk with ⟨_, h⟩ | ⟨_, rfl⟩
    · exact hBs k s h
    · exact Nat.le_trans hB hg

theorem fam_below {w w' : World} {B n : Nat} {l : List Blk} (h : Fam w B n l) (d : Below w.heap.size w w') : Fam w' B n l := ⟨⟨h.1.1, h.1.2.choose, h.1.2.choose_spec.below d⟩, h.2⟩

/-- The list of sets at block L, what each holds, and the world since w0. -/
structure ApX (w0 : World) (L n : Nat) (l : List Blk) (Xs : Nat → Nat) (w : World) : Prop where
  row : ∀ (k : Nat) (s : Blk), l[k]? = some s → w.cell? ⟨L, k, none⟩ = some (.pointer (some ⟨s.b, 0, none⟩))
  sep : Sep l
  sets : SetsAt w n l Xs
  gb : ∀ (k : Nat) (s : Blk), l[k]? = some s → w0.heap.size ≤ s.g
  lne : ∀ (k : Nat) (s : Blk), l[k]? = some s → L ≠ s.g
  llt : L < w.heap.size
  tab : TabAt w
  pos : 0 < w0.heap.size
  bel : Below w0.heap.size w0 w

theorem ApX.below {w0 w w' : World} {L n : Nat} {l : List Blk} {Xs : Nat → Nat} (h : ApX w0 L n l Xs w) (d : Below w.heap.size w w') : ApX w0 L n l Xs w' :=
  ⟨fun k s hk => (d.cell (p := ⟨L, k, none⟩) h.llt).trans (h.row k s hk), h.sep, h.sets.below d, h.gb, h.lne, Nat.lt_of_lt_of_le h.llt d.size, h.tab.below d (Nat.lt_of_lt_of_le h.pos h.bel.size), h.pos, h.bel.trans (d.mono h.bel.size)⟩

/-- The i-th set has changed, nothing else has. -/
theorem ApX.mut {w0 w w' : World} {L n i X' : Nat} {l : List Blk} {Xs : Nat → Nat} {s : Blk} (h : ApX w0 L n l Xs w) (hi : l[i]? = some s) (g : w.grownBy w' (some s.g)) (hs : IsSet w' s.b s.g s.c n X') :
    ApX w0 L n l (fun k => if k = i then X' else Xs k) w' := by
  have hne0 : s.g ≠ 0 := by have := h.gb i s hi; have := h.pos; omega
  refine ⟨fun k t hk => g.cell (h.row k t hk) (fun e => h.lne i s hi (Option.some.inj e)), h.sep, fun k t hk => ?_, h.gb, h.lne, Nat.lt_of_lt_of_le h.llt g.size, fun j hj => g.cell (h.tab j hj) (fun e => hne0 (Option.some.inj e).symm), h.pos, h.bel.grown g h.bel.size (fun k e => by cases e; exact h.gb i s hi)⟩
  show IsSet w' t.b t.g t.c n (if k = i then X' else Xs k)
  by_cases hki : k = i
  · subst hki
    rw [if_pos rfl]
    obtain rfl : s = t := Option.some.inj (hi.symm.trans hk)
    exact hs
  · rw [if_neg hki]
    have := h.sep.two k i t s hk hi hki
    exact (h.sets k t hk).other g this.1 this.2

theorem apx_start {w0 w : World} {n : Nat} {l : List Blk} {cs : Array Value} (h : Fam w w0.heap.size n l) (hcs : cs = (l.map fun s => Value.pointer (some ⟨s.b, 0, none⟩)).toArray) (hT : TabAt w) (d : Below w0.heap.size w0 w) (hw : 0 < w.heap.size) (hw0 : 0 < w0.heap.size) :
    ∃ Xs, ApX w0 w.heap.size n l Xs (w.alloc (.cells cs 25)) := by
  obtain ⟨⟨hS, Xs, hF⟩, hB⟩ := h
  have da : Below w.heap.size w (w.alloc (.cells cs 25)) := (Below.refl _ _).alloc (Nat.le_refl _) _
  refine ⟨Xs, fun k s hk => ?_, hS, hF.below da, hB, fun k s hk => ?_, by simp, hT.below da hw, hw0, d.trans (da.mono d.size)⟩
  · rw [cell_of_row _ _ k _ 25 (0, 0) (heap_alloc_new w _), hcs]
    simp [hk]
  · have := (hF k s hk).glt
    omega

/-- The keys of the first k sets. -/
def keysV (n : Nat) (Xs : Nat → Nat) (k : Nat) : List Value := (List.range k).map fun j => .string ⟨(keyPre n (Xs j) ((n + 7) / 8)).toArray⟩
theorem keysV_succ (n : Nat) (Xs : Nat → Nat) (k : Nat) : keysV n Xs (k + 1) = keysV n Xs k ++ [.string ⟨(keyPre n (Xs k) ((n + 7) / 8)).toArray⟩] := by simp [keysV, List.range_succ]
theorem keysV_get (n : Nat) (Xs : Nat → Nat) (k j : Nat) (h : j < k) : (keysV n Xs k)[j]? = some (.string ⟨(keyPre n (Xs j) ((n + 7) / 8)).toArray⟩) := by simp [keysV, h]
theorem info9 : (Tryd.prog.info? 9).map (fun i => (i.zero, i.size, i.bytes)) = some (some (.string ⟨#[]⟩), 1, 16) := by kernel_rfl

theorem keepR {w w1 : World} {L i : Nat} {v : Value} (hL : L < w.heap.size) (h : w.cell? ⟨L, i, none⟩ = some v) (d : Below w.drew.heap.size w.drew w1) : w1.cell? ⟨L, i, none⟩ = some v := (d.cell (p := ⟨L, i, none⟩) hL).trans h
theorem keepR2 {w w1 w2 : World} {L i : Nat} {v : Value} (hL : L < w.heap.size) (h : w.cell? ⟨L, i, none⟩ = some v) (d : Below w.drew.heap.size w.drew w1) (d2 : Below w1.heap.size w1 w2) : w2.cell? ⟨L, i, none⟩ = some v :=
  (d2.cell (p := ⟨L, i, none⟩) (Nat.lt_of_lt_of_le hL d.size)).trans (keepR hL h d)

theorem own_below {w w' : World} {base e size n : Nat} {v : Value} {xs : List Value} (h : w.ownsRow base e size v n xs) (d : Below w.heap.size w w') : w'.ownsRow base e size v n xs :=
  h.kept (row := none) ⟨d.os, d.tape, d.output, d.size, fun k hk _ => d.block k hk⟩ (by cases v.ownBlock <;> simp)

theorem own_mut {w w' : World} {base e size n g : Nat} {v : Value} {xs : List Value} (h : w.ownsRow base e size v n xs) (gr : w.grownBy w' (some g)) (hg : g < base) : w'.ownsRow base e size v n xs := by
  refine h.kept gr ?_
  cases hv : v.ownBlock with
  | none => exact .inl rfl
  | some b =>
    have := (h.lt b hv).1
    exact .inr (fun e => by cases e; omega)
theorem own_some {w : World} {base e size m cp : Nat} {ao : Option Addr} {xs : List Value} (h : w.ownsRow base e size (.slice ao (m + 1) cp) (m + 1) xs) : ∃ g, ao = some ⟨g, 0, none⟩ := by
  rcases h.2 with ⟨_, h0⟩ | ⟨g, cap, cur, hv, _⟩
  · omega
  · simp only [Value.slice.injEq] at hv
    exact ⟨g, hv.1⟩
theorem cnt_zero (n : Nat) : cnt n 0 = 0 := by simp [cnt, elems_zero]
theorem cnt_fulls (n X : Nat) (hX : X < 2 ^ n) : cnt n (X ||| (X ||| notN n X)) = n := by
  unfold cnt elems
  have : (List.range n).filter (fun i => (X ||| (X ||| notN n X)).testBit i) = List.range n := by
    rw [List.filter_eq_self]
    intro i hi
    have := List.mem_range.1 hi
    rw [Nat.testBit_or, Nat.testBit_or, notN_testBit n X i hX]
    cases X.testBit i <;> simp [this]
  rw [this, List.length_range]

theorem fam_two {w : World} {B n ba ga ca bb gb cb X Y : Nat} (sa : IsSet w ba ga ca n X) (sb : IsSet w bb gb cb n Y) (e1 : ba ≠ ga) (e2 : bb ≠ gb) (_l1 : ba < bb) (l2 : ba < gb) (l3 : ga < bb) (l4 : ga < gb) (h1 : B ≤ ga) (h2 : B ≤ gb) :
    Fam w B n [⟨ba, ga, ca⟩, ⟨bb, gb, cb⟩] := by
  refine ⟨⟨⟨fun k s hk => ?_, fun j k s t hj hk hne => ?_⟩, fun k => if k = 0 then X else Y, fun k s hk => ?_⟩, fun k s hk => ?_⟩
  · match k, hk with
    | 0, hk => cases hk; exact e1
    | 1, hk => cases hk; exact e2
  · match j, k, hj, hk, hne with
    | 0, 1, hj, hk, _ => cases hj; cases hk; exact ⟨by show ba ≠ gb; omega, by show ga ≠ gb; omega⟩
    | 1, 0, hj, hk, _ => cases hj; cases hk; exact ⟨by show bb ≠ ga; omega, by show gb ≠ ga; omega⟩
    | 0, 0, _, _, hne => exact absurd rfl hne
    | 1, 1, _, _, hne => exact absurd rfl hne
  · match k, hk with
    | 0, hk => cases hk; exact sa
    | 1, hk => cases hk; exact sb
  · match k, hk with
    | 0, hk => cases hk; exact h1
    | 1, hk => cases hk; exact h2

set_option maxRecDepth 100000 in
set_option maxHeartbeats 8000000 in
theorem apart_any (v : Value) (N : Int) (A B C : List Int) (w : World) (h : ThreeV w v N A B C) (hT : TabAt w) (hw0 : 0 < w.heap.size) :
    Calls Tryd.prog 6 #[v] w fun e w' => e = .returned (.bool true) ∧ Below w.heap.size w w' := by
  obtain ⟨n1, n2, ⟨a1, p1, a2, p2, a3, p3, rfl, r1, r2, r3⟩, la, lb, lc⟩ := h
  have hA : Below w.heap.size w (w.alloc (.cells #[.int .i64 N, .slice a1 A.length p1, .slice a2 B.length p2, .slice a3 C.length p3] 24)) := (Below.refl _ _).alloc (Nat.le_refl _) _
  have h3 : ThreeV (w.alloc (.cells #[.int .i64 N, .slice a1 A.length p1, .slice a2 B.length p2, .slice a3 C.length p3] 24)) (.agg #[.int .i64 N, .slice a1 A.length p1, .slice a2 B.length p2, .slice a3 C.length p3]) N A B C := ⟨n1, n2, ⟨a1, p1, a2, p2, a3, p3, rfl, r1.below hA, r2.below hA, r3.below hA⟩, la, lb, lc⟩
  have H3 := hide h3
  have hle := boundN_le N
  have HT := hide hT
  clear h3 r1 r2 r3 la lb lc hT
  obtain ⟨j0, hj, jz0, jz1, jz2⟩ := info_parts info9
  go_enter Tryd.func6, Tryd.ntmps6
  go_wp2_with fail
  refine (sets_any _ N A B C _ H3.out).mono ?_
  rintro e w1 ⟨ba, ga, ca, bb, gb, cb, bc, gc, cc, rfl, sa, sb, sc, m1, m2, m3, m4, m5, m6, e1, e2, e3, l1, l2, l3, l4, d1⟩
  have D1 : Below w.heap.size w w1 := hA.trans (d1.mono (by simp))
  have T1 := hide (HT.out.below D1 hw0)
  generalize setI (boundN N) A = X at sa
  generalize setI (boundN N) B = Y at sb
  generalize boundN N = n at *
  have W1 : 0 < w1.heap.size := Nat.lt_of_lt_of_le hw0 D1.size
  have F1 := hide (fam_two sa sb e1 e2 l1 l2 l3 l4 (by simp at m2; omega : w.heap.size ≤ ga) (by simp at m4; omega : w.heap.size ≤ gb))
  clear sc m1 m2 m3 m4 m5 m6 d1 hA H3 HT e1 e2 e3 l1 l2 l3 l4
  go_wp2_with fail
  refine (known_any _ T1.out W1).mono ?_
  rintro e w2 ⟨rfl, d2⟩
  replace sa := sa.below d2
  replace sb := sb.below d2
  have F2 := hide (fam_below F1.out d2)
  clear F1
  replace T1 := hide (T1.out.below d2 W1)
  replace D1 := D1.trans (d2.mono D1.size)
  have W2 : 0 < w2.heap.size := Nat.lt_of_lt_of_le hw0 D1.size
  clear d2 W1
  have T2 := T1
  clear T1
  have D2 := D1
  clear D1
  go_wp2_with fail
  refine (lminus_any bb gb cb n (Y) bb gb cb (Y) _ sb sb).mono ?_
  rintro e w3 ⟨bz, gz, cz, rfl, sz, m1, m2, m3, d3⟩
  replace sa := sa.below d3
  replace sb := sb.below d3
  have F3 := hide (fam_below F2.out d3)
  clear F2
  replace T2 := hide (T2.out.below d3 W2)
  replace D2 := D2.trans (d3.mono D2.size)
  have W3 : 0 < w3.heap.size := Nat.lt_of_lt_of_le hw0 D2.size
  clear d3 W2
  have T3 := T2
  clear T2
  have D3 := D2
  clear D2
  clear m1 m2 m3
  go_wp2_with fail
  refine (lmeet_any ba ga ca n (X) bz gz cz (minusN (Y) (Y)) _ sa sz).mono ?_
  rintro e w4 ⟨bem, gem, cem, rfl, sem, m1, m2, m3, d4⟩
  replace sa := sa.below d4
  replace sb := sb.below d4
  replace sz := sz.below d4
  have F4 := hide (fam_below F3.out d4)
  clear F3
  replace T3 := hide (T3.out.below d4 W3)
  replace D3 := D3.trans (d4.mono D3.size)
  have W4 : 0 < w4.heap.size := Nat.lt_of_lt_of_le hw0 D3.size
  clear d4 W3
  have T4 := T3
  clear T3
  have D4 := D3
  clear D3
  clear m1 m2 m3
  clear sz
  go_wp2_with fail
  refine (copy_any ba ga ca n (X) _ sa).mono ?_
  rintro e w5 ⟨bp2, gp2, cp2, rfl, sp2, m1, m2, m3, d5⟩
  replace sa := sa.below d5
  replace sb := sb.below d5
  replace sem := sem.below d5
  have F5 := hide (fam_push F4.out sp2 m1 m2 m3 D4.size d5)
  clear F4
  replace T4 := hide (T4.out.below d5 W4)
  replace D4 := D4.trans (d5.mono D4.size)
  have W5 : 0 < w5.heap.size := Nat.lt_of_lt_of_le hw0 D4.size
  clear d5 W4
  have T5 := T4
  clear T4
  have D5 := D4
  clear D4
  clear m1 m2 m3
  clear sp2
  go_wp2_with fail
  refine (lunion_any ba ga ca n (X) bb gb cb (Y) _ sa sb).mono ?_
  rintro e w6 ⟨bp3, gp3, cp3, rfl, sp3, m1, m2, m3, d6⟩
  replace sa := sa.below d6
  replace sb := sb.below d6
  replace sem := sem.below d6
  have F6 := hide (fam_push F5.out sp3 m1 m2 m3 D5.size d6)
  clear F5
  replace T5 := hide (T5.out.below d6 W5)
  replace D5 := D5.trans (d6.mono D5.size)
  have W6 : 0 < w6.heap.size := Nat.lt_of_lt_of_le hw0 D5.size
  clear d6 W5
  have T6 := T5
  clear T5
  have D6 := D5
  clear D5
  clear m1 m2 m3
  clear sp3
  go_wp2_with fail
  refine (lmeet_any ba ga ca n (X) ba ga ca (X) _ sa sa).mono ?_
  rintro e w7 ⟨bp4, gp4, cp4, rfl, sp4, m1, m2, m3, d7⟩
  replace sa := sa.below d7
  replace sb := sb.below d7
  replace sem := sem.below d7
  have F7 := hide (fam_push F6.out sp4 m1 m2 m3 D6.size d7)
  clear F6
  replace T6 := hide (T6.out.below d7 W6)
  replace D6 := D6.trans (d7.mono D6.size)
  have W7 : 0 < w7.heap.size := Nat.lt_of_lt_of_le hw0 D6.size
  clear d7 W6
  have T7 := T6
  clear T6
  have D7 := D6
  clear D6
  clear m1 m2 m3
  clear sp4
  go_wp2_with fail
  refine (lminus_any ba ga ca n (X) bb gb cb (Y) _ sa sb).mono ?_
  rintro e w8 ⟨bp5, gp5, cp5, rfl, sp5, m1, m2, m3, d8⟩
  replace sa := sa.below d8
  replace sb := sb.below d8
  replace sem := sem.below d8
  have F8 := hide (fam_push F7.out sp5 m1 m2 m3 D7.size d8)
  clear F7
  replace T7 := hide (T7.out.below d8 W7)
  replace D7 := D7.trans (d8.mono D7.size)
  have W8 : 0 < w8.heap.size := Nat.lt_of_lt_of_le hw0 D7.size
  clear d8 W7
  have T8 := T7
  clear T7
  have D8 := D7
  clear D7
  clear m1 m2 m3
  clear sp5
  go_wp2_with fail
  refine (not_any ba ga ca n (X) _ sa).mono ?_
  rintro e w9 ⟨bq, gq, cq, rfl, sq, m1, m2, m3, d9⟩
  replace sa := sa.below d9
  replace sb := sb.below d9
  replace sem := sem.below d9
  have F9 := hide (fam_below F8.out d9)
  clear F8
  replace T8 := hide (T8.out.below d9 W8)
  replace D8 := D8.trans (d9.mono D8.size)
  have W9 : 0 < w9.heap.size := Nat.lt_of_lt_of_le hw0 D8.size
  clear d9 W8
  have T9 := T8
  clear T8
  have D9 := D8
  clear D8
  clear m1 m2 m3
  go_wp2_with fail
  refine (not_any bq gq cq n (notN n (X)) _ sq).mono ?_
  rintro e w10 ⟨bp6, gp6, cp6, rfl, sp6, m1, m2, m3, d10⟩
  replace sa := sa.below d10
  replace sb := sb.below d10
  replace sem := sem.below d10
  replace sq := sq.below d10
  have F10 := hide (fam_push F9.out sp6 m1 m2 m3 D9.size d10)
  clear F9
  replace T9 := hide (T9.out.below d10 W9)
  replace D9 := D9.trans (d10.mono D9.size)
  have W10 : 0 < w10.heap.size := Nat.lt_of_lt_of_le hw0 D9.size
  clear d10 W9
  have T10 := T9
  clear T9
  have D10 := D9
  clear D9
  clear m1 m2 m3
  clear sp6
  clear sq
  go_wp2_with fail
  refine (lunion_any ba ga ca n (X) bem gem cem ((X) &&& (minusN (Y) (Y))) _ sa sem).mono ?_
  rintro e w11 ⟨bp7, gp7, cp7, rfl, sp7, m1, m2, m3, d11⟩
  replace sa := sa.below d11
  replace sb := sb.below d11
  replace sem := sem.below d11
  have F11 := hide (fam_push F10.out sp7 m1 m2 m3 D10.size d11)
  clear F10
  replace T10 := hide (T10.out.below d11 W10)
  replace D10 := D10.trans (d11.mono D10.size)
  have W11 : 0 < w11.heap.size := Nat.lt_of_lt_of_le hw0 D10.size
  clear d11 W10
  have T11 := T10
  clear T10
  have D11 := D10
  clear D10
  clear m1 m2 m3
  clear sp7
  go_wp2_with fail
  refine (lminus_any ba ga ca n (X) bem gem cem ((X) &&& (minusN (Y) (Y))) _ sa sem).mono ?_
  rintro e w12 ⟨bp8, gp8, cp8, rfl, sp8, m1, m2, m3, d12⟩
  replace sa := sa.below d12
  replace sb := sb.below d12
  replace sem := sem.below d12
  have F12 := hide (fam_push F11.out sp8 m1 m2 m3 D11.size d12)
  clear F11
  replace T11 := hide (T11.out.below d12 W11)
  replace D11 := D11.trans (d12.mono D11.size)
  have W12 : 0 < w12.heap.size := Nat.lt_of_lt_of_le hw0 D11.size
  clear d12 W11
  have T12 := T11
  clear T11
  have D12 := D11
  clear D11
  clear m1 m2 m3
  clear sp8
  clear sa sb sem
  have hl9 : ([⟨ba, ga, ca⟩, ⟨bb, gb, cb⟩] ++ [⟨bp2, gp2, cp2⟩] ++ [⟨bp3, gp3, cp3⟩] ++ [⟨bp4, gp4, cp4⟩] ++ [⟨bp5, gp5, cp5⟩] ++ [⟨bp6, gp6, cp6⟩] ++ [⟨bp7, gp7, cp7⟩] ++ [⟨bp8, gp8, cp8⟩] : List Blk).length = 9 := rfl
  have hl0 : ([⟨ba, ga, ca⟩, ⟨bb, gb, cb⟩] ++ [⟨bp2, gp2, cp2⟩] ++ [⟨bp3, gp3, cp3⟩] ++ [⟨bp4, gp4, cp4⟩] ++ [⟨bp5, gp5, cp5⟩] ++ [⟨bp6, gp6, cp6⟩] ++ [⟨bp7, gp7, cp7⟩] ++ [⟨bp8, gp8, cp8⟩] : List Blk)[0]? = some ⟨ba, ga, ca⟩ := rfl
  have P0 := hide (apx_start (cs := #[.pointer (some ⟨ba, 0, none⟩), .pointer (some ⟨bb, 0, none⟩), .pointer (some ⟨bp2, 0, none⟩), .pointer (some ⟨bp3, 0, none⟩), .pointer (some ⟨bp4, 0, none⟩), .pointer (some ⟨bp5, 0, none⟩), .pointer (some ⟨bp6, 0, none⟩), .pointer (some ⟨bp7, 0, none⟩), .pointer (some ⟨bp8, 0, none⟩)]) F12.out rfl T12.out D12 W12 hw0)
  generalize ([⟨ba, ga, ca⟩, ⟨bb, gb, cb⟩] ++ [⟨bp2, gp2, cp2⟩] ++ [⟨bp3, gp3, cp3⟩] ++ [⟨bp4, gp4, cp4⟩] ++ [⟨bp5, gp5, cp5⟩] ++ [⟨bp6, gp6, cp6⟩] ++ [⟨bp7, gp7, cp7⟩] ++ [⟨bp8, gp8, cp8⟩] : List Blk) = l at hl9 hl0 P0
  clear F12 T12 D12 W12
  go_wp2
  go_loopw [9] (fun i wr => ∃ k : Nat, k ≤ 9 ∧ i = .int .i64 k ∧ ∃ Xs, ApX w w12.heap.size n l Xs wr) (fun i _ => 9 - (intOf i).toNat)
  case atStart => exact ⟨0, Nat.zero_le _, rfl, P0.out⟩
  case round =>
    obtain ⟨k, hk, rfl, Xs, P⟩ := hrel
    by_cases hlt : k < 9
    · obtain ⟨s, hs⟩ : ∃ s, l[k]? = some s := ⟨l[k]'(by omega), List.getElem?_eq_getElem (by omega)⟩
      have c := P.row k s hs
      have HP := hide P
      clear P hs P0
      go_wp2
      go_roundw
      case rel => exact ⟨k + 1, by omega, by go_num, Xs, HP.out⟩
      case measure => simp [intOf]; omega
    · have HP := hide P
      clear P P0
      have hltI : ¬ (k : Int) < 9 := by omega
      clear hlt
      go_wp2
      go_loopw [10] (fun i wr => ∃ k : Nat, k ≤ 9 ∧ i = .int .i64 k ∧ ∃ Xs, ApX w w12.heap.size n l Xs wr) (fun i _ => 9 - (intOf i).toNat)
      case atStart => exact ⟨0, Nat.zero_le _, rfl, Xs, HP.out⟩
      case round =>
        clear HP
        obtain ⟨i, hi, rfl, Xs, P⟩ := hrel
        obtain ⟨wa, hwa⟩ : ∃ wa, wa = wr := ⟨_, rfl⟩
        subst hwa
        have HP := hide P
        clear P
        by_cases hi9 : i < 9
        · have hi9i : (i : Int) < 9 := by omega
          go_wp2
          go_loopw [11, 12] (fun v kk wr => ∃ (k cp : Nat) (ao : Option Addr), k ≤ 9 ∧ kk = .int .i64 k ∧ v = .slice ao k cp ∧ wr.ownsRow wa.heap.size 9 1 (.slice ao k cp) k (keysV n Xs k) ∧ Below wa.heap.size wa wr) (fun _ kk _ => 9 - (intOf kk).toNat)
          case atStart => exact ⟨0, 0, none, Nat.zero_le _, rfl, rfl, World.ownsRow_nil _ _ _ _, Below.refl _ _⟩
          case round =>
            obtain ⟨k, cp, ao, hk, rfl, rfl, ow, d⟩ := hrel
            by_cases hk9 : k < 9
            · obtain ⟨t, ht⟩ : ∃ t, l[k]? = some t := ⟨l[k]'(by omega), List.getElem?_eq_getElem (by omega)⟩
              have PP := HP.out.below d
              have c := PP.row k t ht
              have st := PP.sets k t ht
              clear PP ht
              go_wp2_with fail
              refine (key_any t.b t.g t.c n (Xs k) _ st).mono ?_
              rintro e w2 ⟨rfl, d2⟩
              clear st c
              have d3 := d.trans (d2.mono d.size)
              have ow2 : w2.ownsRow wa.heap.size 9 1 (.slice ao k cp) k (keysV n Xs k) := ow.kept (row := none) ⟨d2.os, d2.tape, d2.output, d2.size, fun k hk _ => d2.block k hk⟩ (by cases hv : (Value.slice ao k cp).ownBlock <;> simp)
              clear ow d d2
              have hsz := d3.size
              generalize hkey : (⟨(keyPre n (Xs k) ((n + 7) / 8)).toArray⟩ : ByteArray) = kb
              have HK := hide hkey
              clear hkey
              go_wp2_with (at_builtin; refine wpList_append_lies _ rfl _ _ _ rfl wa.heap.size 9 j0 _ 1 16 Tryd.underlying56 hj jz0 jz1 jz2 rfl (by omega) _ k (keysV n Xs k) rfl (ow2.alloc _) ⟨w2.heap.size, 0, none⟩ 1 1 [.string kb] rfl rfl (World.news_of_block (cs := #[.string kb]) (t := 9) (fr := (0, 0)) (heap_alloc_new w2 _)) (by simp [Value.oneCell']) (by omega) (by unfold maxLen; omega) (by omega) (by simp; omega) (w2.heap.size + 1) (by simp) ?_)
              intro g cap w3 ow3 hgr hat hlt
              have d4 : Below wa.heap.size wa w3 := (d3.alloc hsz _).grown hgr (by simp; omega) (fun q hq => (ow2.lt q hq).1)
              have hkv : keysV n Xs k ++ [.string kb] = keysV n Xs (k + 1) := by rw [keysV_succ, HK.out]
              rw [hkv] at ow3
              clear hat hlt hgr ow2 d3
              go_wp2
              go_roundw
              case rel => first | exact ⟨k + 1, cap, some ⟨g, 0, none⟩, by omega, by go_num, rfl, ow3, d4⟩ | exact ⟨_, _, _, _, _, _, _, _, _, _, _, _, _, _, _, _, ⟨k + 1, cap, some ⟨g, 0, none⟩, by omega, by go_num, rfl, ow3, d4⟩, rfl⟩
              case measure => simp [intOf]; omega
            · obtain rfl : k = 9 := by omega
              obtain ⟨s, hs⟩ : ∃ s, l[i]? = some s := ⟨l[i]'(by omega), List.getElem?_eq_getElem (by omega)⟩
              have PP := hide (HP.out.below d)
              have hsg := (HP.out.sets i s hs).glt
              clear HP d hk hk9
              have c := PP.out.row i s hs
              have si := PP.out.sets i s hs
              have HS := hide hs
              clear hs
              have hLl := PP.out.llt
              go_wp2_with fail
              go_region_held3 (fun w' => w'.cell? ⟨w12.heap.size, i, none⟩ = some (.pointer (some ⟨s.b, 0, none⟩)))
                (first | exact keepR hLl c d2 | exact keepR2 hLl c d2 d3 | go_keep)
                (first
                  | (go_at_call 30; refine (not_any s.b s.g s.c n (Xs i) _ (IsSet.drew si)).mono ?_; rintro e w2 ⟨bn, gn, cn, rfl, sn, q1, q2, q3, d2⟩)
                  | (go_at_call 29; refine (lunion_any s.b s.g s.c n (Xs i) bn gn cn _ _ ((IsSet.drew si).below d2) sn).mono ?_; rintro e w3 ⟨bf, gf, cf, rfl, sf, q4, q5, q6, d3⟩))
              have D2 : Below wr.heap.size wr w3 := (Below.drew (Below.refl _ _)).trans (d2.trans (d3.mono d2.size))
              have hbf : wr.heap.size ≤ bf := Nat.le_trans d2.size q4
              have hgf : wr.heap.size ≤ gf := Nat.le_trans d2.size q5
              have P3 := hide (PP.out.below D2)
              have own3 := hide (own_below ow D2)
              have c3 := P3.out.row i s HS.out
              have s3 := P3.out.sets i s HS.out
              have sgl : s.g < wr.heap.size := si.glt
              have hbg := P3.out.sep.own i s HS.out
              have HXi := hide s3.hX
              clear D2 d2 d3 q1 q2 q3 q4 q5 q6 c si sn PP ow hLl
              rcases Nat.mod_two_eq_zero_or_one i with hpar | hpar
              · have hp : (i : Int) % 2 = 0 := by omega
                go_wp2_with fail
                refine (clear_any s.b s.g s.c n (Xs i) _ s3 hbg).mono ?_
                rintro e w4 ⟨rfl, s4, gr⟩
                have P4 := hide (P3.out.mut HS.out gr s4)
                have own4 := hide (own_mut own3.out gr hsg)
                have hbel4 := gr.size
                clear P3 own3 c3 s3 sf sgl hbf hgf gr s4
                obtain ⟨gk, rfl⟩ := own_some own4.out
                go_wp2
                go_loopw [14] (fun kk wr => ∃ k : Nat, k ≤ 9 ∧ kk = .int .i64 k ∧ Below w4.heap.size w4 wr) (fun kk _ => 9 - (intOf kk).toNat)
                case atStart => exact ⟨0, Nat.zero_le _, rfl, Below.refl _ _⟩
                case round =>
                  obtain ⟨k, hk, rfl, d⟩ := hrel
                  by_cases hk9 : k < 9
                  · by_cases hki : k = i
                    · have hkb : ((k : Int) != (i : Int)) = false := by rw [hki]; simp
                      have HKI := hide hki
                      clear hki
                      go_wp2_with fail
                      go_quiet (fail)
                      go_wp2
                      go_roundw
                      case rel => exact ⟨k + 1, by omega, by go_num, below_drewN' d _⟩
                      case measure => simp [intOf]; omega
                    · have hkn : ¬ ((k : Int) = (i : Int)) := by omega
                      have hkb : ((k : Int) != (i : Int)) = true := by rw [bne_iff_ne]; exact hkn
                      obtain ⟨t, ht⟩ : ∃ t, l[k]? = some t := ⟨l[k]'(by omega), List.getElem?_eq_getElem (by omega)⟩
                      have P5 := P4.out.below d
                      have c5 := P5.row k t ht
                      have s5 := P5.sets k t ht
                      have own5 := own_below own4.out d
                      have k5 := own5.cells (g := gk) rfl k _ (keysV_get n Xs 9 k hk9)
                      rw [Addr.add_lit, Nat.zero_add] at k5
                      have l5 := P5.llt
                      have l6 := (own5.lt gk rfl).2
                      have e5 : (if k = i then 0 else Xs k) = Xs k := if_neg hki
                      rw [e5] at s5
                      generalize hkey : (⟨(keyPre n (Xs k) ((n + 7) / 8)).toArray⟩ : ByteArray) = kb at k5
                      have HK := hide hkey
                      have D5 := hide d
                      clear P5 own5 ht hki hkn e5 hkey d
                      go_wp2_with fail
                      go_region_held3 (fun w' => w'.cell? ⟨w12.heap.size, k, none⟩ = some (.pointer (some ⟨t.b, 0, none⟩)) ∧ w'.cell? ⟨gk, k, none⟩ = some (.string kb))
                        (first | exact ⟨keepR l5 c5 d7, keepR l6 k5 d7⟩ | go_keep)
                        ((go_at_call 22; refine (key_any t.b t.g t.c n (Xs k) _ (IsSet.drew s5)).mono ?_; rw [HK.out]; rintro e w7 ⟨rfl, d7⟩))
                      go_wp2
                      go_roundw
                      case rel => exact ⟨k + 1, by omega, by go_num, D5.out.drew.trans (d7.mono D5.out.size)⟩
                      case measure => simp [intOf]; omega
                  · obtain rfl : k = 9 := by omega
                    have P5 := P4.out.below d
                    have c5 := P5.row i s HS.out
                    have s5 := P5.sets i s HS.out
                    have e5 : (if i = i then 0 else Xs i) = 0 := if_pos rfl
                    rw [e5] at s5
                    have a5 := (P5.sets 0 _ hl0).c0
                    have H5 := hide P5
                    have HL : Hid (cnt n (0) = 0) := (cnt_zero n)
                    clear P5 d e5 own4 P4
                    go_wp2_with fail
                    refine (count_L s.b s.g s.c n _ 0 _ HL s5).mono ?_
                    rintro e w8 ⟨rfl, d8⟩
                    have P8 := hide (H5.out.below d8)
                    have a8 := (P8.out.sets 0 _ hl0).c0
                    clear H5 a5 s5 c5 HL d8
                    have hq0 : ((i : Int) % 2 == 0) = true := by rw [hp]; rfl
                    have hq1 : ((i : Int) % 2 == 1) = false := by rw [hp]; rfl
                    go_wp2
                    go_roundw
                    case rel => exact ⟨i + 1, by omega, by go_num, _, P8.out⟩
                    case measure => simp [intOf]; omega
              · have hp : (i : Int) % 2 = 1 := by omega
                go_wp2_with fail
                refine (join_g s.b s.g s.c n (Xs i) bf gf cf _ _ s3 sf hbg (by omega) (by omega)).mono ?_
                rintro e w4 ⟨rfl, s4, gr⟩
                have P4 := hide (P3.out.mut HS.out gr s4)
                have own4 := hide (own_mut own3.out gr hsg)
                have hbel4 := gr.size
                clear P3 own3 c3 s3 sf sgl hbf hgf gr s4
                obtain ⟨gk, rfl⟩ := own_some own4.out
                go_wp2
                go_loopw [14] (fun kk wr => ∃ k : Nat, k ≤ 9 ∧ kk = .int .i64 k ∧ Below w4.heap.size w4 wr) (fun kk _ => 9 - (intOf kk).toNat)
                case atStart => exact ⟨0, Nat.zero_le _, rfl, Below.refl _ _⟩
                case round =>
                  obtain ⟨k, hk, rfl, d⟩ := hrel
                  by_cases hk9 : k < 9
                  · by_cases hki : k = i
                    · have hkb : ((k : Int) != (i : Int)) = false := by rw [hki]; simp
                      have HKI := hide hki
                      clear hki
                      go_wp2_with fail
                      go_quiet (fail)
                      go_wp2
                      go_roundw
                      case rel => exact ⟨k + 1, by omega, by go_num, below_drewN' d _⟩
                      case measure => simp [intOf]; omega
                    · have hkn : ¬ ((k : Int) = (i : Int)) := by omega
                      have hkb : ((k : Int) != (i : Int)) = true := by rw [bne_iff_ne]; exact hkn
                      obtain ⟨t, ht⟩ : ∃ t, l[k]? = some t := ⟨l[k]'(by omega), List.getElem?_eq_getElem (by omega)⟩
                      have P5 := P4.out.below d
                      have c5 := P5.row k t ht
                      have s5 := P5.sets k t ht
                      have own5 := own_below own4.out d
                      have k5 := own5.cells (g := gk) rfl k _ (keysV_get n Xs 9 k hk9)
                      rw [Addr.add_lit, Nat.zero_add] at k5
                      have l5 := P5.llt
                      have l6 := (own5.lt gk rfl).2
                      have e5 : (if k = i then (Xs i ||| (Xs i ||| notN n (Xs i))) else Xs k) = Xs k := if_neg hki
                      rw [e5] at s5
                      generalize hkey : (⟨(keyPre n (Xs k) ((n + 7) / 8)).toArray⟩ : ByteArray) = kb at k5
                      have HK := hide hkey
                      have D5 := hide d
                      clear P5 own5 ht hki hkn e5 hkey d
                      go_wp2_with fail
                      go_region_held3 (fun w' => w'.cell? ⟨w12.heap.size, k, none⟩ = some (.pointer (some ⟨t.b, 0, none⟩)) ∧ w'.cell? ⟨gk, k, none⟩ = some (.string kb))
                        (first | exact ⟨keepR l5 c5 d7, keepR l6 k5 d7⟩ | go_keep)
                        ((go_at_call 22; refine (key_any t.b t.g t.c n (Xs k) _ (IsSet.drew s5)).mono ?_; rw [HK.out]; rintro e w7 ⟨rfl, d7⟩))
                      go_wp2
                      go_roundw
                      case rel => exact ⟨k + 1, by omega, by go_num, D5.out.drew.trans (d7.mono D5.out.size)⟩
                      case measure => simp [intOf]; omega
                  · obtain rfl : k = 9 := by omega
                    have P5 := P4.out.below d
                    have c5 := P5.row i s HS.out
                    have s5 := P5.sets i s HS.out
                    have e5 : (if i = i then (Xs i ||| (Xs i ||| notN n (Xs i))) else Xs i) = (Xs i ||| (Xs i ||| notN n (Xs i))) := if_pos rfl
                    rw [e5] at s5
                    have a5 := (P5.sets 0 _ hl0).c0
                    have H5 := hide P5
                    have HL : Hid (cnt n ((Xs i ||| (Xs i ||| notN n (Xs i)))) = n) := (cnt_fulls n (Xs i) HXi.out)
                    clear P5 d e5 own4 P4
                    go_wp2_with fail
                    refine (count_L s.b s.g s.c n _ n _ HL s5).mono ?_
                    rintro e w8 ⟨rfl, d8⟩
                    have P8 := hide (H5.out.below d8)
                    have a8 := (P8.out.sets 0 _ hl0).c0
                    clear H5 a5 s5 c5 HL d8
                    have hq0 : ((i : Int) % 2 == 0) = false := by rw [hp]; rfl
                    have hq1 : ((i : Int) % 2 == 1) = true := by rw [hp]; rfl
                    go_wp2_with (go_at_call 25; refine (bound_any ba n _ a8).mono ?_; rintro e w9 ⟨rfl, hw⟩; obtain rfl := hw.symm; clear hw)
                    go_roundw
                    case rel => exact ⟨i + 1, by omega, by go_num, _, P8.out⟩
                    case measure => simp [intOf]; omega
        · have hb := HP.out.bel
          clear HP
          go_wp2
          go_ret
          exact ⟨rfl, hb⟩
end Go.Proofs.YtdgmokelmocejaaDoor
