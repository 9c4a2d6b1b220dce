import Derived.Test.YtnfdifkcchciaaaDoorTi
namespace Go.Proofs.YtnfdifkcchciaaaDoor
open Go.RowKit Go.Maps

theorem lent_more {w : World} {B C g c : Nat} {l : List ByteArray} (h : Lent w C g c l) (hb : B ≤ C) : Lent w B g c l := ⟨own_more h.own hb, h.cap⟩
theorem k_keep {w1 W W' : World} {X : Nat} {v : Value} (d : Below W.heap.size W W') (h : W.cell? ⟨X, 3, none⟩ = some v ∧ Hid (Below w1.heap.size w1 W)) : W'.cell? ⟨X, 3, none⟩ = some v ∧ Hid (Below w1.heap.size w1 W') :=
  ⟨cell_below h.1 d, h.2.out.trans (d.mono h.2.out.size)⟩
theorem k_out {w1 W : World} {X : Nat} {v : Value} (h : W.cell? ⟨X, 3, none⟩ = some v ∧ Hid (Below w1.heap.size w1 W)) : Below w1.heap.size w1 W := h.2.out
def triL (a b c : List ByteArray) : Nat → List ByteArray
  | 0 => a | 1 => b | _ => c
/-- The second group: what the reference numbered and renamed (o, d), what the program did (n, r). -/
structure Qs (B : Nat) (o n d r : Value) (lo ld : List ByteArray) (w : World) : Prop where
  fo : OwnS w B o lo
  fn : OwnS w B n lo
  fd : OwnS w B d ld
  fr : OwnS w B r ld
  no : ∀ b, n.ownBlock = some b → o.ownBlock ≠ some b
  nd : ∀ b, n.ownBlock = some b → d.ownBlock ≠ some b
  nr : ∀ b, n.ownBlock = some b → r.ownBlock ≠ some b
  ro : ∀ b, r.ownBlock = some b → o.ownBlock ≠ some b
  rd : ∀ b, r.ownBlock = some b → d.ownBlock ≠ some b
theorem Qs.below {B : Nat} {o n d r : Value} {lo ld : List ByteArray} {w w' : World} (h : Qs B o n d r lo ld w) (e : Below w.heap.size w w') : Qs B o n d r lo ld w' :=
  ⟨h.fo.below e, h.fn.below e, h.fd.below e, h.fr.below e, h.no, h.nd, h.nr, h.ro, h.rd⟩
theorem sep_of {w w' : World} {B : Nat} {v u : Value} {l m : List ByteArray} (h : OwnS w B v l) (k : OwnS w' w.heap.size u m) : ∀ b, u.ownBlock = some b → v.ownBlock ≠ some b := fun b e1 e2 => by
  have q1 := (World.ownsRow.lt k b e1).1
  have q2 := (World.ownsRow.lt h b e2).2
  omega
theorem dr_nil {v : Value} {b : Nat} (h : DR v (.slice none 0 0) (.slice none 0 0) b) : v.ownBlock = some b := by
  rcases h with h | h | h
  · exact h
  · cases h
  · cases h

set_option maxRecDepth 100000 in
set_option maxHeartbeats 8000000 in
theorem lists_any (xa xb xc : Value) (la lb lc : List ByteArray) (head : ByteArray) (n : Int) (w : World) (hxa : StrS w xa la) (hxb : StrS w xb lb) (hxc : StrS w xc lc) (sa : Sml la) (sb : Sml lb) (sc : Sml lc)
    (na : la.length ≤ 1048576) (nb : lb.length ≤ 1048576) (nc : lc.length ≤ 1048576) (hh : head.size + 1 ≤ 1048576) (hT : BytesAt w) (hP : PowAt w) (hw0 : 1 < w.heap.size) :
    Calls Tryd.prog 6 #[.agg #[xa, xb, xc, .string head, .int .i64 n]] w fun e w' => e = .returned (.bool true) ∧ Below w.heap.size w w' := by
  obtain ⟨X, hX⟩ : ∃ X, w.heap.size = X := ⟨_, rfl⟩
  obtain ⟨w1, hw1⟩ : ∃ w1, w.alloc (.cells #[xa, xb, xc, .string head, .int .i64 n] 39) = w1 := ⟨_, rfl⟩
  have d1 : Below w.heap.size w w1 := by rw [← hw1]; exact below_new _ _
  have cX : ∀ j, w1.cell? ⟨X, j, none⟩ = (#[xa, xb, xc, .string head, .int .i64 n] : Array Value)[j]? := fun j => by
    rw [← hw1, ← hX, cell_of_row _ w.heap.size j _ 39 (0, 0) (heap_alloc_new w _)]
  have HZ : Hid (Tz X xa xb xc xa xb xc la lb lc head n w1) :=
    ⟨hxa.below d1, hxb.below d1, hxc.below d1, hxa.below d1, hxb.below d1, hxc.below d1, hT.below d1 (by omega), hP.below d1 hw0, Nat.lt_of_lt_of_le hw0 d1.size, cX 0, cX 1, cX 2, cX 3, cX 4⟩
  have HS : Hid (Sml la ∧ Sml lb ∧ Sml lc ∧ la.length ≤ 1048576 ∧ lb.length ≤ 1048576 ∧ lc.length ≤ 1048576 ∧ head.size + 1 ≤ 1048576) := ⟨sa, sb, sc, na, nb, nc, hh⟩
  have HD := hide (And.intro d1 hw0)
  clear hxa hxb hxc sa sb sc na nb nc hh hT hP hw0 d1 cX
  have y3 := HZ.out.c3
  go_enter Tryd.func6, Tryd.ntmps6
  go_wp2_with fail
  go_region_held3 (fun W => W.cell? ⟨X, 3, none⟩ = some (.string head) ∧ Hid (Below w1.heap.size w1 W))
    (first | exact k_keep (below_drew _) ⟨y3, hide (Below.refl _ _)⟩ | exact k_keep (by assumption) (by assumption) | assumption | go_keep)
    ((first
      | (go_at_call 11; refine (valid_any head _ ?_ ?_).mono ?_; exact (HZ.out.below (k_out (X := X) (v := .string head) (by assumption))).bt; exact Nat.lt_trans Nat.zero_lt_one (HZ.out.below (k_out (X := X) (v := .string head) (by assumption))).sz; rintro e wA ⟨rfl, dA⟩)
      | (go_at_call 25; refine (rvalid_any head _).mono ?_; rintro e wB ⟨rfl, hB⟩; obtain rfl := hB.symm)))
  have D2 : Hid (Below w1.heap.size w1 wA) := (below_drew _).trans dA
  clear dA hB y3
  obtain ⟨y0, y1, y2, y3, y4⟩ := And.intro (HZ.out.below D2.out).c0 (And.intro (HZ.out.below D2.out).c1 (And.intro (HZ.out.below D2.out).c2 (And.intro (HZ.out.below D2.out).c3 (HZ.out.below D2.out).c4)))
  go_wp2_with fail
  clear y0 y1 y2 y3 y4
  refine (lent_any _ la _ (HZ.out.below D2.out).ya (by have := HS.out; omega)).mono ?_
  rintro e w3 ⟨ga, ca, rfl, hca, oa, d3⟩
  have L3 : Hid (Lent w3 w1.heap.size ga ca la) := lent_more ⟨oa, hca⟩ D2.out.size
  have D3 := hide (D2.out.trans (d3.mono D2.out.size))
  clear oa hca d3 D2
  obtain ⟨y0, y1, y2, y3, y4⟩ := And.intro (HZ.out.below D3.out).c0 (And.intro (HZ.out.below D3.out).c1 (And.intro (HZ.out.below D3.out).c2 (And.intro (HZ.out.below D3.out).c3 (HZ.out.below D3.out).c4)))
  go_wp2_with fail
  clear y0 y1 y2 y3 y4
  refine (lent_any _ lb _ (HZ.out.below D3.out).yb (by have := HS.out; omega)).mono ?_
  rintro e w4 ⟨gb, cb, rfl, hcb, ob, d4⟩
  have L4 : Hid (Lent w4 w1.heap.size ga ca la ∧ Lent w4 w1.heap.size gb cb lb ∧ ga ≠ gb) := ⟨L3.out.below d4, lent_more ⟨ob, hcb⟩ D3.out.size, by have q1 := (L3.out.own.lt ga rfl).2; have q2 := (ob.lt gb rfl).1; omega⟩
  have D4 := hide (D3.out.trans (d4.mono D3.out.size))
  clear ob hcb d4 D3 L3
  obtain ⟨y0, y1, y2, y3, y4⟩ := And.intro (HZ.out.below D4.out).c0 (And.intro (HZ.out.below D4.out).c1 (And.intro (HZ.out.below D4.out).c2 (And.intro (HZ.out.below D4.out).c3 (HZ.out.below D4.out).c4)))
  go_wp2_with fail
  clear y0 y1 y2 y3 y4
  refine (lent_any _ lc _ (HZ.out.below D4.out).yc (by have := HS.out; omega)).mono ?_
  rintro e w5 ⟨gc, cc, rfl, hcc, oc, d5⟩
  have HL : Hid ((Lent w5 w1.heap.size ga ca la ∧ Lent w5 w1.heap.size gb cb lb ∧ Lent w5 w1.heap.size gc cc lc) ∧ ga ≠ gb ∧ ga ≠ gc ∧ gb ≠ gc) :=
    ⟨⟨L4.out.1.below d5, L4.out.2.1.below d5, lent_more ⟨oc, hcc⟩ D4.out.size⟩, L4.out.2.2, by have q1 := (L4.out.1.own.lt ga rfl).2; have q2 := (oc.lt gc rfl).1; omega, by have q1 := (L4.out.2.1.own.lt gb rfl).2; have q2 := (oc.lt gc rfl).1; omega⟩
  have D5 := hide (D4.out.trans (d5.mono D4.out.size))
  have HE : Hid (Below w.heap.size w w5 ∧ w.heap.size ≤ w1.heap.size ∧ 1 < w.heap.size) := ⟨HD.out.1.trans (D5.out.mono HD.out.1.size), HD.out.1.size, HD.out.2⟩
  replace HZ : Hid (Tz X (.slice (some ⟨ga, 0, none⟩) la.length ca) (.slice (some ⟨gb, 0, none⟩) lb.length cb) (.slice (some ⟨gc, 0, none⟩) lc.length cc) xa xb xc la lb lc head n w5) := by
    have z := HZ.out.below D5.out
    exact ⟨HL.out.1.1.str, HL.out.1.2.1.str, HL.out.1.2.2.str, z.ya, z.yb, z.yc, z.bt, z.pw, z.sz, z.c0, z.c1, z.c2, z.c3, z.c4⟩
  clear oc hcc d5 D4 L4 D5 HD hw1
  have D6 : Hid (Below w5.heap.size w5 w5) := Below.refl _ _
  have HML := hide (mlens la lb)
  have HNL := hide (nulen head n)
  have HRL := hide (rnlen la lb lc)
  obtain ⟨y0, y1, y2, y3, y4⟩ := And.intro (HZ.out.below D6.out).c0 (And.intro (HZ.out.below D6.out).c1 (And.intro (HZ.out.below D6.out).c2 (And.intro (HZ.out.below D6.out).c3 (HZ.out.below D6.out).c4)))
  go_wp2_with fail
  clear y0 y1 y2 y3 y4
  refine (rmerge_u _ _ la lb _ HZ.out.ya HZ.out.yb (by have := HS.out; omega) (by have := HS.out; omega)).mono ?_
  rintro e w6 ⟨⟨um, uu, uv, rfl, mo⟩, d6⟩
  have M6 : Hid (StrS w6 um (mL la lb) ∧ IntS w6 uu (mP la lb) ∧ IntS w6 uv (mQ la lb)) := ⟨mo.1.str, mo.2.1.int, mo.2.2.int⟩
  have D7 := hide (D6.out.trans (d6.mono D6.out.size))
  clear mo d6 D6
  obtain ⟨y0, y1, y2, y3, y4⟩ := And.intro (HZ.out.below D7.out).c0 (And.intro (HZ.out.below D7.out).c1 (And.intro (HZ.out.below D7.out).c2 (And.intro (HZ.out.below D7.out).c3 (HZ.out.below D7.out).c4)))
  go_wp2_with fail
  clear y0 y1 y2 y3 y4
  refine (merge_u _ _ la lb _ (HZ.out.below D7.out).a (HZ.out.below D7.out).b (by have := HS.out; omega) (by have := HS.out; omega) HS.out.1 HS.out.2.1 (HZ.out.below D7.out).bt (by have := (HZ.out.below D7.out).sz; omega)).mono ?_
  rintro e w7 ⟨⟨vl, vp, vq, rfl, mo, hpq⟩, d7⟩
  have M7 : Hid (StrS w7 um (mL la lb) ∧ IntS w7 uu (mP la lb) ∧ IntS w7 uv (mQ la lb)) := ⟨M6.out.1.below d7, M6.out.2.1.below d7, M6.out.2.2.below d7⟩
  have R7 : Hid (OwnS w7 w5.heap.size vl (mL la lb) ∧ OwnN w7 w5.heap.size vp (mP la lb) ∧ OwnN w7 w5.heap.size vq (mQ la lb)) := ⟨own_more mo.1 D7.out.size, own_more mo.2.1 D7.out.size, own_more mo.2.2 D7.out.size⟩
  have HPQ := hide hpq
  have D8 := hide (D7.out.trans (d7.mono D7.out.size))
  clear mo d7 D7 M6 hpq
  obtain ⟨y0, y1, y2, y3, y4⟩ := And.intro (HZ.out.below D8.out).c0 (And.intro (HZ.out.below D8.out).c1 (And.intro (HZ.out.below D8.out).c2 (And.intro (HZ.out.below D8.out).c3 (HZ.out.below D8.out).c4)))
  go_wp2_with fail
  clear y0 y1 y2 y3 y4
  refine (same_any _ _ _ _ R7.out.1.str M7.out.1 (by have := HS.out; have := HML.out; omega)).mono ?_
  rintro e w8 ⟨rfl, d8⟩
  have M8 : Hid (IntS w8 uu (mP la lb) ∧ IntS w8 uv (mQ la lb)) := ⟨M7.out.2.1.below d8, M7.out.2.2.below d8⟩
  have R8 : Hid (OwnS w8 w5.heap.size vl (mL la lb) ∧ OwnN w8 w5.heap.size vp (mP la lb) ∧ OwnN w8 w5.heap.size vq (mQ la lb)) := ⟨R7.out.1.below d8, row_below R7.out.2.1 d8, row_below R7.out.2.2 d8⟩
  have D9 := hide (D8.out.trans (d8.mono D8.out.size))
  clear d8 M7 R7 D8
  go_wp2_with fail
  refine (sameInts_any _ _ _ _ R8.out.2.1.int M8.out.1 (by have := HS.out; have := HML.out; omega)).mono ?_
  rintro e w9 ⟨rfl, d9⟩
  have M9 : Hid (IntS w9 uv (mQ la lb)) := M8.out.2.below d9
  have R9 : Hid (OwnS w9 w5.heap.size vl (mL la lb) ∧ OwnN w9 w5.heap.size vp (mP la lb) ∧ OwnN w9 w5.heap.size vq (mQ la lb)) := ⟨R8.out.1.below d9, row_below R8.out.2.1 d9, row_below R8.out.2.2 d9⟩
  have D10 := hide (D9.out.trans (d9.mono D9.out.size))
  clear d9 M8 R8 D9
  go_wp2_with fail
  refine (sameInts_any _ _ _ _ R9.out.2.2.int M9.out (by have := HS.out; have := HML.out; omega)).mono ?_
  rintro e w10 ⟨rfl, d10⟩
  have R10 : Hid (OwnS w10 w5.heap.size vl (mL la lb) ∧ OwnN w10 w5.heap.size vp (mP la lb) ∧ OwnN w10 w5.heap.size vq (mQ la lb)) := ⟨R9.out.1.below d10, row_below R9.out.2.1 d10, row_below R9.out.2.2 d10⟩
  have D11 := hide (D10.out.trans (d10.mono D10.out.size))
  clear d10 M9 R9 D10
  go_wp2_with fail
  refine (defaced_any vl vp vq (mL la lb) _ _ _ _ w10 (row_zero R10.out.1) (row_zero R10.out.2.1) (row_zero R10.out.2.2) HPQ.out (by have := HS.out; have := HML.out; omega) (by have := HS.out; have := HML.out; omega) (by have := HS.out; have := HML.out; omega)).mono ?_
  rintro e w11 ⟨rfl, O⟩
  have hR : ∀ k, DR vl vp vq k → w5.heap.size ≤ k := by
    rintro k (h | h | h)
    · exact (World.ownsRow.lt R10.out.1 k h).1
    · exact (World.ownsRow.lt R10.out.2.1 k h).1
    · exact (World.ownsRow.lt R10.out.2.2 k h).1
  have D12 := hide (D11.out.trans (O.toBelow D11.out.size hR))
  clear O hR R10 HPQ D11 HML
  obtain ⟨y0, y1, y2, y3, y4⟩ := And.intro (HZ.out.below D12.out).c0 (And.intro (HZ.out.below D12.out).c1 (And.intro (HZ.out.below D12.out).c2 (And.intro (HZ.out.below D12.out).c3 (HZ.out.below D12.out).c4)))
  go_wp2_with fail
  clear y0 y1 y2 y3 y4
  refine (rnum_u head n _ (by have := HS.out; omega) (HZ.out.below D12.out).pw (HZ.out.below D12.out).sz).mono ?_
  rintro e w12 ⟨⟨vo, rfl, mo⟩, d12⟩
  have O12 := hide (own_more (B := w5.heap.size) mo D12.out.size)
  have D13 := hide (D12.out.trans (d12.mono D12.out.size))
  clear mo d12 D12
  obtain ⟨y0, y1, y2, y3, y4⟩ := And.intro (HZ.out.below D13.out).c0 (And.intro (HZ.out.below D13.out).c1 (And.intro (HZ.out.below D13.out).c2 (And.intro (HZ.out.below D13.out).c3 (HZ.out.below D13.out).c4)))
  go_wp2_with fail
  clear y0 y1 y2 y3 y4
  refine (num_u head n _ (by have := HS.out; omega) (HZ.out.below D13.out).bt (HZ.out.below D13.out).pw (HZ.out.below D13.out).sz).mono ?_
  rintro e w13 ⟨⟨vn, rfl, mo⟩, d13⟩
  have N13 : Hid (OwnS w13 w5.heap.size vo (nuL head n) ∧ OwnS w13 w5.heap.size vn (nuL head n) ∧ ∀ b, vn.ownBlock = some b → vo.ownBlock ≠ some b) := ⟨OwnS.below O12.out d13, own_more mo D13.out.size, sep_of O12.out mo⟩
  have D14 := hide (D13.out.trans (d13.mono D13.out.size))
  clear mo d13 D13 O12
  obtain ⟨fi, hfi⟩ := fresh_ex la head
  have HFI := hide hfi
  clear hfi
  obtain ⟨y0, y1, y2, y3, y4⟩ := And.intro (HZ.out.below D14.out).c0 (And.intro (HZ.out.below D14.out).c1 (And.intro (HZ.out.below D14.out).c2 (And.intro (HZ.out.below D14.out).c3 (HZ.out.below D14.out).c4)))
  go_wp2_with fail
  clear y0 y1 y2 y3 y4
  refine (rfresh_any _ la head fi _ (HZ.out.below D14.out).ya HS.out.1 (by have := HS.out; omega) HFI (HZ.out.below D14.out).pw (HZ.out.below D14.out).sz).mono ?_
  rintro e w14 ⟨rfl, d14⟩
  have N14 : Hid (OwnS w14 w5.heap.size vo (nuL head n) ∧ OwnS w14 w5.heap.size vn (nuL head n) ∧ ∀ b, vn.ownBlock = some b → vo.ownBlock ≠ some b) := ⟨OwnS.below N13.out.1 d14, OwnS.below N13.out.2.1 d14, N13.out.2.2⟩
  have D15 := hide (D14.out.trans (d14.mono D14.out.size))
  clear d14 D14 N13
  obtain ⟨y0, y1, y2, y3, y4⟩ := And.intro (HZ.out.below D15.out).c0 (And.intro (HZ.out.below D15.out).c1 (And.intro (HZ.out.below D15.out).c2 (And.intro (HZ.out.below D15.out).c3 (HZ.out.below D15.out).c4)))
  go_wp2_with fail
  clear y0 y1 y2 y3 y4
  refine (fresh_any _ la head fi _ (HZ.out.below D15.out).a HS.out.1 (by have := HS.out; omega) HFI (HZ.out.below D15.out).bt (HZ.out.below D15.out).pw (HZ.out.below D15.out).sz).mono ?_
  rintro e w15 ⟨rfl, d15⟩
  have N15 : Hid (OwnS w15 w5.heap.size vo (nuL head n) ∧ OwnS w15 w5.heap.size vn (nuL head n) ∧ ∀ b, vn.ownBlock = some b → vo.ownBlock ≠ some b) := ⟨OwnS.below N14.out.1 d15, OwnS.below N14.out.2.1 d15, N14.out.2.2⟩
  have D16 := hide (D15.out.trans (d15.mono D15.out.size))
  clear d15 D15 N14 HFI
  generalize frT (numN head fi) = ft
  generalize frC (numN head fi) = fc
  obtain ⟨y0, y1, y2, y3, y4⟩ := And.intro (HZ.out.below D16.out).c0 (And.intro (HZ.out.below D16.out).c1 (And.intro (HZ.out.below D16.out).c2 (And.intro (HZ.out.below D16.out).c3 (HZ.out.below D16.out).c4)))
  go_wp2_with fail
  clear y0 y1 y2 y3 y4
  refine (rrename_u _ _ _ la lb lc _ (HZ.out.below D16.out).ya (HZ.out.below D16.out).yb (HZ.out.below D16.out).yc (by have := HS.out; omega) (by have := HS.out; omega)).mono ?_
  rintro e w16 ⟨⟨vd, rfl, mo⟩, d16⟩
  have N16 : Hid ((OwnS w16 w5.heap.size vo (nuL head n) ∧ OwnS w16 w5.heap.size vn (nuL head n) ∧ OwnS w16 w5.heap.size vd (rnL la lb lc)) ∧ (∀ b, vn.ownBlock = some b → vo.ownBlock ≠ some b) ∧ ∀ b, vn.ownBlock = some b → vd.ownBlock ≠ some b) :=
    ⟨⟨OwnS.below N15.out.1 d16, OwnS.below N15.out.2.1 d16, own_more mo D16.out.size⟩, N15.out.2.2, fun b e1 e2 => sep_of N15.out.2.1 mo b e2 e1⟩
  have D17 := hide (D16.out.trans (d16.mono D16.out.size))
  clear mo d16 D16 N15
  obtain ⟨y0, y1, y2, y3, y4⟩ := And.intro (HZ.out.below D17.out).c0 (And.intro (HZ.out.below D17.out).c1 (And.intro (HZ.out.below D17.out).c2 (And.intro (HZ.out.below D17.out).c3 (HZ.out.below D17.out).c4)))
  go_wp2_with fail
  clear y0 y1 y2 y3 y4
  refine (rename_u _ _ _ la lb lc _ (HZ.out.below D17.out).a (HZ.out.below D17.out).b (HZ.out.below D17.out).c HS.out.1 HS.out.2.1 HS.out.2.2.1 (HZ.out.below D17.out).bt (by have := (HZ.out.below D17.out).sz; omega)).mono ?_
  rintro e w17 ⟨⟨vr, rfl, mo⟩, d17⟩
  have Q17 : Hid (Qs w5.heap.size vo vn vd vr (nuL head n) (rnL la lb lc) w17) :=
    ⟨OwnS.below N16.out.1.1 d17, OwnS.below N16.out.1.2.1 d17, OwnS.below N16.out.1.2.2 d17, own_more mo D17.out.size, N16.out.2.1, N16.out.2.2, fun b e1 e2 => sep_of N16.out.1.2.1 mo b e2 e1, sep_of N16.out.1.1 mo, sep_of N16.out.1.2.2 mo⟩
  have D18 := hide (D17.out.trans (d17.mono D17.out.size))
  clear mo d17 D17 N16
  go_wp2_with fail
  refine (same_any _ _ _ _ Q17.out.fn.str Q17.out.fo.str (by have := HNL.out; omega)).mono ?_
  rintro e w18 ⟨rfl, d18⟩
  have Q18 := hide (Q17.out.below d18)
  have D19 := hide (D18.out.trans (d18.mono D18.out.size))
  clear d18 D18 Q17
  go_wp2_with fail
  refine (same_any _ _ _ _ Q18.out.fr.str Q18.out.fd.str (by have := HS.out; have := HRL.out; omega)).mono ?_
  rintro e w19 ⟨rfl, d19⟩
  have Q19 := hide (Q18.out.below d19)
  have D20 := hide (D19.out.trans (d19.mono D19.out.size))
  clear d19 D19 Q18
  go_wp2_with fail
  refine (defaced_any vn (.slice none 0 0) (.slice none 0 0) _ 0 0 [] [] w19 (row_zero Q19.out.fn) (World.ownsRow_nil _ _ _ _) (World.ownsRow_nil _ _ _ _) (fun b hb => by cases hb) (by have := HNL.out; omega) (by omega) (by omega)).mono ?_
  rintro e w20 ⟨rfl, O⟩
  have Q20 : Hid ((OwnS w20 w5.heap.size vo (nuL head n) ∧ OwnS w20 w5.heap.size vd (rnL la lb lc) ∧ OwnS w20 w5.heap.size vr (rnL la lb lc)) ∧ (∀ b, vr.ownBlock = some b → vo.ownBlock ≠ some b) ∧ ∀ b, vr.ownBlock = some b → vd.ownBlock ≠ some b) :=
    ⟨⟨row_only Q19.out.fo O (fun b e1 e2 => Q19.out.no b (dr_nil e2) e1), row_only Q19.out.fd O (fun b e1 e2 => Q19.out.nd b (dr_nil e2) e1), row_only Q19.out.fr O (fun b e1 e2 => Q19.out.nr b (dr_nil e2) e1)⟩, Q19.out.ro, Q19.out.rd⟩
  have D21 := hide (D20.out.trans (O.toBelow D20.out.size (fun b e2 => (World.ownsRow.lt Q19.out.fn b (dr_nil e2)).1)))
  clear O Q19 D20
  go_wp2_with fail
  refine (defaced_any vr (.slice none 0 0) (.slice none 0 0) _ 0 0 [] [] w20 (row_zero Q20.out.1.2.2) (World.ownsRow_nil _ _ _ _) (World.ownsRow_nil _ _ _ _) (fun b hb => by cases hb) (by have := HS.out; have := HRL.out; omega) (by omega) (by omega)).mono ?_
  rintro e w21 ⟨rfl, O⟩
  have Q21 : Hid (OwnS w21 w5.heap.size vo (nuL head n) ∧ OwnS w21 w5.heap.size vd (rnL la lb lc)) :=
    ⟨row_only Q20.out.1.1 O (fun b e1 e2 => Q20.out.2.1 b (dr_nil e2) e1), row_only Q20.out.1.2.1 O (fun b e1 e2 => Q20.out.2.2 b (dr_nil e2) e1)⟩
  have D22 := hide (D21.out.trans (O.toBelow D21.out.size (fun b e2 => (World.ownsRow.lt Q20.out.1.2.2 b (dr_nil e2)).1)))
  clear O Q20 D21
  obtain ⟨y0, y1, y2, y3, y4⟩ := And.intro (HZ.out.below D22.out).c0 (And.intro (HZ.out.below D22.out).c1 (And.intro (HZ.out.below D22.out).c2 (And.intro (HZ.out.below D22.out).c3 (HZ.out.below D22.out).c4)))
  go_wp2_with fail
  clear y0 y1 y2 y3 y4
  refine (thrice_any _ _ _ _ _ _ la lb lc head n w21 (HZ.out.below D22.out).a (HZ.out.below D22.out).b (HZ.out.below D22.out).c (HZ.out.below D22.out).ya (HZ.out.below D22.out).yb (HZ.out.below D22.out).yc HS.out.1 HS.out.2.1 HS.out.2.2.1 HS.out.2.2.2.1 HS.out.2.2.2.2.1 HS.out.2.2.2.2.2.1 HS.out.2.2.2.2.2.2 (HZ.out.below D22.out).bt (HZ.out.below D22.out).pw (HZ.out.below D22.out).sz).mono ?_
  rintro e w22 ⟨rfl, d22⟩
  have Q22 : Hid (StrS w22 vo (nuL head n) ∧ StrS w22 vd (rnL la lb lc)) := ⟨(OwnS.below Q21.out.1 d22).str, (OwnS.below Q21.out.2 d22).str⟩
  have D23 := hide (D22.out.trans (d22.mono D22.out.size))
  clear d22 D22 Q21
  obtain ⟨y0, y1, y2, y3, y4⟩ := And.intro (HZ.out.below D23.out).c0 (And.intro (HZ.out.below D23.out).c1 (And.intro (HZ.out.below D23.out).c2 (And.intro (HZ.out.below D23.out).c3 (HZ.out.below D23.out).c4)))
  go_wp2_with fail
  clear y0 y1 y2 y3 y4
  refine (rename_u _ _ _ la lb lc _ (HZ.out.below D23.out).a (HZ.out.below D23.out).b (HZ.out.below D23.out).c HS.out.1 HS.out.2.1 HS.out.2.2.1 (HZ.out.below D23.out).bt (by have := (HZ.out.below D23.out).sz; omega)).mono ?_
  rintro e w23 ⟨⟨vr2, rfl, mo⟩, d23⟩
  have Q23 : Hid (StrS w23 vo (nuL head n) ∧ StrS w23 vd (rnL la lb lc) ∧ StrS w23 vr2 (rnL la lb lc)) := ⟨Q22.out.1.below d23, Q22.out.2.below d23, mo.str⟩
  have D24 := hide (D23.out.trans (d23.mono D23.out.size))
  clear mo d23 D23 Q22
  obtain ⟨y0, y1, y2, y3, y4⟩ := And.intro (HZ.out.below D24.out).c0 (And.intro (HZ.out.below D24.out).c1 (And.intro (HZ.out.below D24.out).c2 (And.intro (HZ.out.below D24.out).c3 (HZ.out.below D24.out).c4)))
  go_wp2_with fail
  clear y0 y1 y2 y3 y4
  refine (num_u head n _ (by have := HS.out; omega) (HZ.out.below D24.out).bt (HZ.out.below D24.out).pw (HZ.out.below D24.out).sz).mono ?_
  rintro e w24 ⟨⟨vn2, rfl, mo⟩, d24⟩
  have Q24 : Hid (StrS w24 vo (nuL head n) ∧ StrS w24 vd (rnL la lb lc) ∧ StrS w24 vr2 (rnL la lb lc) ∧ StrS w24 vn2 (nuL head n)) := ⟨Q23.out.1.below d24, Q23.out.2.1.below d24, Q23.out.2.2.below d24, mo.str⟩
  have D25 := hide (D24.out.trans (d24.mono D24.out.size))
  clear mo d24 D24 Q23
  go_wp2_with fail
  refine (same_any _ _ _ _ Q24.out.2.2.1 Q24.out.2.1 (by have := HS.out; have := HRL.out; omega)).mono ?_
  rintro e w25 ⟨rfl, d25⟩
  have Q25 : Hid (StrS w25 vo (nuL head n) ∧ StrS w25 vn2 (nuL head n)) := ⟨Q24.out.1.below d25, Q24.out.2.2.2.below d25⟩
  have D26 := hide (D25.out.trans (d25.mono D25.out.size))
  clear d25 D25 Q24
  go_wp2_with fail
  refine (same_any _ _ _ _ Q25.out.2 Q25.out.1 (by have := HNL.out; omega)).mono ?_
  rintro e w26 ⟨rfl, d26⟩
  have D27 := hide (D26.out.trans (d26.mono D26.out.size))
  clear d26 D26 Q25
  obtain ⟨y0, y1, y2, y3, y4⟩ := And.intro (HZ.out.below D27.out).c0 (And.intro (HZ.out.below D27.out).c1 (And.intro (HZ.out.below D27.out).c2 (And.intro (HZ.out.below D27.out).c3 (HZ.out.below D27.out).c4)))
  go_wp2_with fail
  clear y0 y1 y2 y3 y4
  refine (left_yes w1.heap.size ga ca la _ _ (hide (HL.out.1.1.below D27.out)) (HZ.out.below D27.out).ya (by have := HS.out; omega)).mono ?_
  rintro e w27 ⟨rfl, d27⟩
  have D28 := hide (D27.out.trans (d27.mono D27.out.size))
  clear d27 D27
  obtain ⟨y0, y1, y2, y3, y4⟩ := And.intro (HZ.out.below D28.out).c0 (And.intro (HZ.out.below D28.out).c1 (And.intro (HZ.out.below D28.out).c2 (And.intro (HZ.out.below D28.out).c3 (HZ.out.below D28.out).c4)))
  go_wp2_with fail
  clear y0 y1 y2 y3 y4
  refine (left_yes w1.heap.size gb cb lb _ _ (hide (HL.out.1.2.1.below D28.out)) (HZ.out.below D28.out).yb (by have := HS.out; omega)).mono ?_
  rintro e w28 ⟨rfl, d28⟩
  have D29 := hide (D28.out.trans (d28.mono D28.out.size))
  clear d28 D28
  obtain ⟨y0, y1, y2, y3, y4⟩ := And.intro (HZ.out.below D29.out).c0 (And.intro (HZ.out.below D29.out).c1 (And.intro (HZ.out.below D29.out).c2 (And.intro (HZ.out.below D29.out).c3 (HZ.out.below D29.out).c4)))
  go_wp2_with fail
  clear y0 y1 y2 y3 y4
  refine (left_yes w1.heap.size gc cc lc _ _ (hide (HL.out.1.2.2.below D29.out)) (HZ.out.below D29.out).yc (by have := HS.out; omega)).mono ?_
  rintro e w29 ⟨rfl, d29⟩
  have D30 := hide (D29.out.trans (d29.mono D29.out.size))
  clear d29 D29
  obtain ⟨y0, y1, y2, y3, y4⟩ := And.intro (HZ.out.below D30.out).c0 (And.intro (HZ.out.below D30.out).c1 (And.intro (HZ.out.below D30.out).c2 (And.intro (HZ.out.below D30.out).c3 (HZ.out.below D30.out).c4)))
  go_wp2_with fail
  clear y0 y1 y2 y3 y4
  have HTr : Hid (Tr w29 w1.heap.size (tri ga gb gc) (tri ca cb cc) (tri la.length lb.length lc.length) (triL la lb lc) w29) := by
    have l1 := HL.out.1.1.below D30.out
    have l2 := HL.out.1.2.1.below D30.out
    have l3 := HL.out.1.2.2.below D30.out
    refine ⟨fun i hi => ?_, fun i hi => ?_, fun i hi => ?_, fun i j hi hj hne => ?_, Only.ofBelow (Below.refl _ _)⟩
    · match i, hi with
      | 0, _ => rfl
      | 1, _ => rfl
      | 2, _ => rfl
    · match i, hi with
      | 0, _ => exact HS.out.1
      | 1, _ => exact HS.out.2.1
      | 2, _ => exact HS.out.2.2.1
    · match i, hi with
      | 0, _ => exact l1
      | 1, _ => exact l2
      | 2, _ => exact l3
    · match i, hi, j, hj with
      | 0, _, 0, _ => exact absurd rfl hne
      | 0, _, 1, _ => exact HL.out.2.1
      | 0, _, 2, _ => exact HL.out.2.2.1
      | 1, _, 0, _ => exact fun e => HL.out.2.1 e.symm
      | 1, _, 1, _ => exact absurd rfl hne
      | 1, _, 2, _ => exact HL.out.2.2.2
      | 2, _, 0, _ => exact fun e => HL.out.2.2.1 e.symm
      | 2, _, 1, _ => exact fun e => HL.out.2.2.2 e.symm
      | 2, _, 2, _ => exact absurd rfl hne
  have hge : ∀ i, i < 3 → w1.heap.size ≤ tri ga gb gc i := fun i hi => ((HTr.out.lent i hi).own.lt _ rfl).1
  refine (turned_any w1.heap.size (tri ga gb gc) (tri ca cb cc) (tri la.length lb.length lc.length) (triL la lb lc) head w29 HTr (fun i hi => by
    match i, hi with
    | 0, _ => exact HS.out.2.2.2.1
    | 1, _ => exact HS.out.2.2.2.2.1
    | 2, _ => exact HS.out.2.2.2.2.2.1) HS.out.2.2.2.2.2.2 (HZ.out.below D30.out).bt (HZ.out.below D30.out).pw (HZ.out.below D30.out).sz (fun i hi => by have := hge i hi; have := HE.out; omega)).mono ?_
  rintro e w30 ⟨rfl, O⟩
  have hbt : Hid (BytesAt w30 ∧ 0 < w30.heap.size) := by
    have z := HZ.out.below D30.out
    have zs := z.sz
    refine ⟨bytes_only z.bt O (by omega) ?_, by have := O.size; omega⟩
    rintro ⟨i, hi, e⟩
    have := hge i hi
    have := HE.out
    omega
  have D31 : Hid (Below w.heap.size w w30) := by
    have e1 := HE.out.1.trans (D30.out.mono HE.out.1.size)
    refine e1.trans (O.toBelow e1.size ?_)
    rintro k ⟨i, hi, rfl⟩
    have := hge i hi
    have := HE.out
    omega
  clear O hge HTr D30
  go_wp2_with fail
  refine (lives_any w30 hbt.out.1 hbt.out.2).mono ?_
  rintro e w31 ⟨rfl, d31⟩
  have D32 := hide (D31.out.trans (d31.mono D31.out.size))
  clear d31 D31 hbt
  go_wp2
  go_ret
  exact ⟨rfl, D32.out⟩
end Go.Proofs.YtnfdifkcchciaaaDoor
