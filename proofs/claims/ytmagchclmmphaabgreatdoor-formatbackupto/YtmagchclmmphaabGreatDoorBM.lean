import Derived.Test.YtmagchclmmphaabGreatDoorFL
import Derived.Test.YtmagchclmmphaabGreatDoorEN
import Derived.Test.YtmagchclmmphaabGreatDoorFr
namespace Go.Proofs.YtmagchclmmphaabGreatDoor
open Go.RowKit Go.Maps

/-! ### An automaton's content gives the automaton back -/
theorem vld_ne {x : ByteArray} (h : vld x = true) : x ≠ ⟨#[]⟩ := by
  rintro rfl
  have : vld ⟨#[]⟩ = false := vld_len _ (by simp [ByteArray.size])
  rw [this] at h
  cases h
/-- What is known of an automaton and names that From takes. -/
structure FrK (ti : ByteArray) (n m : Int) (St Fi : List Int) (Ed : List EdT) (S Y : List ByteArray) : Prop where
  may : mayF n m St Fi Ed = true
  hn : (S.length : Int) = n
  hm : (Y.length : Int) = m
  ti : vld ti = true
  s : S.all vld = true
  y : Y.all vld = true
  ns : S.Nodup
  ny : Y.Nodup
theorem FrK.le {ti : ByteArray} {n m : Int} {St Fi : List Int} {Ed : List EdT} {S Y : List ByteArray} (h : FrK ti n m St Fi Ed S Y) : S.length ≤ 4096 ∧ Y.length ≤ 128 ∧ Ed.length ≤ 65536 := by
  have := h.may
  unfold mayF at this
  simp only [Bool.and_eq_true, decide_eq_true_eq] at this
  have := h.hn
  have := h.hm
  omega
theorem FrK.st {ti : ByteArray} {n m : Int} {St Fi : List Int} {Ed : List EdT} {S Y : List ByteArray} (h : FrK ti n m St Fi Ed S Y) {q : Int} (hq : q ∈ St) : 0 ≤ q ∧ q < (S.length : Int) := by
  have := h.may
  unfold mayF at this
  simp only [Bool.and_eq_true] at this
  have k := isB_iff.1 (List.all_eq_true.1 this.1.2 q hq)
  rw [h.hn]; exact k
theorem FrK.fi {ti : ByteArray} {n m : Int} {St Fi : List Int} {Ed : List EdT} {S Y : List ByteArray} (h : FrK ti n m St Fi Ed S Y) {q : Int} (hq : q ∈ Fi) : 0 ≤ q ∧ q < (S.length : Int) := by
  have := h.may
  unfold mayF at this
  simp only [Bool.and_eq_true] at this
  have k := isB_iff.1 (List.all_eq_true.1 this.2 q hq)
  rw [h.hn]; exact k
theorem FrK.ed {ti : ByteArray} {n m : Int} {St Fi : List Int} {Ed : List EdT} {S Y : List ByteArray} (h : FrK ti n m St Fi Ed S Y) {e : EdT} (he : e ∈ Ed) : (0 ≤ e.1 ∧ e.1 < (S.length : Int)) ∧ (0 ≤ e.2.1 ∧ e.2.1 < (Y.length : Int)) ∧ (0 ≤ e.2.2 ∧ e.2.2 < (S.length : Int)) := by
  have := h.may
  unfold mayF at this
  simp only [Bool.and_eq_true] at this
  have k := List.all_eq_true.1 this.1.1.2 e he
  unfold edOk at k
  simp only [Bool.and_eq_true, isB_iff] at k
  rw [h.hn, h.hm]; exact ⟨k.1.1, k.1.2, k.2⟩
theorem txA_get {S : List ByteArray} {q : Int} (h : 0 ≤ q ∧ q < (S.length : Int)) : ∃ hi : q.toNat < S.length, txA S q = S[q.toNat] := ⟨by omega, by unfold txA; rw [List.getElem?_eq_getElem (by omega)]; rfl⟩
theorem txA_mem {S : List ByteArray} {q : Int} (h : 0 ≤ q ∧ q < (S.length : Int)) : txA S q ∈ S := by obtain ⟨hi, e⟩ := txA_get h; rw [e]; exact List.getElem_mem hi
theorem txA_pos {S : List ByteArray} (hn : S.Nodup) {q : Int} (h : 0 ≤ q ∧ q < (S.length : Int)) : ((posOf S (txA S q) : Nat) : Int) = q := by
  obtain ⟨hi, e⟩ := txA_get h
  rw [e, posOf_at hn hi]
  omega
theorem txA_inj {S : List ByteArray} (hn : S.Nodup) {p q : Int} (hp : 0 ≤ p ∧ p < (S.length : Int)) (hq : 0 ≤ q ∧ q < (S.length : Int)) (h : txA S p = txA S q) : p = q := by
  rw [← txA_pos hn hp, h, txA_pos hn hq]
theorem txA_vld {S : List ByteArray} (hs : S.all vld = true) {q : Int} (h : 0 ≤ q ∧ q < (S.length : Int)) : vld (txA S q) = true := List.all_eq_true.1 hs _ (txA_mem h)
section
variable {ti : ByteArray} {n m : Int} {St Fi : List Int} {Ed : List EdT} {S Y : List ByteArray}
theorem FrK.st' (h : FrK ti n m St Fi Ed S Y) {q : Int} (hq : q ∈ riseL St) : 0 ≤ q ∧ q < (S.length : Int) := h.st ((riseL_iff _ _).1 hq)
theorem FrK.fi' (h : FrK ti n m St Fi Ed S Y) {q : Int} (hq : q ∈ riseL Fi) : 0 ≤ q ∧ q < (S.length : Int) := h.fi ((riseL_iff _ _).1 hq)
theorem FrK.ed' (h : FrK ti n m St Fi Ed S Y) {e : EdT} (he : e ∈ dE Ed) : (0 ≤ e.1 ∧ e.1 < (S.length : Int)) ∧ (0 ≤ e.2.1 ∧ e.2.1 < (Y.length : Int)) ∧ (0 ≤ e.2.2 ∧ e.2.2 < (S.length : Int)) := h.ed ((dE_iff _ _).1 he)
theorem FrK.isS (_ : FrK ti n m St Fi Ed S Y) (q : Int) : isSt (ruS S q) = true := by simp [isSt, ruS]
theorem FrK.isE (h : FrK ti n m St Fi Ed S Y) {e : EdT} (he : e ∈ dE Ed) : isSt (ruE S Y e) = false := by
  have := vld_ne (txA_vld h.s (h.ed' he).1)
  simp [isSt, ruE, this]
theorem FrK.fS (h : FrK ti n m St Fi Ed S Y) : (rulF S Y St Ed).filter isSt = (riseL St).map (ruS S) := by
  unfold rulF
  rw [List.filter_append, List.filter_eq_self.2 (fun r hr => by obtain ⟨q, _, rfl⟩ := List.mem_map.1 hr; exact h.isS q), List.filter_eq_nil_iff.2 (fun r hr => by obtain ⟨e, he, rfl⟩ := List.mem_map.1 hr; rw [h.isE he]; simp), List.append_nil]
theorem FrK.fE (h : FrK ti n m St Fi Ed S Y) : ((rulF S Y St Ed).filter fun r => !isSt r) = (dE Ed).map (ruE S Y) := by
  unfold rulF
  rw [List.filter_append, List.filter_eq_nil_iff.2 (fun r hr => by obtain ⟨q, _, rfl⟩ := List.mem_map.1 hr; rw [h.isS q]; simp), List.filter_eq_self.2 (fun r hr => by obtain ⟨e, he, rfl⟩ := List.mem_map.1 hr; rw [h.isE he]; rfl), List.nil_append]
theorem FrK.stF_is (h : FrK ti n m St Fi Ed S Y) : stF S (rulF S Y St Ed) = riseL St := by
  unfold stF
  rw [h.fS, List.map_map]
  conv => rhs; rw [← List.map_id (riseL St)]
  exact List.map_congr_left fun q hq => txA_pos h.ns (h.st' hq)
theorem FrK.edF_is (h : FrK ti n m St Fi Ed S Y) : edF S Y (rulF S Y St Ed) = dE Ed := by
  unfold edF
  rw [h.fE, List.map_map]
  conv => rhs; rw [← List.map_id (dE Ed)]
  refine List.map_congr_left fun e he => ?_
  obtain ⟨h1, h2, h3⟩ := h.ed' he
  exact Prod.ext (txA_pos h.ns h1) (Prod.ext (txA_pos h.ny h2) (txA_pos h.ns h3))
theorem sym_ops (Y : List ByteArray) : symF ((opsF Y).map opOI) = Y := by
  unfold symF opsF
  rw [List.map_cons, List.map_map, List.filter_cons_of_neg (by simp [opOI]), List.filter_eq_self.2 (fun x hx => by obtain ⟨y, _, rfl⟩ := List.mem_map.1 hx; simp [opOI]), List.map_map]
  conv => rhs; rw [← List.map_id Y]
  exact List.map_congr_left fun y _ => rfl
theorem FrK.fiF_is (h : FrK ti n m St Fi Ed S Y) : fiF S (namesAt (tN (riseL Fi)) S) = riseL Fi := by
  unfold fiF namesAt tN
  rw [List.map_map, List.map_map]
  conv => rhs; rw [← List.map_id (riseL Fi)]
  exact List.map_congr_left fun q hq => txA_pos h.ns (h.fi' hq)
theorem dE_nd (L : List EdT) : (dE L).Nodup := (dE_ss L).imp fun {a b} q e => by subst e; rw [ltE_ir] at q; cases q
theorem rise_nd (L : List Int) : (riseL L).Nodup := (riseL_lt L).imp fun {a b} q e => by omega
theorem inj_nd {α β : Type} {f : α → β} : ∀ {l : List α}, l.Nodup → (∀ a ∈ l, ∀ b ∈ l, f a = f b → a = b) → (l.map f).Nodup
  | [], _, _ => List.nodup_nil
  | a :: l, hn, hf => by
    rw [List.nodup_cons] at hn
    rw [List.map_cons, List.nodup_cons]
    refine ⟨fun hm => ?_, inj_nd hn.2 fun x hx y hy => hf x (by simp [hx]) y (by simp [hy])⟩
    obtain ⟨b, hb, e⟩ := List.mem_map.1 hm
    have := hf b (by simp [hb]) a (by simp) e
    subst this
    exact hn.1 hb
theorem wStart_vld : vld wStart = true := by decide +kernel
theorem opsF_ok (hY : Y.all vld = true) : ((opsF Y).map opOI).all opOk = true := by
  rw [List.all_eq_true]
  intro x hx
  unfold opsF at hx
  rw [List.map_cons, List.mem_cons, List.map_map] at hx
  rcases hx with rfl | hx
  · exact opOk_yes rfl rfl wStart_vld (by simp [opOI]) (by simp [opOI])
  · obtain ⟨y, hy, rfl⟩ := List.mem_map.1 hx
    exact opOk_yes rfl rfl (List.all_eq_true.1 hY y hy) (by simp [opOI]) (by simp [opOI])
theorem ops_back (Y : List ByteArray) : ((opsF Y).map opOI).map opN = opsF Y := by
  rw [List.map_map]
  conv => rhs; rw [← List.map_id (opsF Y)]
  exact List.map_congr_left fun x _ => by simp [opN, opOI]
theorem ops_nd (hn : Y.Nodup) : (opsF Y).Nodup := by
  unfold opsF
  rw [List.nodup_cons]
  refine ⟨fun hm => ?_, inj_nd hn fun a _ b _ e => by simpa using e⟩
  obtain ⟨y, _, e⟩ := List.mem_map.1 hm
  simp at e
theorem FrK.rul_nd (h : FrK ti n m St Fi Ed S Y) : (rulF S Y St Ed).Nodup := by
  unfold rulF
  rw [List.nodup_append]
  refine ⟨inj_nd (rise_nd St) fun a ha b hb e => ?_, inj_nd (dE_nd Ed) fun a ha b hb e => ?_, fun a ha b hb e => ?_⟩
  · simp only [ruS, Prod.mk.injEq, true_and] at e
    exact txA_inj h.ns (h.st' ha) (h.st' hb) e
  · simp only [ruE, Prod.mk.injEq] at e
    obtain ⟨a1, a2, a3⟩ := h.ed' ha
    obtain ⟨b1, b2, b3⟩ := h.ed' hb
    exact Prod.ext (txA_inj h.ns a1 b1 e.2.1) (Prod.ext (txA_inj h.ny a2 b2 e.1) (txA_inj h.ns a3 b3 e.2.2))
  · obtain ⟨q, _, rfl⟩ := List.mem_map.1 ha
    obtain ⟨x, hx, rfl⟩ := List.mem_map.1 hb
    have := h.isE hx
    rw [← e, h.isS q] at this
    cases this
theorem FrK.rul_ok (h : FrK ti n m St Fi Ed S Y) : (rulF S Y St Ed).all (ruleOk (opsF Y) S) = true := by
  rw [List.all_eq_true]
  intro r hr
  unfold rulF at hr
  rcases List.mem_append.1 hr with hr | hr
  · obtain ⟨q, hq, rfl⟩ := List.mem_map.1 hr
    have k := txA_mem (h.st' hq)
    unfold ruleOk
    simp only [Bool.and_eq_true, Bool.or_eq_true, decide_eq_true_eq, memO_iff, memS_iff]
    exact ⟨⟨by simp [opR, ruS, opsF], k⟩, .inl rfl⟩
  · obtain ⟨e, he, rfl⟩ := List.mem_map.1 hr
    obtain ⟨h1, h2, h3⟩ := h.ed' he
    have hne := vld_ne (txA_vld h.s h1)
    unfold ruleOk
    simp only [Bool.and_eq_true, Bool.or_eq_true, decide_eq_true_eq, memO_iff, memS_iff]
    refine ⟨⟨?_, txA_mem h3⟩, .inr (txA_mem h1)⟩
    unfold opsF
    refine List.mem_cons.2 (.inr (List.mem_map.2 ⟨txA Y e.2.1, txA_mem h2, ?_⟩))
    simp [opR, ruE, hne]
theorem FrK.val (h : FrK ti n m St Fi Ed S Y) : valF ti ((opsF Y).map opOI) S (namesAt (tN (riseL Fi)) S) (rulF S Y St Ed) = true := by
  unfold valF namesOk
  rw [ops_back]
  simp only [Bool.and_eq_true, decide_eq_true_eq]
  refine ⟨⟨⟨⟨⟨⟨⟨opsF_ok h.y, h.s⟩, h.ti⟩, ops_nd h.ny⟩, h.ns⟩, h.rul_nd⟩, ?_⟩, h.rul_ok⟩
  refine rise_names h.ns _ (-1) ?_ fun k hk => ?_
  · rw [tN_back fun z hz => (h.fi' hz).1]; exact riseL_lt Fi
  · obtain ⟨z, hz, rfl⟩ := List.mem_map.1 hk
    have := h.fi' hz
    omega
theorem FrK.small (h : FrK ti n m St Fi Ed S Y) : ¬ bigF ((opsF Y).map opOI) S (rulF S Y St Ed) := by
  unfold bigF
  rw [sym_ops, h.fE, List.length_map]
  have := h.le
  have := dE_len Ed
  omega
theorem FrK.auto (h : FrK ti n m St Fi Ed S Y) : auV ti ((opsF Y).map opOI) S (namesAt (tN (riseL Fi)) S) (rulF S Y St Ed) = ⟨S.length, Y.length, riseL St, riseL Fi, dE Ed, S, Y, 0⟩ := by
  unfold auV
  rw [if_neg (by rw [h.val]; simp), if_neg h.small, sym_ops, h.stF_is, h.edF_is, h.fiF_is, compact_up (riseL_lt St), ← sort_is (dE_nd Ed) (dE_ss Ed) fun y => Iff.rfl]
end
end Go.Proofs.YtmagchclmmphaabGreatDoor
namespace Go.Proofs.YtmagchclmmphaabGreatDoor
open Go.RowKit Go.Maps
attribute [local go_sem] Oper.semAt_some

/-! ### An automaton in order -/
set_option maxRecDepth 100000 in
set_option maxHeartbeats 4000000 in
theorem inorder_any (w : World) (n : Nat) (m : Int) (St Fi : List Int) (Ed : List EdT) (a1 a2 a3 : Option Addr) (c1 c2 c3 : Nat) (hA : Hid (RdN w a1 St ∧ RdN w a2 Fi ∧ RdE w a3 Ed)) (hB : Hid ((∀ z ∈ St, 0 ≤ z ∧ z < (n : Int)) ∧ ∀ z ∈ Fi, 0 ≤ z ∧ z < (n : Int))) (hn : n ≤ 4194304) (h1 : St.length ≤ 4194304) (h2 : Fi.length ≤ 4194304) (h3 : Ed.length ≤ 4194304) :
    Calls Tryz.prog 16 #[.agg #[.int .i64 (n : Nat), .int .i64 m, .slice a1 St.length c1, .slice a2 Fi.length c2, .slice a3 Ed.length c3]] w fun e w' => ∃ p1 p2 p3 q1 q2 q3, e = .returned (.agg #[.int .i64 (n : Nat), .int .i64 m, .slice p1 (riseL St).length q1, .slice p2 (riseL Fi).length q2, .slice p3 (dE Ed).length q3]) ∧ RdN w' p1 (riseL St) ∧ RdN w' p2 (riseL Fi) ∧ RdE w' p3 (dE Ed) ∧ Below w.heap.size w w' := by
  obtain ⟨W0, hW0⟩ : ∃ W0, (w.alloc (.cells #[.int .i64 (n : Nat), .int .i64 m, .slice a1 St.length c1, .slice a2 Fi.length c2, .slice a3 Ed.length c3] 25)).alloc (.cells #[.int .i64 0, .int .i64 0, .slice none 0 0, .slice none 0 0, .slice none 0 0] 25) = W0 := ⟨_, rfl⟩
  have d0 : Below w.heap.size w W0 := by rw [← hW0]; exact ((Below.refl _ _).alloc (Nat.le_refl _) _).alloc (by simp) _
  have B0 : W0.heap[w.heap.size]? = some (.cells #[.int .i64 (n : Nat), .int .i64 m, .slice a1 St.length c1, .slice a2 Fi.length c2, .slice a3 Ed.length c3] 25 (0, 0)) := by rw [← hW0]; exact (Below.heap_alloc _ _ _ (by simp)).trans (World.alloc_heap_new _ _)
  have B1 : W0.heap[w.heap.size + 1]? = some (.cells #[.int .i64 0, .int .i64 0, .slice none 0 0, .slice none 0 0, .slice none 0 0] 25 (0, 0)) := by rw [← hW0]; exact heap_alloc2_new w _ _
  have z0 : W0.heap.size = w.heap.size + 2 := by rw [← hW0]; simp
  have HD := hide (And.intro d0 (And.intro B0 (And.intro B1 z0)))
  have SK : Hid (∀ W, Below W0.heap.size W0 W → (fun W => W.cell? ⟨w.heap.size, 0, none⟩ = some (.int .i64 (n : Nat)) ∧ W.cell? ⟨w.heap.size, 1, none⟩ = some (.int .i64 m) ∧ W.cell? ⟨w.heap.size, 2, none⟩ = some (.slice a1 St.length c1) ∧ W.cell? ⟨w.heap.size, 3, none⟩ = some (.slice a2 Fi.length c2) ∧ W.cell? ⟨w.heap.size, 4, none⟩ = some (.slice a3 Ed.length c3)) W) := hide (fun W d => by
    have e := (d.block _ (by have := HD.out.2.2.2; omega)).trans HD.out.2.1
    exact ⟨cell_of e rfl, cell_of e rfl, cell_of e rfl, cell_of e rfl, cell_of e rfl⟩)
  have SQ : Hid (∀ W : World, W.heap[w.heap.size]? = W0.heap[w.heap.size]? → (fun W => W.cell? ⟨w.heap.size, 0, none⟩ = some (.int .i64 (n : Nat)) ∧ W.cell? ⟨w.heap.size, 1, none⟩ = some (.int .i64 m) ∧ W.cell? ⟨w.heap.size, 2, none⟩ = some (.slice a1 St.length c1) ∧ W.cell? ⟨w.heap.size, 3, none⟩ = some (.slice a2 Fi.length c2) ∧ W.cell? ⟨w.heap.size, 4, none⟩ = some (.slice a3 Ed.length c3)) W) := hide (fun W e => by
    have e := e.trans HD.out.2.1
    exact ⟨cell_of e rfl, cell_of e rfl, cell_of e rfl, cell_of e rfl, cell_of e rfl⟩)
  have KA : Hid (∀ W, Below W0.heap.size W0 W → RdN W a1 St ∧ RdN W a2 Fi ∧ RdE W a3 Ed) := hide (fun W d => by
    have dd := HD.out.1.trans (d.mono HD.out.1.size)
    exact ⟨hA.out.1.on dd, hA.out.2.1.on dd, hA.out.2.2.on dd⟩)
  have HU := hide (And.intro (up_rise hB.out.1) (up_rise hB.out.2))
  clear d0 B0 B1 z0
  go_enter Tryz.func16, Tryz.ntmps16
  go_upto_region 1 with fail
  have S0 := SK.out W0.drew (Below.refl _ _).drew
  go_region_held3 (fun W => W.cell? ⟨w.heap.size, 0, none⟩ = some (.int .i64 (n : Nat)) ∧ W.cell? ⟨w.heap.size, 1, none⟩ = some (.int .i64 m) ∧ W.cell? ⟨w.heap.size, 2, none⟩ = some (.slice a1 St.length c1) ∧ W.cell? ⟨w.heap.size, 3, none⟩ = some (.slice a2 Fi.length c2) ∧ W.cell? ⟨w.heap.size, 4, none⟩ = some (.slice a3 Ed.length c3))
    (with_reducible assumption)
    ((first
      | (go_at_call_of 48 a1; refine (rrising_any _ a1 c1 n St (hide (KA.out _ (Below.refl _ W0).drew).1) (hide hB.out.1) h1 hn).mono ?_; rintro e wa ⟨vn, rfl, hn5, da⟩; rw [HU.out.1] at hn5; obtain ⟨p1, q1, rfl⟩ := rowForm hn5; have Da : Below W0.heap.size W0 wa := ⟨da.os, da.tape, da.output, da.size, da.block⟩; have Sa := SK.out wa Da; have H1 := hide (And.intro (show wa.ownsRow W0.heap.size 3 1 _ _ _ from hn5) Da); clear hn5 da Da)
      | (go_at_call_of 48 a2; refine (rrising_any wa a2 c2 n Fi (hide (KA.out _ H1.out.2).2.1) (hide hB.out.2) h2 hn).mono ?_; rintro e wb ⟨vn, rfl, hn5, db⟩; rw [HU.out.2] at hn5; obtain ⟨p2, q2, rfl⟩ := rowForm hn5; have Db : Below W0.heap.size W0 wb := H1.out.2.trans (db.mono H1.out.2.size); have Sb := SK.out wb Db; have H2 := hide (And.intro (own_wide hn5 H1.out.2.size) (And.intro (owns_below H1.out.1 db) Db)); clear hn5 db Db)
      | (go_at_call 49; refine (redges_any wb a3 c3 Ed (hide (KA.out _ H2.out.2.2).2.2) h3).mono ?_; rintro e wc ⟨ve, rfl, hep⟩; obtain ⟨D, he5, hss, hmem, hDl, dc⟩ := hep; obtain ⟨p3, q3, rfl⟩ := rowForm he5; have Dc : Below W0.heap.size W0 wc := H2.out.2.2.trans (dc.mono H2.out.2.2.size); have Sc := SK.out wc Dc; have bE := (Dc.block _ (by have := HD.out.2.2.2; omega)).trans HD.out.2.2.1; have z0 : wc.cell? ⟨w.heap.size + 1, 0, none⟩ = some (.int .i64 0) := cell_of bE rfl; have z1 : wc.cell? ⟨w.heap.size + 1, 1, none⟩ = some (.int .i64 0) := cell_of bE rfl; have z2 : wc.cell? ⟨w.heap.size + 1, 2, none⟩ = some (.slice none 0 0) := cell_of bE rfl; have z3 : wc.cell? ⟨w.heap.size + 1, 3, none⟩ = some (.slice none 0 0) := cell_of bE rfl; have z4 : wc.cell? ⟨w.heap.size + 1, 4, none⟩ = some (.slice none 0 0) := cell_of bE rfl; have f0 : wc.frozen? ⟨w.heap.size + 1, 0, none⟩ = false := fz_of bE; have f1 : wc.frozen? ⟨w.heap.size + 1, 1, none⟩ = false := fz_of bE; have f2 : wc.frozen? ⟨w.heap.size + 1, 2, none⟩ = false := fz_of bE; have f3 : wc.frozen? ⟨w.heap.size + 1, 3, none⟩ = false := fz_of bE; have f4 : wc.frozen? ⟨w.heap.size + 1, 4, none⟩ = false := fz_of bE; have HZ := hide (set5 wc (w.heap.size + 1) _ _ _ _ _ (.int .i64 (n : Nat)) (.int .i64 m) (.slice p1 (riseL St).length q1) (.slice p2 (riseL Fi).length q2) (.slice p3 D.length q3) 25 bE); have S5 := SQ.out _ ((HZ.out.2.block w.heap.size (by have := HD.out.2.2.2; have := Dc.size; omega) (by omega)).trans (Dc.block _ (by have := HD.out.2.2.2; omega))); have H3 := hide (And.intro (dE_of hss hmem) (And.intro (own_wide he5 H2.out.2.2.size) (And.intro (owns_below H2.out.1 dc) (And.intro (owns_below H2.out.2.1 dc) Dc)))); clear he5 hss hmem hDl dc Dc bE)))
  clear S0 Sa Sb Sc S5
  go_wp2
  refine bodyPost_ret (results_cell_row (p := 2) (ty := 25) rfl _ _ (w.heap.size + 1) 25 _ (0, 0) _ rfl HZ.out.1 Tryz.underlying25 rfl (by kernel_rfl)) rfl ?_
  obtain ⟨eD, r3, r2, r1, Dc⟩ := H3.out
  rw [← eD]
  have hz := HD.out.2.2.2
  have k : ∀ {e sz n : Nat} {v : Value} {xs : List Value}, wc.ownsRow W0.heap.size e sz v n xs → World.ownsRow _ W0.heap.size e sz v n xs := fun h => row_only h HZ.out.2 fun k q z => by have := (h.lt k q).1; omega
  obtain ⟨_, _, e1, s1⟩ := rdN_of (k r1)
  obtain ⟨_, _, e2, s2⟩ := rdN_of (k r2)
  obtain ⟨_, _, e3, s3⟩ := rdE_of (k r3)
  cases e1
  cases e2
  cases e3
  have dd := HD.out.1.trans (Dc.mono HD.out.1.size)
  exact ⟨_, _, _, _, _, _, rfl, s1, s2, s3, dd.trans (HZ.out.2.toBelow dd.size fun k z => by omega)⟩
end Go.Proofs.YtmagchclmmphaabGreatDoor
