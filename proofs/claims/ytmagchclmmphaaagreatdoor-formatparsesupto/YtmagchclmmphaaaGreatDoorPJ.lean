import Derived.Test.YtmagchclmmphaaaGreatDoorPI
import Derived.Test.YtmagchclmmphaaaGreatDoorUS
import Derived.Test.YtmagchclmmphaaaGreatDoorPd
namespace Go.Proofs.YtmagchclmmphaaaGreatDoor
open Go.RowKit Go.Maps

theorem own_wide {W : World} {B C e sz n : Nat} {v : Value} {xs : List Value} (h : W.ownsRow B e sz v n xs) (hc : C ≤ B) : W.ownsRow C e sz v n xs := by
  refine ⟨h.1, ?_⟩
  rcases h.2 with z | ⟨b, cap, cur, rfl, hb, hg, rest⟩
  · exact .inl z
  · exact .inr ⟨b, cap, cur, rfl, by omega, hg, rest⟩
/-- The box is made. -/
theorem PhS.new {w w1 w2 X : World} {vl : Value} {L : List ByteArray} (h0 : w1.heap[w.heap.size]? = some (.cells #[.string ⟨#[]⟩, .slice none 0 0, .slice none 0 0, .slice none 0 0, .slice none 0 0] 26 (0, 0))) (h1 : w1.heap[w.heap.size + 1]? = some (.cells #[.int .i64 0, .int .i64 0] 29 (0, 0))) (d1 : Below w.heap.size w w1) (z1 : w.heap.size + 2 ≤ w1.heap.size)
    (hl : w2.ownsRow w1.heap.size 9 1 vl L.length (strV L)) (d2 : Below w1.heap.size w1 w2) (hX : w2.alloc (.cells #[.string ⟨#[]⟩, .slice none 0 0, .slice none 0 0, .slice none 0 0, .slice none 0 0] 26) = X) :
    PhS w (w.heap.size + 2) w2.heap.size ⟨#[]⟩ vl L X (.slice none 0 0) (.slice none 0 0) (.slice none 0 0) [] [] [] := by
  have dX : Below w2.heap.size w2 X := by rw [← hX]; exact (Below.refl _ _).alloc (Nat.le_refl _) _
  have hs := d2.size
  have d3 : Below w1.heap.size w1 X := d2.trans (dX.mono d2.size)
  refine ⟨⟨Cn.nil _ _, by rw [← hX]; exact World.alloc_heap_new _ _, fun k z => ?_⟩, ⟨?_, fun k q => ⟨fun z => ?_, ?_⟩⟩, (d3.block _ (by omega)).trans h0, (d3.block _ (by omega)).trans h1, Nat.le_refl _, by omega, d1.trans (d3.mono d1.size)⟩
  · rcases z with z | z | z <;> cases z
  · exact row_only (own_wide hl (by omega)) (Only.ofBelow (R := fun _ => False) dX) fun _ _ z => z
  · rcases z with z | z | z <;> cases z
  · have := (hl.lt k q).2; omega
/-- A word of the symbols' line, byte by byte. -/
theorem opWB_at {v : ByteArray} {m : Nat} {d : UInt8} (hm : v.size = m + 2) (hd : v.data[v.size - 1]? = some d) (h : d.toNat = 48 ∨ d.toNat = 49) : ∃ (h1 : m + 1 < (bts v).length), (bts v)[m + 1] = 48 + (opWB v).2 ∧ (opWB v).2 ≤ 1 ∧ (opWB v).1 = v.extract 0 m := by
  have e1 : (bts v)[m + 1]? = some d.toNat := by rw [bts_at, show m + 1 = v.size - 1 by omega, hd]; rfl
  obtain ⟨h1, e2⟩ := List.getElem?_eq_some_iff.1 e1
  have e3 : (opWB v).2 = d.toNat - 48 := by
    unfold opWB
    simp only [hd, Option.getD_some]
    rw [UInt8.toNat_sub_of_le _ _ (by rw [UInt8.le_iff_toNat_le]; show 48 ≤ _; omega)]
    rfl
  refine ⟨h1, by rw [e2, e3]; omega, by rw [e3]; omega, ?_⟩
  unfold opWB
  simp only
  rw [show v.size - 2 = m by omega]
theorem Grw.undrewN {w w' : World} {n : Nat} {v v' : Value} (h : Grw (w.drewN n) w' v v') : Grw w w' v v' := ⟨⟨h.1.os, h.1.tape, h.1.output, h.1.size, h.1.block⟩, h.2⟩
theorem own_form {W : World} {B : Nat} {v : Value} {L : List ByteArray} (h : W.ownsRow B 9 1 v L.length (strV L)) (hne : 0 < L.length) : ∃ b cap, v = .slice (some ⟨b, 0, none⟩) L.length cap := by
  obtain ⟨ao, cap, e, k⟩ := row_len h
  obtain ⟨b, e2, _⟩ := k 0 (.string L[0]) (by simp [strV, hne])
  exact ⟨b, cap, by rw [e, e2]⟩
theorem own_cell {W : World} {B b n cap : Nat} {L : List ByteArray} (h : W.ownsRow B 9 1 (.slice (some ⟨b, 0, none⟩) n cap) L.length (strV L)) (k : Nat) (hk : k < L.length) : W.cell? ⟨b, k, none⟩ = some (.string L[k]) := by
  obtain ⟨ao, cap', e, q⟩ := row_len h
  cases e
  obtain ⟨b', e2, c⟩ := q k (.string L[k]) (by simp [strV, hk])
  cases e2
  exact c

/-! ### At the end: the final states are a fourth row -/
structure PhF (w : World) (B g : Nat) (t : ByteArray) (ve : Value) (E : List ByteArray) (W : World) (vf vo vs vr : Value) (O : List OpT) (S : List ByteArray) (R : List RuT) (F : List ByteArray) : Prop where
  cf : Cf B g W t vf vo vs vr O S R
  en : W.ownsRow B 9 1 ve E.length (strV E)
  ea : ∀ k, ve.ownBlock = some k → vf.ownBlock ≠ some k ∧ k ≠ g
  fn : W.ownsRow B 9 1 vf F.length (strV F)
  fa : ∀ k, vf.ownBlock = some k → ¬ RB3 vo vs vr k ∧ k ≠ g
  r0 : W.heap[w.heap.size]? = some (.cells #[.string ⟨#[]⟩, .slice none 0 0, .slice none 0 0, .slice none 0 0, .slice none 0 0] 26 (0, 0))
  r1 : W.heap[w.heap.size + 1]? = some (.cells #[.int .i64 0, .int .i64 0] 29 (0, 0))
  hB : w.heap.size + 2 ≤ B
  hg : B ≤ g
  dw : Below w.heap.size w W
section
variable {w W W1 : World} {B g : Nat} {t : ByteArray} {ve vl vf vf' vo vs vr : Value} {E LL : List ByteArray} {O : List OpT} {S : List ByteArray} {R : List RuT} {F F' : List ByteArray}
theorem PhF.begin (h : PhS w B g t vl LL W vo vs vr O S R) (e : Row9 B g W ve E (RB3 vo vs vr)) : PhF w B g t ve E W (.slice none 0 0) vo vs vr O S R [] :=
  ⟨h.cf, e.own, fun k q => ⟨fun z => (by cases z), (e.ap k q).2⟩, ⟨rfl, .inl ⟨rfl, rfl⟩⟩, fun k z => (by cases z), h.r0, h.r1, h.hB, h.hg, h.dw⟩
theorem PhF.bw (h : PhF w B g t ve E W vf vo vs vr O S R F) : B ≤ W.heap.size := by have := h.cf.glt; have := h.hg; omega
theorem PhF.step (h : PhF w B g t ve E W vf vo vs vr O S R F) (hg : Grw W W1 vf vf') (ho : W1.ownsRow B 9 1 vf' F'.length (strV F')) :
    PhF w B g t ve E (W1.setCell ⟨g, 3, none⟩ vf') vf' vo vs vr O S R F' := by
  have hb := h.bw
  have hgl := h.cf.glt
  have h2 := h.hB
  have h3 := h.hg
  have hbk : W1.heap[g]? = some (.cells #[.string t, vo, vs, vf, vr] 26 (0, 0)) := (hg.1.block g hgl fun q => (h.fa g q).2 rfl).trans h.cf.blk
  have hall : Only W (W1.setCell ⟨g, 3, none⟩ vf') (fun k => k = g ∨ vf.ownBlock = some k) := (hg.1.mono fun k _ q => show k = g ∨ vf.ownBlock = some k from .inr q).andNew (only_set W1 g 3 vf') fun i _ q => .inl q
  have hge : ∀ k, vf.ownBlock = some k → B ≤ k := fun k q => (h.fn.lt k q).1
  have hne : ∀ k, vf'.ownBlock = some k → k ≠ g := fun k q => by
    rcases new_of hg q with z | z
    · exact (h.fa k z).2
    · omega
  refine ⟨⟨h.cf.cn.only hall fun k z q => ?_, heap_setCell_same W1 g 3 _ 26 vf' hbk, h.cf.ap⟩, row_only h.en hall fun k q z => ?_, fun k q => ⟨fun z => ?_, (h.ea k q).2⟩, row_only ho (only_set W1 g 3 vf') hne, fun k q => ⟨fun z => ?_, hne k q⟩, ?_, ?_, h.hB, h.hg, h.dw.trans (hall.toBelow (by omega) fun i z => ?_)⟩
  · rcases q with q | q
    · exact h.cf.ap k z q
    · exact (h.fa k q).1 z
  · rcases z with z | z
    · exact (h.ea k q).2 z
    · exact (h.ea k q).1 z
  · rcases new_of hg z with y | y
    · exact (h.ea k q).1 y
    · have := (h.en.lt k q).2; omega
  · rcases new_of hg q with y | y
    · exact (h.fa k y).1 z
    · have := (h.cf.cn.lt k z).2; omega
  · exact (hall.block _ (by omega) fun z => by
      rcases z with z | z
      · omega
      · have := hge _ z; omega).trans h.r0
  · exact (hall.block _ (by omega) fun z => by
      rcases z with z | z
      · omega
      · have := hge _ z; omega).trans h.r1
  · rcases z with z | z
    · omega
    · have := hge _ z; omega
/-- The box's cells behind a call that grew that row. -/
theorem PhF.box (h : PhF w B g t ve E W vf vo vs vr O S R F) (hg : Grw W W1 vf vf') : W1.heap[g]? = some (.cells #[.string t, vo, vs, vf, vr] 26 (0, 0)) := (hg.1.block _ h.cf.glt fun z => (h.fa _ z).2 rfl).trans h.cf.blk
/-- The content that taken left is put into the box. -/
theorem PhS.put2 {W' : World} {vo' vs' vr' : Value} {O' : List OpT} {S' : List ByteArray} {R' : List RuT} (h : PhS w B g t vl LL W vo vs vr O S R) (hc : Cn B W' vo' vs' vr' O' S' R') (ho : Only W W' (RB3 vo vs vr)) (hn : ∀ k, RB3 vo' vs' vr' k → RB3 vo vs vr k ∨ W.heap.size ≤ k) :
    W'.heap[g]? = some (.cells #[.string t, vo, vs, .slice none 0 0, vr] 26 (0, 0)) ∧ ∀ W2, W2.heap[g]? = some (.cells #[.string t, vo', vs', .slice none 0 0, vr'] 26 (0, 0)) → Only W' W2 (fun k => k = g) → PhS w B g t vl LL W2 vo' vs' vr' O' S' R' ∧ Cs g W W2 (RB3 vo vs vr) (RB3 vo' vs' vr') := by
  refine ⟨(ho.block _ h.cf.glt fun z => h.cf.ap _ z rfl).trans h.cf.blk, fun W2 hb h2 => ?_⟩
  have hap : ∀ k, RB3 vo' vs' vr' k → k ≠ g := fun k z => by
    rcases hn k z with z | z
    · exact h.cf.ap k z
    · have := h.cf.glt; omega
  have hcs : Cs g W W2 (RB3 vo vs vr) (RB3 vo' vs' vr') := ⟨(ho.mono fun k _ z => .inr z).andNew h2 fun i _ z => .inl z, hn⟩
  exact ⟨h.step ⟨⟨hc.only h2 hap, hb, hap⟩, hcs⟩, hcs⟩
theorem PhF.drewN (h : PhF w B g t ve E W vf vo vs vr O S R F) (n : Nat) : PhF w B g t ve E (W.drewN n) vf vo vs vr O S R F :=
  ⟨⟨⟨h.cf.cn.o, h.cf.cn.s, h.cf.cn.r, h.cf.cn.os, h.cf.cn.or, h.cf.cn.sr⟩, h.cf.blk, h.cf.ap⟩, h.en, h.ea, h.fn, h.fa, h.r0, h.r1, h.hB, h.hg, ⟨h.dw.os, h.dw.tape, h.dw.output, h.dw.size, h.dw.block⟩⟩
theorem PhS.drewN (h : PhS w B g t vl LL W vo vs vr O S R) (n : Nat) : PhS w B g t vl LL (W.drewN n) vo vs vr O S R :=
  ⟨⟨⟨h.cf.cn.o, h.cf.cn.s, h.cf.cn.r, h.cf.cn.os, h.cf.cn.or, h.cf.cn.sr⟩, h.cf.blk, h.cf.ap⟩, ⟨h.ln.own, h.ln.ap⟩, h.r0, h.r1, h.hB, h.hg, ⟨h.dw.os, h.dw.tape, h.dw.output, h.dw.size, h.dw.block⟩⟩
end

theorem own_cap {W : World} {B b n cap : Nat} {L : List ByteArray} (h : W.ownsRow B 9 1 (.slice (some ⟨b, 0, none⟩) n cap) L.length (strV L)) : L.length ≤ cap := by
  rcases h.2 with ⟨e, _⟩ | ⟨g, cap', cur, e, _, _, hc, _⟩
  · cases e
  · cases e; exact hc
theorem filt_next {S M : List ByteArray} {k : Nat} {v : ByteArray} (h : S[k]? = some v) : (S.take (k + 1)).filter (memS M) = (S.take k).filter (memS M) ++ (if memS M v then [v] else []) := by
  rw [List.take_add_one, h, List.filter_append]
  cases hm : memS M v <;> simp [hm]

/-! ### What the lines make -/
theorem five_lines {L : List ByteArray} (h : 5 ≤ L.length) : (L.map pieces).foldl takeF start = ((L.drop 5).map pieces).foldl takeF (takeF (takeF (takeF (takeF (takeF start (pieces L[0])) (pieces L[1])) (pieces L[2])) (pieces L[3])) (pieces L[4])) := by
  match L, h with
  | _ :: _ :: _ :: _ :: _ :: _, _ => rfl
/-- What has been read behind the fifth line. -/
def A5 (t : ByteArray) (O : List OpT) (S : List ByteArray) (M : List ByteArray) : AS := ⟨5, t, O, S, M.map (posOf S), []⟩
def AK (L : List ByteArray) (a : AS) (k : Nat) : AS := (((L.drop 5).take (k - 5)).map pieces).foldl takeF a
theorem AK_start (L : List ByteArray) (a : AS) : AK L a 5 = a := by simp [AK]
theorem AK_next {L : List ByteArray} {a : AS} {k : Nat} (h5 : 5 ≤ k) (hk : k < L.length) : AK L a (k + 1) = takeF (AK L a k) (pieces L[k]) := by
  unfold AK
  have hlt : k - 5 < (L.drop 5).length := by rw [List.length_drop]; omega
  rw [show k + 1 - 5 = (k - 5) + 1 by omega, List.take_succ_eq_append_getElem hlt, List.map_append, List.foldl_append]
  simp only [List.map_cons, List.map_nil, List.foldl_cons, List.foldl_nil, List.getElem_drop]
  congr 3
  omega
theorem AK_end (L : List ByteArray) (a : AS) : AK L a L.length = ((L.drop 5).map pieces).foldl takeF a := by
  unfold AK
  rw [List.take_of_length_le (by rw [List.length_drop]; omega)]
/-- Its parts, line by line. -/
theorem AK_keeps {L : List ByteArray} {t : ByteArray} {O : List OpT} {S M : List ByteArray} (hl : ∀ k (h : k < L.length), lineX (min k 5) L[k]) : ∀ k, 5 ≤ k → k ≤ L.length →
    (AK L (A5 t O S M) k).pl = 5 ∧ (AK L (A5 t O S M) k).ti = t ∧ (AK L (A5 t O S M) k).N = M.map (posOf S) ∧ S <+: (AK L (A5 t O S M) k).S ∧ (AK L (A5 t O S M) k).O.length ≤ O.length + (k - 5) ∧ (AK L (A5 t O S M) k).S.length ≤ S.length + 2 * (k - 5) ∧ (AK L (A5 t O S M) k).R.length ≤ k - 5 := by
  intro k h5
  obtain ⟨j, rfl⟩ : ∃ j, k = 5 + j := ⟨k - 5, by omega⟩
  clear h5
  induction j with
  | zero => intro _; rw [AK_start]; exact ⟨rfl, rfl, rfl, List.prefix_refl _, by simp [A5], by simp [A5], by simp [A5]⟩
  | succ j ih =>
    intro hk
    obtain ⟨e1, e2, e3, e4, e5, e6, e7⟩ := ih (by omega)
    rw [show 5 + (j + 1) = (5 + j) + 1 by omega] at hk ⊢
    obtain ⟨k, hkk⟩ : ∃ k, 5 + j = k := ⟨_, rfl⟩
    rw [hkk] at e1 e2 e3 e4 e5 e6 e7 hk ⊢
    have h5 : 5 ≤ k := by omega
    have hx := hl k (by omega)
    rw [show min k 5 = 5 by omega] at hx
    obtain ⟨r, _, _, _, _, hr⟩ := line_rule hx
    rw [AK_next h5 (by omega), hr _ e1]
    obtain ⟨p1, p2, p3, p4⟩ := addRu_pre (AK L (A5 t O S M) k) r
    refine ⟨p4.trans e1, p3.trans e2, p2.trans e3, e4.trans p1, ?_, ?_, ?_⟩
    · have := (sadd_len (AK L (A5 t O S M) k).O (opR r)).2
      show (sadd _ _).length ≤ _
      omega
    · show (sadd (if r.2.1 = ⟨#[]⟩ then _ else sadd _ _) _).length ≤ _
      have h1 := (sadd_len (if r.2.1 = ⟨#[]⟩ then (AK L (A5 t O S M) k).S else sadd (AK L (A5 t O S M) k).S r.2.1) r.2.2).2
      have h2 : (if r.2.1 = ⟨#[]⟩ then (AK L (A5 t O S M) k).S else sadd (AK L (A5 t O S M) k).S r.2.1).length ≤ (AK L (A5 t O S M) k).S.length + 1 := by
        split
        · omega
        · exact (sadd_len _ _).2
      omega
    · have := (sadd_len (AK L (A5 t O S M) k).R r).2
      show (sadd _ _).length ≤ _
      omega
end Go.Proofs.YtmagchclmmphaaaGreatDoor
namespace Go.Proofs.YtmagchclmmphaaaGreatDoor
open Go.RowKit Go.Maps
attribute [local go_sem] Oper.semAt_some

theorem fold_next {α : Type} [DecidableEq α] {M S0 : List α} {j : Nat} {v : α} (h : M[j]? = some v) : sadd ((M.take j).foldl sadd S0) v = (M.take (j + 1)).foldl sadd S0 := by
  rw [List.take_add_one, h, List.foldl_append]
  rfl
set_option maxRecDepth 100000 in
set_option maxHeartbeats 2000000 in
/-- A file, as the document reads it. -/
theorem rparse_ok (s : ByteArray) (w : World) (hsz : s.size ≤ 1048576) (he : errF s = 0) :
    Calls Tryz.prog 18 #[.string s] w fun e w' => ∃ vo vs vn vr, e = .returned (.tuple #[.agg #[.string (contF s).ti, vo, vs, vn, vr], .agg #[.int .i64 0, .int .i64 0]]) ∧ w'.ownsRow w.heap.size 41 2 vo (contF s).O.length ((contF s).O.flatMap kOps.cs) ∧ w'.ownsRow w.heap.size 9 1 vs (contF s).S.length (strV (contF s).S) ∧ w'.ownsRow w.heap.size 9 1 vn (finN (contF s)).length (strV (namesAt (finN (contF s)) (contF s).S)) ∧ w'.ownsRow w.heap.size 50 3 vr (contF s).R.length ((contF s).R.flatMap kRules.cs) ∧ Below w.heap.size w w' := by
  obtain ⟨W0, hW0⟩ : ∃ W0, (w.alloc (.cells #[.string ⟨#[]⟩, .slice none 0 0, .slice none 0 0, .slice none 0 0, .slice none 0 0] 26)).alloc (.cells #[.int .i64 0, .int .i64 0] 29) = W0 := ⟨_, rfl⟩
  have d0 : Below w.heap.size w W0 := by rw [← hW0]; exact ((Below.refl _ _).alloc (Nat.le_refl _) _).alloc (by simp) _
  have b0 : W0.heap[w.heap.size]? = some (.cells #[.string ⟨#[]⟩, .slice none 0 0, .slice none 0 0, .slice none 0 0, .slice none 0 0] 26 (0, 0)) := by rw [← hW0]; exact (Below.heap_alloc _ _ _ (by simp)).trans (World.alloc_heap_new _ _)
  have b1 : W0.heap[w.heap.size + 1]? = some (.cells #[.int .i64 0, .int .i64 0] 29 (0, 0)) := by rw [← hW0]; exact heap_alloc2_new w _ _
  have z0 : w.heap.size + 2 = W0.heap.size := by rw [← hW0]; simp
  have HC := rf.rcheck_any s W0 (by omega)
  rw [he] at HC
  have HD := hide (And.intro d0 (And.intro b0 (And.intro b1 z0)))
  have HL := hide (linesR_of s he)
  obtain ⟨L, hL⟩ : ∃ L, linesR s = L := ⟨_, rfl⟩
  have hZ : Hid (2 * L.length ≤ s.size + 1 ∧ ∀ x ∈ L, x.size ≤ s.size) := hide (by rw [← hL]; exact linesR_le s)
  rw [hL] at HL
  clear d0 b0 b1 z0
  go_enter Tryz.func18, Tryz.ntmps18
  go_upto_region 5 with (first
    | (go_at_call 8; refine HC.mono ?_; rintro e w1 ⟨rfl, d1⟩)
    | (go_at_call 37; refine (rlines_any w1 s (by omega)).mono ?_; rintro e w2 ⟨vl, rfl, hvl, d2⟩; rw [hL] at hvl; obtain ⟨bl, cl, rfl⟩ := own_form hvl (by have := HL.out.1; omega)))
  go_upto_region 6 with fail
  obtain ⟨X, hX⟩ : ∃ X, w2.alloc (.cells #[.string ⟨#[]⟩, .slice none 0 0, .slice none 0 0, .slice none 0 0, .slice none 0 0] 26) = X := ⟨_, rfl⟩
  rw [hX]
  have TA : Hid (PhS w (w.heap.size + 2) w2.heap.size ⟨#[]⟩ (.slice (some ⟨bl, 0, none⟩) L.length cl) L X (.slice none 0 0) (.slice none 0 0) (.slice none 0 0) [] [] []) := hide (by
    obtain ⟨q0, q1, q2, q3⟩ := HD.out
    exact PhS.new ((d1.block _ (by omega)).trans q1) ((d1.block _ (by omega)).trans q2) (q0.trans (d1.mono q0.size)) (by have := d1.size; omega) hvl d2 hX)
  obtain ⟨g, hg⟩ : ∃ g, w2.heap.size = g := ⟨_, rfl⟩
  rw [hg] at TA ⊢
  have hL5 := HL.out.1
  obtain ⟨x0, hx0⟩ : ∃ x, L[0] = x := ⟨_, rfl⟩
  have hx0z : x0.size ≤ s.size := by rw [← hx0]; exact hZ.out.2 _ (List.getElem_mem _)
  have c0 : X.cell? ⟨bl, 0, none⟩ = some (.string x0) := by rw [← hx0]; exact own_cell TA.out.ln.own 0 (by omega)
  have HX0 := hide hx0
  clear d1 d2 hvl HC HD hx0 hW0 hX hg
  have i0 : (0 : Int) < (L.length : Int) := by omega
  go_upto_region 7 with (go_at_call 38; refine (words_any X x0 (by omega)).mono ?_; rintro e w3 ⟨vw, rfl, ⟨V, hV, hvw⟩, d3⟩)
  obtain ⟨g0, V', hVe, ht, hd⟩ := line_ops (x := x0) (by have := HL.out.2.1 0 (by omega); rwa [HX0.out] at this) hV
  have hVl := words_le hV
  obtain ⟨bw, cw, rfl⟩ := own_form hvw (by rw [hVe]; simp)
  have TB := hide (TA.out.below d3)
  have RW := hide (TA.out.row hvw)
  have HV := hide (And.intro hVe (And.intro ht hd))
  have hVz : V.length ≤ 1048576 := by have := hVl.1; omega
  have hV1 : 1 ≤ V.length := by rw [hVe]; simp
  have HVs := hide hVl.2
  clear d3 hvw hVe ht hd hVl TA hV c0
  go_wp2_with fail
  go_loopw [9] (fun i wr => ∃ (k : Nat) (vo : Value) (O : List OpT), 1 ≤ k ∧ k ≤ V.length ∧ i = .int .i64 k ∧ O.length ≤ k ∧ Hid (PhS w (w.heap.size + 2) g ⟨#[]⟩ (.slice (some ⟨bl, 0, none⟩) L.length cl) L wr vo (.slice none 0 0) (.slice none 0 0) O [] [] ∧ Row9 (w.heap.size + 2) g wr (.slice (some ⟨bw, 0, none⟩) V.length cw) V (RB3 vo (.slice none 0 0) (.slice none 0 0)) ∧ O = ((V'.take (k - 1)).map opWB).foldl sadd [])) (fun i _ => V.length - (intOf i).toNat)
  case atStart => exact ⟨1, _, [], Nat.le_refl _, hV1, rfl, Nat.zero_le _, hide ⟨TB.out, RW.out, rfl⟩⟩
  case round =>
    obtain ⟨k, vo, O, hk1, hk, rfl, hOl, HH⟩ := hrel
    obtain ⟨ao, co, rfl, _⟩ := rdO_of HH.out.1.cf.cn.o
    by_cases hlt : k < V.length
    · have i2 : (k : Int) < (V.length : Int) := by omega
      have i3 : (0 : Int) ≤ (k : Int) := by omega
      obtain ⟨v, hv⟩ : ∃ v, V[k] = v := ⟨_, rfl⟩
      have cw0 : wr.cell? ⟨bw, k, none⟩ = some (.string v) := by rw [← hv]; exact own_cell HH.out.2.1.own k hlt
      have hvV : k - 1 < V'.length ∧ ∀ h, V'[k - 1]'h = v := by
        have hVe := HV.out.1
        subst hVe
        rw [List.length_cons] at hlt
        refine ⟨by omega, fun h => ?_⟩
        rw [← hv, List.getElem_cons]
        rw [dif_neg (by omega)]
      obtain ⟨hv2, d, hd, hdd⟩ := HV.out.2.2 v (by rw [← hvV.2 hvV.1]; exact List.getElem_mem _)
      obtain ⟨m, hm⟩ : ∃ m, v.size = m + 2 := ⟨v.size - 2, by omega⟩
      obtain ⟨hm1, e48, hop2, hop1⟩ := opWB_at hm hd hdd
      have hvz : v.size ≤ 1048577 := by have := HVs.out v (by rw [← hv]; exact List.getElem_mem _); omega
      have hix := rf.idx_b v (m + 1) (by omega)
      rw [e48] at hix
      have c1 : wr.cell? ⟨g, 1, none⟩ = some (.slice ao O.length co) := cell_of HH.out.1.cf.blk rfl
      have HSt : Hid (sadd O (opWB v) = ((V'.take (k + 1 - 1)).map opWB).foldl sadd []) := hide (by
        rw [show k + 1 - 1 = (k - 1) + 1 by omega, List.take_succ_eq_append_getElem hvV.1, List.map_append, List.foldl_append, ← HH.out.2.2]
        simp only [List.map_cons, List.map_nil, List.foldl_cons, List.foldl_nil]
        rw [hvV.2 hvV.1])
      obtain ⟨oz, hoz⟩ : ∃ oz, opWB v = oz := ⟨_, rfl⟩
      rw [hoz] at hop1 hop2 HSt hix
      have HVk := hide hv
      clear hoz hd hdd e48 hvV hv hv2
      obtain ⟨on, oa⟩ := oz
      simp only at hop1 hop2 hix
      subst hop1
      have i4 : (0 : Int) ≤ (m : Int) := by omega
      have i5 : (m : Int) ≤ (v.size : Int) := by omega
      have i6 : (m : Int) + 1 < (m : Int) + 2 := by omega
      have i7 : (0 : Int) ≤ (m : Int) + 1 := by omega
      have i8 : (m : Int) + 1 < (v.size : Int) := by omega
      have y4 : IntKind.i64.wrap ((m : Int) + 1) = (m : Int) + 1 := by rw [IntKind.wrap_i64]; omega
      have i9 : (m : Int) ≤ (m : Int) + 2 := by omega
      go_upto_region 11 with fail
      rcases (by omega : oa = 0 ∨ oa = 1) with rfl | rfl
      · have hix2 : ∀ W, (Instr.index 9 (.string v) (.int .i64 ((m : Int) + 1))).run Tryz.prog W = .ok (.int .u8 48) W := hix
        have y0 : IntKind.i64.wrap 48 = 48 := by decide
        have y1 : IntKind.i64.wrap (IntKind.i64.wrap 48 - 48) = 0 := by decide
        have y2 : IntKind.i64.wrap (48 - 48) = 0 := by decide
        have y3 : IntKind.i64.wrap 0 = 0 := by decide
        clear hix
        refine wp_region_phase 18 #[true, true, true, true, true, true, true, true, true, true, true, true, true, true, true, true, true, true, false, false, false] (by kernel_rfl) (by kernel_rfl) ?_
        simp only [List.take_succ_cons, List.take_zero, List.drop_succ_cons, List.drop_zero]
        repeat (go_big_quiet_step (fail))
        refine wpQuiet_nil ?_
        intro wz hz
        obtain ⟨nq, rfl⟩ := hz
        have hOw : (wr.drewN nq).ownsRow (w.heap.size + 2) 41 2 (.slice ao O.length co) O.length (O.flatMap kOps.cs) := HH.out.1.cf.cn.o
        have T39 := withOp_any (wr.drewN nq) (w.heap.size + 2) _ O (v.extract 0 m, 0) (hide hOw) (hide HH.out.1.bw) (by omega)
        simp only [Int.cast_ofNat_Int] at T39
        clear hOw
        go_wp2_with (go_at_call 39; refine T39.mono ?_; rintro e wc ⟨v', rfl, ho, hg⟩; have hg2 := hg.undrewN; obtain ⟨ao', co', rfl, _⟩ := rdO_of ho; have hbx := HH.out.1.box hg2 (fun k z => .inl z); have TC := hide (HH.out.1.cf.addO hg2 ho); have kc : wc.cell? ⟨g, 1, none⟩ = some (.slice ao O.length co) := cell_of hbx rfl; have fc : wc.frozen? ⟨g, 1, none⟩ = false := fz_of hbx; clear hbx ho hg hg2)
        exact ⟨⟨k + 1, _, _, by omega, by omega, by go_num, by have := (sadd_len O (v.extract 0 m, 0)).2; omega, hide ⟨HH.out.1.step TC.out, HH.out.2.1.step TC.out.2, HSt.out⟩⟩, by simp [intOf]; omega⟩
      · have hix2 : ∀ W, (Instr.index 9 (.string v) (.int .i64 ((m : Int) + 1))).run Tryz.prog W = .ok (.int .u8 49) W := hix
        have y0 : IntKind.i64.wrap 49 = 49 := by decide
        have y1 : IntKind.i64.wrap (IntKind.i64.wrap 49 - 48) = 1 := by decide
        have y2 : IntKind.i64.wrap (49 - 48) = 1 := by decide
        have y3 : IntKind.i64.wrap 1 = 1 := by decide
        clear hix
        refine wp_region_phase 18 #[true, true, true, true, true, true, true, true, true, true, true, true, true, true, true, true, true, true, false, false, false] (by kernel_rfl) (by kernel_rfl) ?_
        simp only [List.take_succ_cons, List.take_zero, List.drop_succ_cons, List.drop_zero]
        repeat (go_big_quiet_step (fail))
        refine wpQuiet_nil ?_
        intro wz hz
        obtain ⟨nq, rfl⟩ := hz
        have hOw : (wr.drewN nq).ownsRow (w.heap.size + 2) 41 2 (.slice ao O.length co) O.length (O.flatMap kOps.cs) := HH.out.1.cf.cn.o
        have T39 := withOp_any (wr.drewN nq) (w.heap.size + 2) _ O (v.extract 0 m, 1) (hide hOw) (hide HH.out.1.bw) (by omega)
        simp only [Int.cast_ofNat_Int] at T39
        clear hOw
        go_wp2_with (go_at_call 39; refine T39.mono ?_; rintro e wc ⟨v', rfl, ho, hg⟩; have hg2 := hg.undrewN; obtain ⟨ao', co', rfl, _⟩ := rdO_of ho; have hbx := HH.out.1.box hg2 (fun k z => .inl z); have TC := hide (HH.out.1.cf.addO hg2 ho); have kc : wc.cell? ⟨g, 1, none⟩ = some (.slice ao O.length co) := cell_of hbx rfl; have fc : wc.frozen? ⟨g, 1, none⟩ = false := fz_of hbx; clear hbx ho hg hg2)
        exact ⟨⟨k + 1, _, _, by omega, by omega, by go_num, by have := (sadd_len O (v.extract 0 m, 1)).2; omega, hide ⟨HH.out.1.step TC.out, HH.out.2.1.step TC.out.2, HSt.out⟩⟩, by simp [intOf]; omega⟩
    · have i2 : ¬ (k : Int) < (V.length : Int) := by omega
      obtain rfl : k = V.length := by omega
      have HO : Hid (O = (V'.map opWB).foldl sadd []) := hide (by
        have := HH.out.2.2
        rwa [show V.length - 1 = V'.length by rw [HV.out.1]; simp, List.take_length] at this)
      have PH1 := hide HH.out.1
      have hOz : O.length ≤ 1048576 := by omega
      obtain ⟨x1, hx1⟩ : ∃ x, L[1] = x := ⟨_, rfl⟩
      have hx1z : x1.size ≤ s.size := by rw [← hx1]; exact hZ.out.2 _ (List.getElem_mem _)
      have c1 : wr.cell? ⟨bl, 1, none⟩ = some (.string x1) := by rw [← hx1]; exact own_cell PH1.out.ln.own 1 (by omega)
      have HX1 := hide hx1
      have i1 : (1 : Int) < (L.length : Int) := by omega
      clear HH hx1 RW TB
      go_upto_region 13 with (go_at_call 38; refine (words_any wr x1 (by omega)).mono ?_; rintro e w4 ⟨vw1, rfl, ⟨V1, hV1, hvw1⟩, d4⟩; obtain ⟨g1, t, rfl, ht1⟩ := line_title (a := { start with pl := 1, O := O }) (by have := HL.out.2.1 1 (by omega); rwa [HX1.out] at this) rfl hV1; obtain ⟨bt, ct, hvt⟩ := own_form hvw1 (by simp); obtain rfl : vw1 = .slice (some ⟨bt, 0, none⟩) 2 ct := hvt; have ct1 : w4.cell? ⟨bt, 1, none⟩ = some (.string t) := own_cell hvw1 1 (by simp); have HT1 := hide ht1; have PH2 := hide (PH1.out.below d4); have k0 : w4.cell? ⟨g, 0, none⟩ = some (.string ⟨#[]⟩) := cell_of PH2.out.cf.blk rfl; have f0 : w4.frozen? ⟨g, 0, none⟩ = false := fz_of PH2.out.cf.blk; clear ht1 hV1 hvw1 d4)
      obtain ⟨Y, hY⟩ : ∃ Y, w4.setCell ⟨g, 0, none⟩ (.string t) = Y := ⟨_, rfl⟩
      rw [hY]
      have PH3 : Hid (PhS w (w.heap.size + 2) g t (.slice (some ⟨bl, 0, none⟩) L.length cl) L Y (.slice ao O.length co) (.slice none 0 0) (.slice none 0 0) O [] []) := hide (by rw [← hY]; exact PH2.out.step (PH2.out.cf.title t))
      clear hY PH2 PH1 k0 f0 ct1 c1
      obtain ⟨x2, hx2⟩ : ∃ x, L[2] = x := ⟨_, rfl⟩
      have hx2z : x2.size ≤ s.size := by rw [← hx2]; exact hZ.out.2 _ (List.getElem_mem _)
      have c2 : Y.cell? ⟨bl, 2, none⟩ = some (.string x2) := by rw [← hx2]; exact own_cell PH3.out.ln.own 2 (by omega)
      have HX2 := hide hx2
      have j2 : (2 : Int) < (L.length : Int) := by omega
      clear hx2
      go_upto_region 14 with (go_at_call 38; refine (words_any Y x2 (by omega)).mono ?_; rintro e w5 ⟨vw2, rfl, ⟨V2, hV2, hvw2⟩, d5⟩)
      obtain ⟨g2, M2, hV2e, ht2⟩ := line_states (a := { start with pl := 2, ti := t, O := O }) (by have := HL.out.2.1 2 (by omega); rwa [HX2.out] at this) rfl hV2
      have hVl2 := words_le hV2
      obtain ⟨b2, e2, rfl⟩ := own_form hvw2 (by rw [hV2e]; simp)
      have PH4 := hide (PH3.out.below d5)
      have RW2 := hide (PH3.out.row hvw2)
      have HV2 := hide (And.intro hV2e ht2)
      have hV2z : V2.length ≤ 1048576 := by have := hVl2.1; omega
      have hV21 : 1 ≤ V2.length := by rw [hV2e]; simp
      clear d5 hvw2 hV2e ht2 hVl2 PH3 hV2 c2 i2 i1
      go_wp2_with fail
      go_loopw [11] (fun i wr => ∃ (k : Nat) (vs : Value) (S : List ByteArray), 1 ≤ k ∧ k ≤ V2.length ∧ i = .int .i64 k ∧ S.length ≤ k ∧ Hid (PhS w (w.heap.size + 2) g t (.slice (some ⟨bl, 0, none⟩) L.length cl) L wr (.slice ao O.length co) vs (.slice none 0 0) O S [] ∧ Row9 (w.heap.size + 2) g wr (.slice (some ⟨b2, 0, none⟩) V2.length e2) V2 (RB3 (.slice ao O.length co) vs (.slice none 0 0)) ∧ S = (M2.take (k - 1)).foldl sadd [])) (fun i _ => V2.length - (intOf i).toNat)
      case atStart => exact ⟨1, _, [], Nat.le_refl _, hV21, rfl, Nat.zero_le _, hide ⟨PH4.out, RW2.out, rfl⟩⟩
      case round =>
        obtain ⟨k, vs, S, hk1, hk, rfl, hSl, HH⟩ := hrel
        obtain ⟨asx, cs, rfl, _⟩ := rdS_of HH.out.1.cf.cn.s
        by_cases hlt : k < V2.length
        · have i2 : (k : Int) < (V2.length : Int) := by omega
          have i3 : (0 : Int) ≤ (k : Int) := by omega
          obtain ⟨v, hv⟩ : ∃ v, V2[k] = v := ⟨_, rfl⟩
          have cw0 : wr.cell? ⟨b2, k, none⟩ = some (.string v) := by rw [← hv]; exact own_cell HH.out.2.1.own k hlt
          have c1 : wr.cell? ⟨g, 2, none⟩ = some (.slice asx S.length cs) := cell_of HH.out.1.cf.blk rfl
          have HSt : Hid (sadd S v = (M2.take (k + 1 - 1)).foldl sadd []) := hide (by
            rw [HH.out.2.2, show k + 1 - 1 = (k - 1) + 1 by omega]
            refine fold_next ?_
            have := List.getElem?_eq_getElem hlt
            rw [hv] at this
            rw [← this, HV2.out.1]
            obtain ⟨j, rfl⟩ : ∃ j, k = j + 1 := ⟨k - 1, by omega⟩
            simp)
          clear hv
          go_upto_region 17 with fail
          refine wp_region_phase 6 #[true, true, true, true, true, true, false, false, false] (by kernel_rfl) (by kernel_rfl) ?_
          simp only [List.take_succ_cons, List.take_zero, List.drop_succ_cons, List.drop_zero]
          repeat (go_big_quiet_step (fail))
          refine wpQuiet_nil ?_
          intro wz hz
          obtain ⟨nq, rfl⟩ := hz
          have T40 := with_any (wr.drewN nq) (w.heap.size + 2) _ S v (hide HH.out.1.cf.cn.s) (hide HH.out.1.bw) (by omega)
          go_wp2_with (go_at_call 40; refine T40.mono ?_; rintro e wc ⟨v', rfl, ho, hg⟩; have hg2 := hg.undrewN; obtain ⟨as', cs', rfl, _⟩ := rdS_of ho; have hbx := HH.out.1.box hg2 (fun k z => .inr (.inl z)); have TC := hide (HH.out.1.cf.addS hg2 ho); have kc : wc.cell? ⟨g, 2, none⟩ = some (.slice asx S.length cs) := cell_of hbx rfl; have fc : wc.frozen? ⟨g, 2, none⟩ = false := fz_of hbx; clear hbx ho hg hg2)
          exact ⟨⟨k + 1, _, _, by omega, by omega, by go_num, by have := (sadd_len S v).2; omega, hide ⟨HH.out.1.step TC.out, HH.out.2.1.step TC.out.2, HSt.out⟩⟩, by simp [intOf]; omega⟩
        · have i2 : ¬ (k : Int) < (V2.length : Int) := by omega
          obtain rfl : k = V2.length := by omega
          have HS2 : Hid (S = M2.foldl sadd []) := hide (by
            have := HH.out.2.2
            rwa [show V2.length - 1 = M2.length by rw [HV2.out.1]; simp, List.take_length] at this)
          have PH5 := hide HH.out.1
          have hSz : S.length ≤ 1048576 := by omega
          clear HH RW2 PH4
          obtain ⟨x3, hx3⟩ : ∃ x, L[3] = x := ⟨_, rfl⟩
          have hx3z : x3.size ≤ s.size := by rw [← hx3]; exact hZ.out.2 _ (List.getElem_mem _)
          have c3 : wr.cell? ⟨bl, 3, none⟩ = some (.string x3) := by rw [← hx3]; exact own_cell PH5.out.ln.own 3 (by omega)
          have HX3 := hide hx3
          have j3 : (3 : Int) < (L.length : Int) := by omega
          clear hx3
          go_upto_region 19 with (go_at_call 38; refine (words_any wr x3 (by omega)).mono ?_; rintro e w6 ⟨vw3, rfl, ⟨V3, hV3, hvw3⟩, d6⟩)
          obtain ⟨g3, q3, M3, hV3e, ht3⟩ := line_final (a := { start with pl := 3, ti := t, O := O, S := S }) (by have := HL.out.2.1 3 (by omega); rwa [HX3.out] at this) rfl hV3
          have hVl3 := words_le hV3
          obtain ⟨b3, e3, rfl⟩ := own_form hvw3 (by rw [hV3e]; simp)
          have PH6 := hide (PH5.out.below d6)
          have RW3 := hide (PH5.out.row hvw3)
          have HV3 := hide (And.intro hV3e ht3)
          have hV3z : V3.length ≤ 1048576 := by have := hVl3.1; omega
          have hV31 : 2 ≤ V3.length := by rw [hV3e]; simp
          clear d6 hvw3 hV3e ht3 hVl3 PH5 hV3 c3 i2
          go_wp2_with fail
          go_loopw [13] (fun i wr => ∃ (k : Nat) (vs : Value) (S' : List ByteArray), 2 ≤ k ∧ k ≤ V3.length ∧ i = .int .i64 k ∧ S'.length ≤ 1048576 + k ∧ Hid (PhS w (w.heap.size + 2) g t (.slice (some ⟨bl, 0, none⟩) L.length cl) L wr (.slice ao O.length co) vs (.slice none 0 0) O S' [] ∧ Row9 (w.heap.size + 2) g wr (.slice (some ⟨b3, 0, none⟩) V3.length e3) V3 (RB3 (.slice ao O.length co) vs (.slice none 0 0)) ∧ S' = (M3.take (k - 2)).foldl sadd S)) (fun i _ => V3.length - (intOf i).toNat)
          case atStart => exact ⟨2, _, S, Nat.le_refl _, hV31, rfl, by omega, hide ⟨PH6.out, RW3.out, rfl⟩⟩
          case round =>
            obtain ⟨k, vs, S', hk1, hk, rfl, hSl', HH⟩ := hrel
            obtain ⟨at', ct', rfl, _⟩ := rdS_of HH.out.1.cf.cn.s
            by_cases hlt : k < V3.length
            · have i2 : (k : Int) < (V3.length : Int) := by omega
              have i3 : (0 : Int) ≤ (k : Int) := by omega
              obtain ⟨v, hv⟩ : ∃ v, V3[k] = v := ⟨_, rfl⟩
              have cw0 : wr.cell? ⟨b3, k, none⟩ = some (.string v) := by rw [← hv]; exact own_cell HH.out.2.1.own k hlt
              have c1 : wr.cell? ⟨g, 2, none⟩ = some (.slice at' S'.length ct') := cell_of HH.out.1.cf.blk rfl
              have HSt : Hid (sadd S' v = (M3.take (k + 1 - 2)).foldl sadd S) := hide (by
                rw [HH.out.2.2, show k + 1 - 2 = (k - 2) + 1 by omega]
                refine fold_next ?_
                have := List.getElem?_eq_getElem hlt
                rw [hv] at this
                rw [← this, HV3.out.1]
                obtain ⟨j, rfl⟩ : ∃ j, k = j + 2 := ⟨k - 2, by omega⟩
                simp)
              clear hv
              go_upto_region 22 with fail
              refine wp_region_phase 6 #[true, true, true, true, true, true, false, false, false] (by kernel_rfl) (by kernel_rfl) ?_
              simp only [List.take_succ_cons, List.take_zero, List.drop_succ_cons, List.drop_zero]
              repeat (go_big_quiet_step (fail))
              refine wpQuiet_nil ?_
              intro wz hz
              obtain ⟨nq, rfl⟩ := hz
              have T40 := with_any (wr.drewN nq) (w.heap.size + 2) _ S' v (hide HH.out.1.cf.cn.s) (hide HH.out.1.bw) (by omega)
              go_wp2_with (go_at_call 40; refine T40.mono ?_; rintro e wc ⟨v', rfl, ho, hg⟩; have hg2 := hg.undrewN; obtain ⟨as', cs', rfl, _⟩ := rdS_of ho; have hbx := HH.out.1.box hg2 (fun k z => .inr (.inl z)); have TC := hide (HH.out.1.cf.addS hg2 ho); have kc : wc.cell? ⟨g, 2, none⟩ = some (.slice at' S'.length ct') := cell_of hbx rfl; have fc : wc.frozen? ⟨g, 2, none⟩ = false := fz_of hbx; clear hbx ho hg hg2)
              exact ⟨⟨k + 1, _, _, by omega, by omega, by go_num, by have := (sadd_len S' v).2; omega, hide ⟨HH.out.1.step TC.out, HH.out.2.1.step TC.out.2, HSt.out⟩⟩, by simp [intOf]; omega⟩
            · have i2 : ¬ (k : Int) < (V3.length : Int) := by omega
              obtain rfl : k = V3.length := by omega
              have HS3 : Hid (S' = M3.foldl sadd S) := hide (by
                have := HH.out.2.2
                rwa [show V3.length - 2 = M3.length by rw [HV3.out.1]; simp, List.take_length] at this)
              have PH7 := hide HH.out.1
              have RW4 := hide HH.out.2.1
              clear HH RW3 PH6
              have CT : Hid (contF s = AK L (A5 t O S' M3) L.length) := hide (by
                have r1 : takeF start (pieces x0) = ⟨1, ⟨#[]⟩, O, [], [], []⟩ := by rw [HO.out]; exact HV.out.2.1
                have r2 : takeF ⟨1, ⟨#[]⟩, O, [], [], []⟩ (pieces x1) = ⟨2, t, O, [], [], []⟩ := HT1.out
                have r3 : takeF ⟨2, t, O, [], [], []⟩ (pieces x2) = ⟨3, t, O, S, [], []⟩ := by rw [HS2.out]; exact HV2.out.2
                have r4 : takeF ⟨3, t, O, S, [], []⟩ (pieces x3) = ⟨4, t, O, S', M3.map (posOf S'), []⟩ := by rw [HS3.out]; exact HV3.out.2
                have r5 : takeF ⟨4, t, O, S', M3.map (posOf S'), []⟩ (pieces L[4]) = A5 t O S' M3 := line_trans (HL.out.2.1 4 (by omega)) rfl
                rw [HL.out.2.2, five_lines hL5, AK_end, HX0.out, HX1.out, HX2.out, HX3.out, r1, r2, r3, r4, r5])
              have KP := hide (AK_keeps (t := t) (O := O) (S := S') (M := M3) HL.out.2.1)
              have HM3 : Hid (∀ m ∈ M3, m ∈ S') := hide (by rw [HS3.out]; exact fun m hm => fold_mem.2 (.inr hm))
              have HE3 : Hid (V3 = g3 :: q3 :: M3) := hide HV3.out.1
              have hLz : 2 * L.length ≤ 1048577 := by have := hZ.out.1; omega
              clear HV HO HX0 HX1 HX2 HX3 HT1 HV2 HS2 HV3 HS3 HVs
              go_wp2_with fail
              go_loopw [14] (fun i wr => ∃ (k : Nat) (vo vs vr : Value), 5 ≤ k ∧ k ≤ L.length ∧ i = .int .i64 k ∧ Hid (PhS w (w.heap.size + 2) g t (.slice (some ⟨bl, 0, none⟩) L.length cl) L wr vo vs vr (AK L (A5 t O S' M3) k).O (AK L (A5 t O S' M3) k).S (AK L (A5 t O S' M3) k).R ∧ Row9 (w.heap.size + 2) g wr (.slice (some ⟨b3, 0, none⟩) V3.length e3) V3 (RB3 vo vs vr))) (fun i _ => L.length - (intOf i).toNat)
              case atStart => exact ⟨5, _, _, _, Nat.le_refl _, hL5, rfl, hide (by rw [AK_start]; exact ⟨PH7.out, RW4.out⟩)⟩
              case round =>
                obtain ⟨k, vo, vs, vr, hk1, hk, rfl, HH⟩ := hrel
                obtain ⟨kp1, _, _, _, kO, kS, kR⟩ := KP.out k hk1 hk
                obtain ⟨A, hA⟩ : ∃ A, AK L (A5 t O S' M3) k = A := ⟨_, rfl⟩
                rw [hA] at HH kp1 kO kS kR
                have HA := hide hA
                clear hA PH7 RW4
                obtain ⟨a1, d1, rfl, _⟩ := rdO_of HH.out.1.cf.cn.o
                obtain ⟨a2, d2, rfl, _⟩ := rdS_of HH.out.1.cf.cn.s
                obtain ⟨a3, d3, rfl, _⟩ := rdR_of HH.out.1.cf.cn.r
                by_cases hlt : k < L.length
                · have i2 : (k : Int) < (L.length : Int) := by omega
                  have i3 : (0 : Int) ≤ (k : Int) := by omega
                  obtain ⟨x, hx⟩ : ∃ x, L[k] = x := ⟨_, rfl⟩
                  have hxz : x.size ≤ s.size := by rw [← hx]; exact hZ.out.2 _ (List.getElem_mem _)
                  have cl0 : wr.cell? ⟨bl, k, none⟩ = some (.string x) := by rw [← hx]; exact own_cell HH.out.1.ln.own k hlt
                  obtain ⟨⟨p, q, r⟩, hr0, _, _, _, hr⟩ := line_rule (x := x) (by have := HL.out.2.1 k hlt; rwa [show min k 5 = 5 by omega, hx] at this)
                  have HNX : Hid (AK L (A5 t O S' M3) (k + 1) = addRu A (p, q, r)) := hide (by rw [AK_next hk1 hlt, HA.out, hx]; exact hr _ kp1)
                  have HR0 := hide hr0
                  have k0 : wr.cell? ⟨g, 0, none⟩ = some (.string t) := cell_of HH.out.1.cf.blk rfl
                  have k1 : wr.cell? ⟨g, 1, none⟩ = some (.slice a1 A.O.length d1) := cell_of HH.out.1.cf.blk rfl
                  have k2 : wr.cell? ⟨g, 2, none⟩ = some (.slice a2 A.S.length d2) := cell_of HH.out.1.cf.blk rfl
                  have k3 : wr.cell? ⟨g, 3, none⟩ = some (.slice none 0 0) := cell_of HH.out.1.cf.blk rfl
                  have k4 : wr.cell? ⟨g, 4, none⟩ = some (.slice a3 A.R.length d3) := cell_of HH.out.1.cf.blk rfl
                  clear hx hr0 hr kp1
                  go_upto_region 26 with fail
                  refine wp_region_phase 5 #[true, true, true, true, true, false, false] (by kernel_rfl) (by kernel_rfl) ?_
                  simp only [List.take_succ_cons, List.take_zero, List.drop_succ_cons, List.drop_zero]
                  repeat (go_big_quiet_step (fail))
                  refine wpQuiet_nil ?_
                  intro wz hz
                  obtain ⟨nq, rfl⟩ := hz
                  have T41 := taken_any (w.heap.size + 2) (wr.drewN nq) t (.slice a1 A.O.length d1) (.slice a2 A.S.length d2) (.slice a3 A.R.length d3) A.O A.S A.R x p q r (hide (HH.out.1.drewN nq).cf.cn) (hide HH.out.1.bw) HR0 (by omega) (by omega) (by omega) (by omega)
                  go_wp2_with (go_at_call 41; refine T41.mono ?_; intro e wc htk; obtain ⟨vo', vs', vr', rfl, hc, ho, hn⟩ := htk; obtain ⟨y1, z1, rfl, _⟩ := rdO_of hc.o; obtain ⟨y2, z2, rfl, _⟩ := rdS_of hc.s; obtain ⟨y3, z3, rfl, _⟩ := rdR_of hc.r; have PT := hide ((HH.out.1.drewN nq).put2 hc ho hn); have hbx := PT.out.1; have m0 : wc.cell? ⟨g, 0, none⟩ = some (.string t) := cell_of hbx rfl; have m1 : wc.cell? ⟨g, 1, none⟩ = some (.slice a1 A.O.length d1) := cell_of hbx rfl; have m2 : wc.cell? ⟨g, 2, none⟩ = some (.slice a2 A.S.length d2) := cell_of hbx rfl; have m3 : wc.cell? ⟨g, 3, none⟩ = some (.slice none 0 0) := cell_of hbx rfl; have m4 : wc.cell? ⟨g, 4, none⟩ = some (.slice a3 A.R.length d3) := cell_of hbx rfl; have f0 : wc.frozen? ⟨g, 0, none⟩ = false := fz_of hbx; have f1 : wc.frozen? ⟨g, 1, none⟩ = false := fz_of hbx; have f2 : wc.frozen? ⟨g, 2, none⟩ = false := fz_of hbx; have f3 : wc.frozen? ⟨g, 3, none⟩ = false := fz_of hbx; have f4 : wc.frozen? ⟨g, 4, none⟩ = false := fz_of hbx; have HZ := hide (set5 wc g _ _ _ _ _ (.string t) (.slice y1 (sadd A.O (opR (p, q, r))).length z1) (.slice y2 (sadd (if q = ⟨#[]⟩ then A.S else sadd A.S q) r).length z2) (.slice none 0 0) (.slice y3 (sadd A.R (p, q, r)).length z3) 26 hbx); clear hbx hc ho hn)
                  have NX := PT.out.2 _ HZ.out.1 HZ.out.2
                  exact ⟨⟨k + 1, _, _, _, by omega, by omega, by go_num, hide (by rw [HNX.out]; exact ⟨NX.1, Row9.step (W := wr.drewN nq) ⟨HH.out.2.own, HH.out.2.ap⟩ NX.2⟩)⟩, by simp [intOf]; omega⟩
                · have i2 : ¬ (k : Int) < (L.length : Int) := by omega
                  obtain rfl : k = L.length := by omega
                  have HC : Hid (contF s = A) := hide (CT.out.trans HA.out)
                  have HKP := hide (KP.out L.length hk1 hk)
                  have PF0 := hide (PhF.begin HH.out.1 HH.out.2)
                  have hSz2 : A.S.length ≤ 4194302 := by omega
                  clear HH KP CT kO kS kR kp1
                  go_wp2_with fail
                  go_loopw [15] (fun i wr => ∃ (k : Nat) (vf : Value), k ≤ A.S.length ∧ i = .int .i64 k ∧ Hid (PhF w (w.heap.size + 2) g t (.slice (some ⟨b3, 0, none⟩) V3.length e3) V3 wr vf (.slice a1 A.O.length d1) (.slice a2 A.S.length d2) (.slice a3 A.R.length d3) A.O A.S A.R ((A.S.take k).filter (memS M3)))) (fun i _ => A.S.length - (intOf i).toNat)
                  case atStart => exact ⟨0, _, Nat.zero_le _, rfl, PF0⟩
                  case round =>
                    obtain ⟨k, vf, hk, rfl, HH⟩ := hrel
                    obtain ⟨F, hF⟩ : ∃ F, (A.S.take k).filter (memS M3) = F := ⟨_, rfl⟩
                    rw [hF] at HH
                    have hFl : F.length ≤ k := by
                      rw [← hF]
                      exact Nat.le_trans (List.length_filter_le _ _) (by rw [List.length_take]; omega)
                    have HF := hide hF
                    clear hF
                    obtain ⟨a4, d4, rfl, _⟩ := rdS_of HH.out.fn
                    have k2 : wr.cell? ⟨g, 2, none⟩ = some (.slice a2 A.S.length d2) := cell_of HH.out.cf.blk rfl
                    by_cases hlt : k < A.S.length
                    · have i2 : (k : Int) < (A.S.length : Int) := by omega
                      have i3 : (0 : Int) ≤ (k : Int) := by omega
                      obtain ⟨bs, ds, hbs⟩ := own_form HH.out.cf.cn.s (by omega)
                      cases hbs
                      obtain ⟨v, hv⟩ : ∃ v, A.S[k] = v := ⟨_, rfl⟩
                      have cs0 : wr.cell? ⟨bs, k, none⟩ = some (.string v) := by rw [← hv]; exact own_cell HH.out.cf.cn.s k hlt
                      have HSv : Hid (A.S[k]? = some v) := hide (by rw [List.getElem?_eq_getElem hlt, hv])
                      clear hv
                      obtain ⟨y, hy⟩ : ∃ y, plcF M3 v = y := ⟨_, rfl⟩
                      have hce : V3.length ≤ e3 := own_cap HH.out.en
                      have HM3l : Hid (V3.length = M3.length + 2) := hide (by rw [HE3.out]; simp)
                      have HR42 : Hid (∀ (o c n : Nat), (o = 2 ∨ M3 = []) → Calls Tryz.prog 42 #[.slice (some ⟨b3, o, none⟩) (V3.length - 2) c, .string v] (wr.drewN n) fun e w' => e = .returned (.int .i64 y) ∧ w' = wr.drewN n) := hide (by
                        intro o c n ho
                        have hM3l := HM3l.out
                        rw [show V3.length - 2 = M3.length by omega, ← hy]
                        refine rplace_any _ _ _ M3 v (hide ?_) (by omega)
                        intro j hj
                        rcases ho with rfl | ho
                        · refine ⟨b3, 2, rfl, ?_⟩
                          have hc := own_cell HH.out.en (2 + j) (by omega)
                          have he : V3[2 + j]'(by omega) = M3[j] := by
                            simp only [HE3.out, show 2 + j = j + 1 + 1 by omega, List.getElem_cons_succ]
                          rw [he] at hc
                          exact hc
                        · rw [ho] at hj; simp at hj)
                      have HY : Hid ((0 ≤ y ↔ memS M3 v = true) ∧ (M3 = [] → ¬ 0 ≤ y)) := hide (by
                        rw [memS_iff, ← hy]
                        refine ⟨plcF_neg, fun e q => ?_⟩
                        have := plcF_neg.1 q
                        rw [e] at this; cases this)
                      clear hy
                      go_upto_region 30 with fail
                      by_cases h3 : e3 = 2
                      · subst h3
                        have hM0 : M3 = [] := List.eq_nil_of_length_eq_zero (by have := HM3l.out; omega)
                        have hy0 : ¬ 0 ≤ y := HY.out.2 hM0
                        have HM0 := hide hM0
                        clear hM0
                        refine wp_region_phase 7 #[true, true, true, true, true, true, true, false, false] (by kernel_rfl) (by kernel_rfl) ?_
                        simp only [List.take_succ_cons, List.take_zero, List.drop_succ_cons, List.drop_zero]
                        repeat (go_big_quiet_step (fail))
                        refine wpQuiet_nil ?_
                        intro wz hz
                        obtain ⟨nq, rfl⟩ := hz
                        have T42 := HR42.out 0 0 nq (.inr HM0.out)
                        rw [show V3.length - 2 = 0 by omega] at T42
                        go_wp2_with (go_at_call 42; refine T42.mono ?_; rintro e wc ⟨rfl, rfl⟩)
                        exact ⟨⟨k + 1, _, by omega, by go_num, hide (by rw [filt_next HSv.out, HF.out, if_neg (fun q => by have := HY.out.1.2 q; omega), List.append_nil]; exact HH.out.drewN nq)⟩, by simp [intOf]; omega⟩
                      · by_cases hy0 : 0 ≤ y
                        · clear hce
                          refine wp_region_phase 7 #[true, true, true, true, true, true, true, false, false] (by kernel_rfl) (by kernel_rfl) ?_
                          simp only [List.take_succ_cons, List.take_zero, List.drop_succ_cons, List.drop_zero]
                          repeat (go_big_quiet_step (fail))
                          refine wpQuiet_nil ?_
                          intro wz hz
                          obtain ⟨nq, rfl⟩ := hz
                          have T42 := HR42.out 2 (e3 - 2) nq (.inl rfl)
                          go_upto_region 31 with (go_at_call 42; refine T42.mono ?_; rintro e wc ⟨rfl, rfl⟩)
                          have HN := hide (HH.out.drewN nq)
                          have cs1 : (wr.drewN nq).cell? ⟨bs, k, none⟩ = some (.string v) := cs0
                          obtain ⟨Z, hZq⟩ : ∃ Z, wr.drewN nq = Z := ⟨_, rfl⟩
                          rw [hZq] at HN cs1 ⊢
                          have t2 := tw_cell (show Z.cell? ⟨g, 2, none⟩ = some (.slice (some ⟨bs, 0, none⟩) A.S.length d2) from cell_of HN.out.cf.blk rfl) (.cells #[.string v] 9)
                          have t3 := tw_cell (show Z.cell? ⟨g, 3, none⟩ = some (.slice a4 F.length d4) from cell_of HN.out.cf.blk rfl) (.cells #[.string v] 9)
                          have t4 := tw_cell cs1 (.cells #[.string v] 9)
                          clear hZq T42 k2 cs0 HH
                          refine wp_region_alloc 7 #[true, true, true, true, true, true, true, true, false, false, false] _ (.cells #[.string v] 9) (by kernel_rfl) (by kernel_rfl) rfl ?_
                          simp only [List.take_succ_cons, List.take_zero, List.drop_succ_cons, List.drop_zero]
                          repeat (go_big_quiet_step (fail))
                          refine wpQuiet_nil ?_
                          refine ⟨rfl, .slice (some ⟨Z.heap.size, 0, none⟩) 1 1, fun d => ?_, fun d => ?_⟩
                          · go_simp
                          · obtain ⟨i9, hi9, hz90, hz91, hz92⟩ := info_parts info9
                            have HBz := hide HN.out.bw
                            refine wpList_append_own_at _ rfl _ _ _ rfl (w.heap.size + 2) 9 i9 _ 1 16 Tryz.underlying23 hi9 hz90 hz91 hz92 rfl (by omega) (.slice a4 F.length d4) F.length (strV F) rfl (owns_below (HN.out.drewN d).fn ((Below.refl _ (Z.drewN d)).alloc (Nat.le_refl _) _)) ⟨Z.heap.size, 0, none⟩ 1 1 [.string v] rfl rfl (cnew1 (Z.drewN d) v) (rf.strV_one [v]) (by unfold maxLen; omega) (by omega) (by have := HBz.out; simp; omega) ?_
                            intro v' wc ho hgr hnil hloc
                            have hG : Grw (Z.drewN d) wc (.slice a4 F.length d4) v' := ⟨(Only.ofBelow ((Below.refl _ (Z.drewN d)).alloc (Nat.le_refl _) _)).andNew (Only.grown hgr (fun k hk => hk)) (fun k _ hk => hk), by (rcases hloc with z | z; exact .inl z; exact .inr ⟨_, z, by simp⟩)⟩
                            have ho2 : wc.ownsRow (w.heap.size + 2) 9 1 v' (F ++ [v]).length (strV (F ++ [v])) := by simpa [strV] using ho
                            obtain ⟨a5, d5, rfl, _⟩ := rdS_of ho2
                            have hbx := (HN.out.drewN d).box hG
                            have NS := hide ((HN.out.drewN d).step hG ho2)
                            simp only [List.length_append, List.length_singleton] at NS
                            have kc : wc.cell? ⟨g, 3, none⟩ = some (.slice a4 F.length d4) := cell_of hbx rfl
                            have fc : wc.frozen? ⟨g, 3, none⟩ = false := fz_of hbx
                            clear hbx ho ho2 hgr hnil hloc hG
                            go_wp2_with fail
                            exact ⟨⟨k + 1, _, by omega, by go_num, hide (by rw [filt_next HSv.out, HF.out, if_pos (HY.out.1.1 hy0)]; exact NS.out)⟩, by simp [intOf]; omega⟩
                        · skip
                          clear hce
                          refine wp_region_phase 7 #[true, true, true, true, true, true, true, false, false] (by kernel_rfl) (by kernel_rfl) ?_
                          simp only [List.take_succ_cons, List.take_zero, List.drop_succ_cons, List.drop_zero]
                          repeat (go_big_quiet_step (fail))
                          refine wpQuiet_nil ?_
                          intro wz hz
                          obtain ⟨nq, rfl⟩ := hz
                          have T42 := HR42.out 2 (e3 - 2) nq (.inl rfl)
                          go_wp2_with (go_at_call 42; refine T42.mono ?_; rintro e wc ⟨rfl, rfl⟩)
                          exact ⟨⟨k + 1, _, by omega, by go_num, hide (by rw [filt_next HSv.out, HF.out, if_neg (fun q => by have := HY.out.1.2 q; omega), List.append_nil]; exact HH.out.drewN nq)⟩, by simp [intOf]; omega⟩
                    · have i2 : ¬ (k : Int) < (A.S.length : Int) := by omega
                      obtain rfl : k = A.S.length := by omega
                      rw [List.take_length] at HF
                      have k0 : wr.cell? ⟨g, 0, none⟩ = some (.string t) := cell_of HH.out.cf.blk rfl
                      have k1 : wr.cell? ⟨g, 1, none⟩ = some (.slice a1 A.O.length d1) := cell_of HH.out.cf.blk rfl
                      have k3 : wr.cell? ⟨g, 3, none⟩ = some (.slice a4 F.length d4) := cell_of HH.out.cf.blk rfl
                      have k4 : wr.cell? ⟨g, 4, none⟩ = some (.slice a3 A.R.length d3) := cell_of HH.out.cf.blk rfl
                      have o0 : wr.cell? ⟨w.heap.size, 0, none⟩ = some (.string ⟨#[]⟩) := cell_of HH.out.r0 rfl
                      have o1 : wr.cell? ⟨w.heap.size, 1, none⟩ = some (.slice none 0 0) := cell_of HH.out.r0 rfl
                      have o2 : wr.cell? ⟨w.heap.size, 2, none⟩ = some (.slice none 0 0) := cell_of HH.out.r0 rfl
                      have o3 : wr.cell? ⟨w.heap.size, 3, none⟩ = some (.slice none 0 0) := cell_of HH.out.r0 rfl
                      have o4 : wr.cell? ⟨w.heap.size, 4, none⟩ = some (.slice none 0 0) := cell_of HH.out.r0 rfl
                      have p0 : wr.cell? ⟨w.heap.size + 1, 0, none⟩ = some (.int .i64 0) := cell_of HH.out.r1 rfl
                      have p1 : wr.cell? ⟨w.heap.size + 1, 1, none⟩ = some (.int .i64 0) := cell_of HH.out.r1 rfl
                      have f0 : wr.frozen? ⟨w.heap.size, 0, none⟩ = false := fz_of HH.out.r0
                      have f1 : wr.frozen? ⟨w.heap.size, 1, none⟩ = false := fz_of HH.out.r0
                      have f2 : wr.frozen? ⟨w.heap.size, 2, none⟩ = false := fz_of HH.out.r0
                      have f3 : wr.frozen? ⟨w.heap.size, 3, none⟩ = false := fz_of HH.out.r0
                      have f4 : wr.frozen? ⟨w.heap.size, 4, none⟩ = false := fz_of HH.out.r0
                      have q0 : wr.frozen? ⟨w.heap.size + 1, 0, none⟩ = false := fz_of HH.out.r1
                      have q1 : wr.frozen? ⟨w.heap.size + 1, 1, none⟩ = false := fz_of HH.out.r1
                      have HS := hide (set57 wr w.heap.size (.string t) (.slice a1 A.O.length d1) (.slice a2 A.S.length d2) (.slice a4 F.length d4) (.slice a3 A.R.length d3) (.int .i64 0) (.int .i64 0) _ _ _ _ _ _ _ HH.out.r0 HH.out.r1)
                      go_wp2
                      obtain ⟨r0, r1, ro⟩ := HS.out
                      refine bodyPost_ret (results_cell2 (p := 2) (q := 3) (ty := 26) (uy := 29) rfl _ _ w.heap.size (w.heap.size + 1) 26 29 _ _ (0, 0) (0, 0) _ _ rfl rfl r0 r1 Tryz.underlying26 rfl (by kernel_rfl) Tryz.underlying29 rfl (by kernel_rfl)) rfl ?_
                      obtain ⟨_, et, eN, hpre, _⟩ := HKP.out
                      rw [HA.out] at et eN hpre
                      have hnd : A.S.Nodup := by have := (cont_av s he).1.sn; rwa [HC.out] at this
                      have hfn : namesAt (finN A) A.S = F := by
                        rw [fin_filter hnd (M := M3) (by rw [eN]; exact fin_N hpre hnd HM3.out)]
                        exact HF.out
                      have hfl : (finN A).length = F.length := by rw [← hfn]; simp [namesAt]
                      have hBw := HH.out.hB
                      have hro : ∀ k, w.heap.size + 2 ≤ k → ¬ (k = w.heap.size ∨ k = w.heap.size + 1) := fun k hk => by omega
                      rw [HC.out, hfn, hfl, et]
                      exact ⟨_, _, _, _, rfl, own_wide (row_only HH.out.cf.cn.o ro fun k z => hro k (HH.out.cf.cn.o.lt k z).1) (by omega), own_wide (row_only HH.out.cf.cn.s ro fun k z => hro k (HH.out.cf.cn.s.lt k z).1) (by omega), own_wide (row_only HH.out.fn ro fun k z => hro k (HH.out.fn.lt k z).1) (by omega), own_wide (row_only HH.out.cf.cn.r ro fun k z => hro k (HH.out.cf.cn.r.lt k z).1) (by omega), HH.out.dw.trans (ro.toBelow HH.out.dw.size fun k z => by omega)⟩
end Go.Proofs.YtmagchclmmphaaaGreatDoor
namespace Go.Proofs.YtmagchclmmphaaaGreatDoor
open Go.RowKit Go.Maps
attribute [local go_sem] Oper.semAt_some

theorem rparse_read (s : ByteArray) (w : World) (hsz : s.size ≤ 1048576) (he : errF s = 0) :
    Calls Tryz.prog 18 #[.string s] w fun e w' => ∃ ao co asx cs an cn ar cr, e = .returned (.tuple #[.agg #[.string (tT s), .slice ao (oT s).length co, .slice asx (sT s).length cs, .slice an (fT s).length cn, .slice ar (rT s).length cr], .agg #[.int .i64 0, .int .i64 0]]) ∧ RdO w' ao (oT s) ∧ ReadsS w' asx (sT s) ∧ ReadsS w' an (fT s) ∧ RdRu w' ar (rT s) ∧ Below w.heap.size w w' := by
  refine (rparse_ok s w hsz he).mono ?_
  rintro e w1 ⟨vo, vs, vn, vr, rfl, ro, rs, rn, rr, d1⟩
  have hf : (finN (contF s)).length = (namesAt (finN (contF s)) (contF s).S).length := by simp [namesAt]
  rw [hf] at rn
  obtain ⟨ao, co, rfl, qo⟩ := rdO_of ro
  obtain ⟨asx, cs, rfl, qs⟩ := rdS_of rs
  obtain ⟨an, cn, rfl, qn⟩ := rdS_of rn
  obtain ⟨ar, cr, rfl, qr⟩ := rdR_of rr
  refine ⟨ao, co, asx, cs, an, cn, ar, cr, ?_, qo, qs, qn, qr, d1⟩
  show Ending.returned (.tuple #[.agg #[.string (tT s), .slice ao (contF s).O.length co, .slice asx (sT s).length cs, .slice an (fT s).length cn, .slice ar (rT s).length cr], .agg #[.int .i64 0, .int .i64 0]]) = _
  rw [show (oT s).length = (contF s).O.length by unfold oT; rw [List.length_map]]

theorem val_none : valF ⟨#[]⟩ [] [] [] [] = false := by rfl
set_option maxRecDepth 100000 in
set_option maxHeartbeats 4000000 in
theorem fparses_any (s : ByteArray) (w : World) (hT : Hid (RowsAt w ∧ BytesAt w ∧ 1 < w.heap.size)) (hs : s.size ≤ 1048576) :
    Calls Tryz.prog 6 #[.string s] w fun e w' => e = .returned (.bool true) ∧ Below w.heap.size w w' := by
  have hT1 := hide (fun (W : World) (d : Below w.heap.size w W) => show RowsAt W ∧ BytesAt W ∧ 1 < W.heap.size from
    ⟨hT.out.1.below d (by have := hT.out.2.2; omega), hT.out.2.1.below d hT.out.2.2, Nat.lt_of_lt_of_le hT.out.2.2 d.size⟩)
  rcases err_two s with he | he
  · have P1 := parse_read s w hT (by omega) he
    have HL := hide (len_T s (by omega) he)
    have hl : (oT s).length ≤ 4194304 ∧ (sT s).length ≤ 4194304 ∧ (fT s).length ≤ 4194304 ∧ (rT s).length ≤ 4194304 := by obtain ⟨a, b, c, d⟩ := HL.out; exact ⟨by omega, by omega, by omega, by omega⟩
    have HV := hide (val_T s he)
    have HW := hide (wok_of (val_T s he) hl.1 hl.2.1 hl.2.2.1 hl.2.2.2)
    go_enter Tryz.func6, Tryz.ntmps6
    go_wp2_with fail
    refine P1.mono ?_
    rintro e w1 ⟨ao, co, asx, cs, an, cn, ar, cr, rfl, qo, qs, qn, qr, d1⟩
    have HQ := hide (And.intro qo (And.intro qs (And.intro qn qr)))
    have HD1 := hide d1
    clear qo qs qn qr d1 P1
    have hz : (w1.alloc (.cells #[.string ⟨#[]⟩, .slice none 0 0, .slice none 0 0, .slice none 0 0, .slice none 0 0] 26)).alloc (.cells #[.int .i64 0, .int .i64 0] 29) = two31 w1 := rfl
    obtain ⟨⟨o0, o1, o2, o3, o4⟩, ⟨p0, p1⟩, ⟨f0, f1, f2, f3, f4⟩, g0, g1⟩ := two31_cells w1
    have HS := hide (two31_set w1 (.string (tT s)) (.slice ao (oT s).length co) (.slice asx (sT s).length cs) (.slice an (fT s).length cn) (.slice ar (rT s).length cr) (.int .i64 0) (.int .i64 0))
    go_wp2_with fail
    obtain ⟨W3, hW⟩ : ∃ W, (((((((two31 w1).setCell ⟨w1.heap.size, 0, none⟩ (.string (tT s))).setCell ⟨w1.heap.size, 1, none⟩ (.slice ao (oT s).length co)).setCell ⟨w1.heap.size, 2, none⟩ (.slice asx (sT s).length cs)).setCell ⟨w1.heap.size, 3, none⟩ (.slice an (fT s).length cn)).setCell ⟨w1.heap.size, 4, none⟩ (.slice ar (rT s).length cr)).setCell ⟨w1.heap.size + 1, 0, none⟩ (.int .i64 0)).setCell ⟨w1.heap.size + 1, 1, none⟩ (.int .i64 0) = W := ⟨_, rfl⟩
    rw [hW]
    have HSW3 : Hid (W3.heap[w1.heap.size]? = some (.cells #[.string (tT s), .slice ao (oT s).length co, .slice asx (sT s).length cs, .slice an (fT s).length cn, .slice ar (rT s).length cr] 26 (0, 0)) ∧ W3.heap[w1.heap.size + 1]? = some (.cells #[.int .i64 0, .int .i64 0] 29 (0, 0)) ∧ Below w1.heap.size w1 W3 ∧ w1.heap.size + 2 ≤ W3.heap.size) := hide (by rw [← hW]; exact HS.out)
    clear HS hW hz o0 o1 o2 o3 o4 p0 p1 f0 f1 f2 f3 f4 g0 g1
    have P2 := rparse_read s W3 hs he
    have HD3 := hide (HD1.out.trans (HSW3.out.2.2.1.mono HD1.out.size))
    refine P2.mono ?_
    rintro e w4 ⟨bo, eo, bs, es, bn, en, br, er, rfl, qo, qs, qn, qr, d4⟩
    have HR := hide (And.intro qo (And.intro qs (And.intro qn qr)))
    have HD4 := hide d4
    clear qo qs qn qr d4 P2
    have hz : (w4.alloc (.cells #[.string ⟨#[]⟩, .slice none 0 0, .slice none 0 0, .slice none 0 0, .slice none 0 0] 26)).alloc (.cells #[.int .i64 0, .int .i64 0] 29) = two31 w4 := rfl
    obtain ⟨⟨o0, o1, o2, o3, o4⟩, ⟨p0, p1⟩, ⟨f0, f1, f2, f3, f4⟩, g0, g1⟩ := two31_cells w4
    have HS := hide (two31_set w4 (.string (tT s)) (.slice bo (oT s).length eo) (.slice bs (sT s).length es) (.slice bn (fT s).length en) (.slice br (rT s).length er) (.int .i64 0) (.int .i64 0))
    go_upto_region 3 with fail
    obtain ⟨W5, hW⟩ : ∃ W, (((((((two31 w4).setCell ⟨w4.heap.size, 0, none⟩ (.string (tT s))).setCell ⟨w4.heap.size, 1, none⟩ (.slice bo (oT s).length eo)).setCell ⟨w4.heap.size, 2, none⟩ (.slice bs (sT s).length es)).setCell ⟨w4.heap.size, 3, none⟩ (.slice bn (fT s).length en)).setCell ⟨w4.heap.size, 4, none⟩ (.slice br (rT s).length er)).setCell ⟨w4.heap.size + 1, 0, none⟩ (.int .i64 0)).setCell ⟨w4.heap.size + 1, 1, none⟩ (.int .i64 0) = W := ⟨_, rfl⟩
    rw [hW]
    have HSW5 : Hid (W5.heap[w4.heap.size]? = some (.cells #[.string (tT s), .slice bo (oT s).length eo, .slice bs (sT s).length es, .slice bn (fT s).length en, .slice br (rT s).length er] 26 (0, 0)) ∧ W5.heap[w4.heap.size + 1]? = some (.cells #[.int .i64 0, .int .i64 0] 29 (0, 0)) ∧ Below w4.heap.size w4 W5 ∧ w4.heap.size + 2 ≤ W5.heap.size) := hide (by rw [← hW]; exact HS.out)
    clear HS hW hz o0 o1 o2 o3 o4 p0 p1 f0 f1 f2 f3 f4 g0 g1
    have D45 := hide (HD4.out.trans (HSW5.out.2.2.1.mono HD4.out.size))
    have D15 := hide (HSW3.out.2.2.1.trans (D45.out.mono HSW3.out.2.2.1.size))
    have DW5 := hide (HD1.out.trans (D15.out.mono HD1.out.size))
    have HB := hide (And.intro ((D45.out.block _ (by have := HSW3.out.2.2.2; omega)).trans HSW3.out.1) ((D45.out.block _ (by have := HSW3.out.2.2.2; omega)).trans HSW3.out.2.1))
    have HC := hide (And.intro HSW5.out.1 HSW5.out.2.1)
    have c0 : W5.cell? ⟨w1.heap.size, 0, none⟩ = some (.string (tT s)) := cell_of HB.out.1 rfl
    have c1 : W5.cell? ⟨w1.heap.size, 1, none⟩ = some (.slice ao (oT s).length co) := cell_of HB.out.1 rfl
    have c2 : W5.cell? ⟨w1.heap.size, 2, none⟩ = some (.slice asx (sT s).length cs) := cell_of HB.out.1 rfl
    have c3 : W5.cell? ⟨w1.heap.size, 3, none⟩ = some (.slice an (fT s).length cn) := cell_of HB.out.1 rfl
    have c4 : W5.cell? ⟨w1.heap.size, 4, none⟩ = some (.slice ar (rT s).length cr) := cell_of HB.out.1 rfl
    have ce0 : W5.cell? ⟨w1.heap.size + 1, 0, none⟩ = some (.int .i64 0) := cell_of HB.out.2 rfl
    have ce1 : W5.cell? ⟨w1.heap.size + 1, 1, none⟩ = some (.int .i64 0) := cell_of HB.out.2 rfl
    have y0 : W5.cell? ⟨w4.heap.size, 0, none⟩ = some (.string (tT s)) := cell_of HC.out.1 rfl
    have y1 : W5.cell? ⟨w4.heap.size, 1, none⟩ = some (.slice bo (oT s).length eo) := cell_of HC.out.1 rfl
    have y2 : W5.cell? ⟨w4.heap.size, 2, none⟩ = some (.slice bs (sT s).length es) := cell_of HC.out.1 rfl
    have y3 : W5.cell? ⟨w4.heap.size, 3, none⟩ = some (.slice bn (fT s).length en) := cell_of HC.out.1 rfl
    have y4 : W5.cell? ⟨w4.heap.size, 4, none⟩ = some (.slice br (rT s).length er) := cell_of HC.out.1 rfl
    have ye0 : W5.cell? ⟨w4.heap.size + 1, 0, none⟩ = some (.int .i64 0) := cell_of HC.out.2 rfl
    have ye1 : W5.cell? ⟨w4.heap.size + 1, 1, none⟩ = some (.int .i64 0) := cell_of HC.out.2 rfl
    have SE := same_eq W5 (tT s) (oT s) (sT s) (fT s) (rT s) ao asx an ar bo bs bn br co cs cn cr eo es en er (hide ⟨HQ.out.1.on D15.out, HR.out.1.on HSW5.out.2.2.1⟩) (hide ⟨HQ.out.2.1.below D15.out, HR.out.2.1.below HSW5.out.2.2.1⟩) (hide ⟨HQ.out.2.2.1.below D15.out, HR.out.2.2.1.below HSW5.out.2.2.1⟩) (hide ⟨HQ.out.2.2.2.on D15.out, HR.out.2.2.2.on HSW5.out.2.2.1⟩) hl.1 hl.2.1 hl.2.2.1 hl.2.2.2
    go_upto_region 5 with (go_at_call 9; refine SE.mono ?_; rintro e w9 ⟨rfl, d9⟩)
    have DW9 := hide (DW5.out.trans (d9.mono DW5.out.size))
    have D19 := hide (D15.out.trans (d9.mono D15.out.size))
    have HB9 := hide (And.intro ((d9.block _ (by have := HSW5.out.2.2.2; have := HD4.out.size; have := HSW3.out.2.2.2; omega)).trans HB.out.1) ((d9.block _ (by have := HSW5.out.2.2.2; have := HD4.out.size; have := HSW3.out.2.2.2; omega)).trans HB.out.2))
    have HC9 := hide ((d9.block _ (by have := HSW5.out.2.2.2; omega)).trans HC.out.2)
    clear SE c0 c1 c2 c3 c4 ce0 ce1 y0 y1 y2 y3 y4 ye0 ye1 d9
    have c0 : w9.cell? ⟨w1.heap.size, 0, none⟩ = some (.string (tT s)) := cell_of HB9.out.1 rfl
    have c1 : w9.cell? ⟨w1.heap.size, 1, none⟩ = some (.slice ao (oT s).length co) := cell_of HB9.out.1 rfl
    have c2 : w9.cell? ⟨w1.heap.size, 2, none⟩ = some (.slice asx (sT s).length cs) := cell_of HB9.out.1 rfl
    have c3 : w9.cell? ⟨w1.heap.size, 3, none⟩ = some (.slice an (fT s).length cn) := cell_of HB9.out.1 rfl
    have c4 : w9.cell? ⟨w1.heap.size, 4, none⟩ = some (.slice ar (rT s).length cr) := cell_of HB9.out.1 rfl
    have ye0 : w9.cell? ⟨w4.heap.size + 1, 0, none⟩ = some (.int .i64 0) := cell_of HC9.out rfl
    have V1 := valid_file w9 (tT s) ao asx an ar co cs cn cr (oT s) (sT s) (fT s) (rT s) (hide (hT1.out w9 DW9.out).2) (hide (HQ.out.1.on D19.out)) (hide (HQ.out.2.1.below D19.out)) (hide (HQ.out.2.2.1.below D19.out)) (hide (HQ.out.2.2.2.on D19.out)) (hide ⟨fun x hx => show x.size ≤ _ by have := HW.out.f x hx; omega, fun x hx => by obtain ⟨a, b, c⟩ := HW.out.r x hx; exact ⟨by omega, by omega, by omega⟩⟩) hl.1 hl.2.1 hl.2.2.1 hl.2.2.2
    rw [HV.out] at V1
    go_upto_region 6 with (go_at_call 17; refine V1.mono ?_; rintro e w10 ⟨rfl, d10⟩)
    have DW10 := hide (DW9.out.trans (d10.mono DW9.out.size))
    have ye1 : w10.cell? ⟨w4.heap.size + 1, 0, none⟩ = some (.int .i64 0) := (d10.cell (p := ⟨w4.heap.size + 1, 0, none⟩) (World.block_lt_of_cell? _ _ ye0)).trans ye0
    clear V1 c0 c1 c2 c3 c4 ye0 d10
    go_wp2_with (go_at_call 10; refine (least_any w10 (hide (hT1.out w10 DW10.out))).mono ?_; rintro e w11 ⟨rfl, d11⟩)
    go_ret
    exact ⟨by simp, DW10.out.trans (d11.mono DW10.out.size)⟩
  · have P1 := parse_bad s w (hide ⟨hT.out.1, by have := hT.out.2.2; omega⟩) (by omega) he
    obtain ⟨n, hn⟩ : ∃ n, lenF s = n := ⟨_, rfl⟩
    have HN := hide hn
    rw [hn] at P1
    clear hn
    go_enter Tryz.func6, Tryz.ntmps6
    go_wp2_with fail
    refine P1.mono ?_
    rintro e w1 ⟨rfl, d1⟩
    have HD1 := hide d1
    clear d1 P1
    have hz : (w1.alloc (.cells #[.string ⟨#[]⟩, .slice none 0 0, .slice none 0 0, .slice none 0 0, .slice none 0 0] 26)).alloc (.cells #[.int .i64 0, .int .i64 0] 29) = two31 w1 := rfl
    obtain ⟨⟨o0, o1, o2, o3, o4⟩, ⟨p0, p1⟩, ⟨f0, f1, f2, f3, f4⟩, g0, g1⟩ := two31_cells w1
    have HS := hide (two31_set w1 (.string ⟨#[]⟩) (.slice none 0 0) (.slice none 0 0) (.slice none 0 0) (.slice none 0 0) (.int .i64 30) (.int .i64 (n : Nat)))
    go_wp2_with fail
    obtain ⟨W3, hW⟩ : ∃ W, (((((((two31 w1).setCell ⟨w1.heap.size, 0, none⟩ (.string ⟨#[]⟩)).setCell ⟨w1.heap.size, 1, none⟩ (.slice none 0 0)).setCell ⟨w1.heap.size, 2, none⟩ (.slice none 0 0)).setCell ⟨w1.heap.size, 3, none⟩ (.slice none 0 0)).setCell ⟨w1.heap.size, 4, none⟩ (.slice none 0 0)).setCell ⟨w1.heap.size + 1, 0, none⟩ (.int .i64 30)).setCell ⟨w1.heap.size + 1, 1, none⟩ (.int .i64 (n : Nat)) = W := ⟨_, rfl⟩
    rw [hW]
    have HSW3 : Hid (W3.heap[w1.heap.size]? = some (.cells #[.string ⟨#[]⟩, .slice none 0 0, .slice none 0 0, .slice none 0 0, .slice none 0 0] 26 (0, 0)) ∧ W3.heap[w1.heap.size + 1]? = some (.cells #[.int .i64 30, .int .i64 (n : Nat)] 29 (0, 0)) ∧ Below w1.heap.size w1 W3 ∧ w1.heap.size + 2 ≤ W3.heap.size) := hide (by rw [← hW]; exact HS.out)
    clear HS hW hz o0 o1 o2 o3 o4 p0 p1 f0 f1 f2 f3 f4 g0 g1
    have P2 := rparse_bad s W3 (by omega) he
    rw [HN.out] at P2
    have HD3 := hide (HD1.out.trans (HSW3.out.2.2.1.mono HD1.out.size))
    refine P2.mono ?_
    rintro e w4 ⟨rfl, d4⟩
    have HD4 := hide d4
    clear d4 P2
    have hz : (w4.alloc (.cells #[.string ⟨#[]⟩, .slice none 0 0, .slice none 0 0, .slice none 0 0, .slice none 0 0] 26)).alloc (.cells #[.int .i64 0, .int .i64 0] 29) = two31 w4 := rfl
    obtain ⟨⟨o0, o1, o2, o3, o4⟩, ⟨p0, p1⟩, ⟨f0, f1, f2, f3, f4⟩, g0, g1⟩ := two31_cells w4
    have HS := hide (two31_set w4 (.string ⟨#[]⟩) (.slice none 0 0) (.slice none 0 0) (.slice none 0 0) (.slice none 0 0) (.int .i64 30) (.int .i64 (n : Nat)))
    go_upto_region 3 with fail
    obtain ⟨W5, hW⟩ : ∃ W, (((((((two31 w4).setCell ⟨w4.heap.size, 0, none⟩ (.string ⟨#[]⟩)).setCell ⟨w4.heap.size, 1, none⟩ (.slice none 0 0)).setCell ⟨w4.heap.size, 2, none⟩ (.slice none 0 0)).setCell ⟨w4.heap.size, 3, none⟩ (.slice none 0 0)).setCell ⟨w4.heap.size, 4, none⟩ (.slice none 0 0)).setCell ⟨w4.heap.size + 1, 0, none⟩ (.int .i64 30)).setCell ⟨w4.heap.size + 1, 1, none⟩ (.int .i64 (n : Nat)) = W := ⟨_, rfl⟩
    rw [hW]
    have HSW5 : Hid (W5.heap[w4.heap.size]? = some (.cells #[.string ⟨#[]⟩, .slice none 0 0, .slice none 0 0, .slice none 0 0, .slice none 0 0] 26 (0, 0)) ∧ W5.heap[w4.heap.size + 1]? = some (.cells #[.int .i64 30, .int .i64 (n : Nat)] 29 (0, 0)) ∧ Below w4.heap.size w4 W5 ∧ w4.heap.size + 2 ≤ W5.heap.size) := hide (by rw [← hW]; exact HS.out)
    clear HS hW hz o0 o1 o2 o3 o4 p0 p1 f0 f1 f2 f3 f4 g0 g1
    have D45 := hide (HD4.out.trans (HSW5.out.2.2.1.mono HD4.out.size))
    have D15 := hide (HSW3.out.2.2.1.trans (D45.out.mono HSW3.out.2.2.1.size))
    have DW5 := hide (HD1.out.trans (D15.out.mono HD1.out.size))
    have HB := hide (And.intro ((D45.out.block _ (by have := HSW3.out.2.2.2; omega)).trans HSW3.out.1) ((D45.out.block _ (by have := HSW3.out.2.2.2; omega)).trans HSW3.out.2.1))
    have HC := hide (And.intro HSW5.out.1 HSW5.out.2.1)
    have c0 : W5.cell? ⟨w1.heap.size, 0, none⟩ = some (.string ⟨#[]⟩) := cell_of HB.out.1 rfl
    have c1 : W5.cell? ⟨w1.heap.size, 1, none⟩ = some (.slice none 0 0) := cell_of HB.out.1 rfl
    have c2 : W5.cell? ⟨w1.heap.size, 2, none⟩ = some (.slice none 0 0) := cell_of HB.out.1 rfl
    have c3 : W5.cell? ⟨w1.heap.size, 3, none⟩ = some (.slice none 0 0) := cell_of HB.out.1 rfl
    have c4 : W5.cell? ⟨w1.heap.size, 4, none⟩ = some (.slice none 0 0) := cell_of HB.out.1 rfl
    have ce0 : W5.cell? ⟨w1.heap.size + 1, 0, none⟩ = some (.int .i64 30) := cell_of HB.out.2 rfl
    have ce1 : W5.cell? ⟨w1.heap.size + 1, 1, none⟩ = some (.int .i64 (n : Nat)) := cell_of HB.out.2 rfl
    have y0 : W5.cell? ⟨w4.heap.size, 0, none⟩ = some (.string ⟨#[]⟩) := cell_of HC.out.1 rfl
    have y1 : W5.cell? ⟨w4.heap.size, 1, none⟩ = some (.slice none 0 0) := cell_of HC.out.1 rfl
    have y2 : W5.cell? ⟨w4.heap.size, 2, none⟩ = some (.slice none 0 0) := cell_of HC.out.1 rfl
    have y3 : W5.cell? ⟨w4.heap.size, 3, none⟩ = some (.slice none 0 0) := cell_of HC.out.1 rfl
    have y4 : W5.cell? ⟨w4.heap.size, 4, none⟩ = some (.slice none 0 0) := cell_of HC.out.1 rfl
    have ye0 : W5.cell? ⟨w4.heap.size + 1, 0, none⟩ = some (.int .i64 30) := cell_of HC.out.2 rfl
    have ye1 : W5.cell? ⟨w4.heap.size + 1, 1, none⟩ = some (.int .i64 (n : Nat)) := cell_of HC.out.2 rfl
    have none0 : ReadsS W5 none [] := fun k hk => by simp at hk
    have SE := same_eq W5 ⟨#[]⟩ [] [] [] [] none none none none none none none none 0 0 0 0 0 0 0 0 (hide ⟨fun k hk => by simp at hk, fun k hk => by simp at hk⟩) (hide ⟨none0, none0⟩) (hide ⟨none0, none0⟩) (hide ⟨fun k hk => by simp at hk, fun k hk => by simp at hk⟩) (by simp) (by simp) (by simp) (by simp)
    simp only [List.length_nil] at SE
    clear none0
    go_upto_region 5 with (go_at_call 9; refine SE.mono ?_; rintro e w9 ⟨rfl, d9⟩)
    have DW9 := hide (DW5.out.trans (d9.mono DW5.out.size))
    have D19 := hide (D15.out.trans (d9.mono D15.out.size))
    have HB9 := hide (And.intro ((d9.block _ (by have := HSW5.out.2.2.2; have := HD4.out.size; have := HSW3.out.2.2.2; omega)).trans HB.out.1) ((d9.block _ (by have := HSW5.out.2.2.2; have := HD4.out.size; have := HSW3.out.2.2.2; omega)).trans HB.out.2))
    have HC9 := hide ((d9.block _ (by have := HSW5.out.2.2.2; omega)).trans HC.out.2)
    clear SE c0 c1 c2 c3 c4 ce0 ce1 y0 y1 y2 y3 y4 ye0 ye1 d9
    have c0 : w9.cell? ⟨w1.heap.size, 0, none⟩ = some (.string ⟨#[]⟩) := cell_of HB9.out.1 rfl
    have c1 : w9.cell? ⟨w1.heap.size, 1, none⟩ = some (.slice none 0 0) := cell_of HB9.out.1 rfl
    have c2 : w9.cell? ⟨w1.heap.size, 2, none⟩ = some (.slice none 0 0) := cell_of HB9.out.1 rfl
    have c3 : w9.cell? ⟨w1.heap.size, 3, none⟩ = some (.slice none 0 0) := cell_of HB9.out.1 rfl
    have c4 : w9.cell? ⟨w1.heap.size, 4, none⟩ = some (.slice none 0 0) := cell_of HB9.out.1 rfl
    have ye0 : w9.cell? ⟨w4.heap.size + 1, 0, none⟩ = some (.int .i64 30) := cell_of HC9.out rfl
    have V1 := valid_file w9 ⟨#[]⟩ none none none none 0 0 0 0 [] [] [] [] (hide (hT1.out w9 DW9.out).2) (hide (fun k hk => by simp at hk)) (hide (fun k hk => by simp at hk)) (hide (fun k hk => by simp at hk)) (hide (fun k hk => by simp at hk)) (hide ⟨fun x hx => by simp at hx, fun x hx => by simp at hx⟩) (by simp) (by simp) (by simp) (by simp)
    rw [val_none] at V1
    simp only [List.length_nil] at V1
    go_upto_region 6 with (go_at_call 17; refine V1.mono ?_; rintro e w10 ⟨rfl, d10⟩)
    have DW10 := hide (DW9.out.trans (d10.mono DW9.out.size))
    have ye1 : w10.cell? ⟨w4.heap.size + 1, 0, none⟩ = some (.int .i64 30) := (d10.cell (p := ⟨w4.heap.size + 1, 0, none⟩) (World.block_lt_of_cell? _ _ ye0)).trans ye0
    clear V1 c0 c1 c2 c3 c4 ye0 d10
    go_wp2_with (go_at_call 10; refine (least_any w10 (hide (hT1.out w10 DW10.out))).mono ?_; rintro e w11 ⟨rfl, d11⟩)
    go_ret
    exact ⟨by simp, DW10.out.trans (d11.mono DW10.out.size)⟩
end Go.Proofs.YtmagchclmmphaaaGreatDoor
