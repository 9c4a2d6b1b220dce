import Derived.Test.YtchoopnjckcohaaGreatDoorQae
import Derived.Test.YtchoopnjckcohaaGreatDoorQad
namespace Go.Proofs.YtchoopnjckcohaaGreatDoor
open Go.RowKit Go.Maps
attribute [local go_sem] Oper.semAt_some

/-! ### The search itself -/
def natL (T : List Nat) : List Int := T.map fun (q : Nat) => (q : Int)
theorem natL_len (T : List Nat) : (natL T).length = T.length := by simp [natL]
theorem natL_snoc (T : List Nat) (p : Nat) : natL (T ++ [p]) = natL T ++ [(p : Int)] := by simp [natL]
/-- How many have no length yet. -/
def unl (N : Nat) (len : Nat → Int) : Nat := (List.range N).countP fun q => decide (len q = -1)
theorem countP_upd {p : Nat → Bool} {r : Nat} : ∀ (l : List Nat), l.Nodup → r ∈ l → p r = true → (l.countP fun q => decide (q ≠ r) && p q) + 1 = l.countP p
  | [], _, hr, _ => by cases hr
  | a :: l, hn, hr, hp => by
    obtain ⟨h1, h2⟩ := List.nodup_cons.1 hn
    rw [List.countP_cons, List.countP_cons]
    by_cases e : a = r
    · subst e
      have e2 : (l.countP fun q => decide (q ≠ a) && p q) = l.countP p := by
        apply List.countP_congr
        intro q hq
        have : q ≠ a := fun e => h1 (e ▸ hq)
        simp [this]
      rw [e2]
      simp [hp]
    · have := countP_upd l h2 ((List.mem_cons.1 hr).resolve_left (Ne.symm e)) hp
      simp [e] at this ⊢
      omega
theorem unl_put {N r : Nat} {len : Nat → Int} {n : Int} (hr : r < N) (h : len r = -1) (hn : 0 ≤ n) : unl N (putL len r n) + 1 = unl N len := by
  unfold unl
  rw [← countP_upd (r := r) (p := fun q => decide (len q = -1)) (List.range N) List.nodup_range (by simp [hr]) (by simp [h])]
  congr 1
  apply List.countP_congr
  intro q _
  by_cases e : q = r
  · subst e
    rw [putL_same]
    simp
    omega
  · rw [putL_ne _ _ e]
    simp [e]
def isNone (v : Option Value) : Bool := match v with | some (.int _ n) => decide (n = -1) | _ => false
def cntOf (v : Option Value) : Nat := match v with | some (.int _ n) => n.toNat | _ => 0
def okOf (v : Value) : Nat := match v with | .bool true => 1 | _ => 0
/-- What a round makes less. -/
def muW (w : World) (b gl N : Nat) (ok : Value) : Nat := ((List.range N).countP fun q => isNone (w.cell? ⟨gl, q, none⟩)) + cntOf (w.cell? ⟨b, 3, none⟩) + okOf ok
theorem muW_at {B : Nat} {w : World} {b : Nat} {al : Value} {gl N m f : Nat} {ao : Option Addr} {T : List Nat} {len : Nat → Int} (h : SrAt B w b al gl N m f ao (natL T) len) (ok : Bool) : muW w b gl N (.bool ok) = unl N len + T.length + (if ok then 1 else 0) := by
  have c3 : w.cell? ⟨b, 3, none⟩ = some (.int .i64 (natL T).length) := h.ring.box.at 3 (by omega)
  unfold muW unl
  rw [c3, natL_len]
  congr 1
  · congr 1
    · apply List.countP_congr
      intro q hq
      rw [h.row.at q (by simpa using hq)]
      simp [isNone]
  · cases ok <;> rfl
/-- The edges by their near ends. -/
def GrAt (w : World) (H N : Nat) (row : Nat → List EdT) : Prop :=
  ∃ F, Mrw w H 23 N F N ∧ ∀ q, q < N → ∃ ao c, F q = .slice ao (row q).length c ∧ RdE w ao (row q) ∧ ∀ g o, ao = some ⟨g, o, none⟩ → ∃ cs fr, w.heap[g]? = some (.cells cs 61 fr)
theorem cell_same {w w' : World} {g : Nat} (h : w'.heap[g]? = w.heap[g]?) (o : Nat) : w'.cell? ⟨g, o, none⟩ = w.cell? ⟨g, o, none⟩ := by
  simp [World.cell?, h]
theorem rd_fr {B : Nat} {w w' : World} {ao : Option Addr} {L : List EdT} (d : SFr B w w') (hr : RdE w ao L) (ht : ∀ g o, ao = some ⟨g, o, none⟩ → ∃ cs fr, w.heap[g]? = some (.cells cs 61 fr)) : RdE w' ao L := fun j hj => by
  obtain ⟨g, o, e, r1, r2, r3⟩ := hr j hj
  obtain ⟨cs, fr, e2⟩ := ht g o e
  have := d.block g (Array.getElem?_eq_some_iff.1 e2).1 (.inr ⟨_, _, _, e2, by decide, by decide⟩)
  exact ⟨g, o, e, by rw [cell_same this]; exact r1, by rw [cell_same this]; exact r2, by rw [cell_same this]; exact r3⟩
/-- Within a round: so many edges of the state are gone along. -/
def InI (B : Nat) (w : World) (b fn gl N K : Nat) (S : Nat → Prop) (E : Nat → Nat → Prop) (p : Nat) (M : Nat) (L : List EdT) (bk : Bool) (i : Nat) (wr : World) : Prop :=
  ∃ (T : List Nat) (len : Nat → Int) (m f : Nat) (ao : Option Addr), SrAt B wr b (.func (.func fn) #[] #[]) gl N m f ao (natL T) len ∧ Bfs N S E (p :: T) len ∧ m ≤ K ∧ unl N len + T.length = M ∧ (∀ q, q < N → len q + (unl N len : Int) + 1 ≤ N) ∧ SFr B w wr ∧
    ∀ e ∈ L.take i, ∃ r : Nat, (ends bk e).2 = (r : Int) ∧ 0 ≤ len r ∧ len r ≤ len p + 1
theorem GrAt.fr {B : Nat} {w w' : World} {H N : Nat} {row : Nat → List EdT} (h : GrAt w H N row) (d : SFr B w w') : GrAt w' H N row := by
  obtain ⟨F, hM, hF⟩ := h
  refine ⟨F, d.mrw hM (by decide) (by decide), fun q hq => ?_⟩
  obtain ⟨ao, c, e, hr, ht⟩ := hF q hq
  have hk : ∀ g o, ao = some ⟨g, o, none⟩ → w'.heap[g]? = w.heap[g]? := fun g o e => by
    obtain ⟨cs, fr, e2⟩ := ht g o e
    exact d.block g (Array.getElem?_eq_some_iff.1 e2).1 (.inr ⟨_, _, _, e2, by decide, by decide⟩)
  refine ⟨ao, c, e, fun j hj => ?_, fun g o e => ?_⟩
  · obtain ⟨g, o, e, r1, r2, r3⟩ := hr j hj
    have := hk g o e
    exact ⟨g, o, e, by rw [cell_same this]; exact r1, by rw [cell_same this]; exact r2, by rw [cell_same this]; exact r3⟩
  · rw [hk g o e]; exact ht g o e
theorem take_any (B : Nat) (w : World) (b : Nat) (al : Value) (gl N m f : Nat) (ao : Option Addr) (T : List Nat) (len : Nat → Int) (h : SrAt B w b al gl N m f ao (natL T) len) (hm : m ≤ 4194304) :
    Calls Tryz.prog 156 #[.pointer (some ⟨b, 1, none⟩)] w fun e w' => ∃ (p : Nat) (okb : Bool) (T' : List Nat) (m' f' : Nat) (ao' : Option Addr), e = .returned (.tuple #[.int .i64 (p : Int), .bool okb]) ∧ ((okb = true ∧ T = p :: T') ∨ (okb = false ∧ T = [] ∧ T' = [] ∧ p = 0)) ∧ SrAt B w' b al gl N m' f' ao' (natL T') len ∧ m' ≤ m ∧ SFr B w w' := by
  cases T with
  | nil =>
    refine (ring_none w b al _ m f ao h.ring).mono ?_
    rintro e w' ⟨rfl, rfl⟩
    exact ⟨0, false, [], m, f, ao, rfl, .inr ⟨rfl, rfl, rfl, rfl⟩, h, Nat.le_refl _, SFr.refl _ _⟩
  | cons p T =>
    refine (ring_take w b al _ m f ao (p : Int) (natL T) h.ring hm).mono ?_
    rintro e w' ⟨rfl, hR, hO⟩
    have hgb : gl ≠ b := h.row.ne h.ring.box (by decide)
    exact ⟨p, true, T, m, _, ao, rfl, .inl ⟨rfl, rfl⟩, ⟨hR, h.row.only hO hgb, h.ne, h.lb, h.lg, h.la⟩, Nat.le_refl _, h.fr (hO.mono fun k _ e => .inl e)⟩
/-- At the head of each round. -/
def RunI (B : Nat) (w : World) (b fn gl N K : Nat) (S : Nat → Prop) (E : Nat → Nat → Prop) (pv ov : Value) (wr : World) : Prop :=
  ∃ (p : Nat) (okb : Bool) (T : List Nat) (len : Nat → Int) (m f : Nat) (ao : Option Addr), pv = .int .i64 (p : Int) ∧ ov = .bool okb ∧ SrAt B wr b (.func (.func fn) #[] #[]) gl N m f ao (natL T) len ∧
    Bfs N S E (if okb then p :: T else []) len ∧ m ≤ K ∧ unl N len + T.length + (if okb then 1 else 0) ≤ N ∧ (∀ q, q < N → len q + (unl N len : Int) + 1 ≤ N) ∧ SFr B w wr ∧ (okb = false → T = [])
theorem SrAt.below {B : Nat} {w w' : World} {b : Nat} {al : Value} {gl N m f : Nat} {ao : Option Addr} {T : List Int} {len : Nat → Int} (h : SrAt B w b al gl N m f ao T len) (d : Below w.heap.size w w') : SrAt B w' b al gl N m f ao T len :=
  ⟨ring_only h.ring (Only.ofBelow (R := fun _ => False) d) id (fun _ _ => id), h.row.only (Only.ofBelow (R := fun _ => False) d) id, h.ne, h.lb, h.lg, h.la⟩
theorem in_new {B : Nat} {w w4 : World} {b fn gl N K : Nat} {S : Nat → Prop} {E : Nat → Nat → Prop} {p r M i m' f' : Nat} {ao' : Option Addr} {T : List Nat} {len : Nat → Int} {L : List EdT} {bk : Bool}
    (hs : SrAt B w4 b (.func (.func fn) #[] #[]) gl N m' f' ao' (natL T ++ [(r : Int)]) (fun c => if c = r then len p + 1 else len c)) (hb : Bfs N S E (p :: T) len) (hE : E p r) (hr : r < N) (h1 : len r = -1) (hm' : m' ≤ K)
    (hM : unl N len + T.length = M) (hl : ∀ q, q < N → len q + (unl N len : Int) + 1 ≤ N) (hf : SFr B w w4) (hd : ∀ e ∈ L.take i, ∃ r : Nat, (ends bk e).2 = (r : Int) ∧ 0 ≤ len r ∧ len r ≤ len p + 1) (hi : i < L.length) (he : (ends bk L[i]).2 = (r : Int)) :
    InI B w b fn gl N K S E p M L bk (i + 1) w4 := by
  have hp := hb.mem p (by simp)
  have hpr : p ≠ r := by intro e; rw [e] at hp; omega
  have hu := unl_put (len := len) (n := len p + 1) hr h1 (by omega)
  refine ⟨T ++ [r], putL len r (len p + 1), m', f', ao', by rw [natL_snoc]; exact hs, hb.meet hE hr h1, hm', by rw [List.length_append, List.length_singleton]; omega, fun q hq => ?_, hf, fun e hx => ?_⟩
  · by_cases e : q = r
    · subst e
      rw [putL_same]
      have := hl p hp.1
      omega
    · rw [putL_ne _ _ e]
      have := hl q hq
      omega
  · rw [putL_ne _ _ hpr]
    rw [List.take_add_one, List.getElem?_eq_getElem hi] at hx
    rcases List.mem_append.1 hx with hx | hx
    · obtain ⟨r', e1, e2, e3⟩ := hd e hx
      refine ⟨r', e1, ?_⟩
      rw [putL_ne _ _ (fun e => by rw [e] at e2; omega)]
      exact ⟨e2, e3⟩
    · simp at hx
      subst hx
      refine ⟨r, he, ?_⟩
      rw [putL_same]
      omega
theorem in_old {B : Nat} {w w4 : World} {b fn gl N K : Nat} {S : Nat → Prop} {E : Nat → Nat → Prop} {p r M i m' f' : Nat} {ao' : Option Addr} {T : List Nat} {len : Nat → Int} {L : List EdT} {bk : Bool}
    (hs : SrAt B w4 b (.func (.func fn) #[] #[]) gl N m' f' ao' (natL T) len) (hb : Bfs N S E (p :: T) len) (hr : r < N) (h1 : len r ≠ -1) (hm' : m' ≤ K)
    (hM : unl N len + T.length = M) (hl : ∀ q, q < N → len q + (unl N len : Int) + 1 ≤ N) (hf : SFr B w w4) (hd : ∀ e ∈ L.take i, ∃ r : Nat, (ends bk e).2 = (r : Int) ∧ 0 ≤ len r ∧ len r ≤ len p + 1) (hi : i < L.length) (he : (ends bk L[i]).2 = (r : Int)) :
    InI B w b fn gl N K S E p M L bk (i + 1) w4 := by
  refine ⟨T, len, m', f', ao', hs, hb, hm', hM, hl, hf, fun e hx => ?_⟩
  rw [List.take_add_one, List.getElem?_eq_getElem hi] at hx
  rcases List.mem_append.1 hx with hx | hx
  · exact hd e hx
  · simp at hx
    subst hx
    have := hb.ge r
    exact ⟨r, he, by omega, hb.near p (by simp) r hr⟩
theorem run_next {B : Nat} {w w4 : World} {b fn gl N K : Nat} {S : Nat → Prop} {E : Nat → Nat → Prop} {p M m' f' : Nat} {ok : Bool} {ao' : Option Addr} {T T' : List Nat} {len : Nat → Int} (hb : Bfs N S E T len) (hM : unl N len + T.length = M) (hu : M + 1 ≤ N)
    (hl : ∀ q, q < N → len q + (unl N len : Int) + 1 ≤ N) (hT : (ok = true ∧ T = p :: T') ∨ (ok = false ∧ T = [] ∧ T' = [] ∧ p = 0)) (hs : SrAt B w4 b (.func (.func fn) #[] #[]) gl N m' f' ao' (natL T') len) (hm : m' ≤ K) (hf : SFr B w w4) :
    RunI B w b fn gl N K S E (.int .i64 (p : Int)) (.bool ok) w4 ∧ muW w4 b gl N (.bool ok) < M + 1 := by
  rw [muW_at hs]
  rcases hT with ⟨rfl, rfl⟩ | ⟨rfl, rfl, rfl, rfl⟩
  · rw [List.length_cons] at hM
    exact ⟨⟨p, true, T', len, m', f', ao', rfl, rfl, hs, hb, hm, by simp; omega, hl, hf, fun e => by cases e⟩, by simp; omega⟩
  · rw [List.length_nil] at hM
    exact ⟨⟨0, false, [], len, m', f', ao', rfl, rfl, hs, hb, hm, by simp; omega, hl, hf, fun _ => rfl⟩, by simp; omega⟩
set_option maxRecDepth 100000 in
set_option maxHeartbeats 4000000 in
theorem run_fwd (B : Nat) (w : World) (b gl N m f : Nat) (ao : Option Addr) (T : List Nat) (len : Nat → Int) (H K : Nat) (row : Nat → List EdT) (S : Nat → Prop) (E : Nat → Nat → Prop)
    (hs : SrAt B w b (.func (.func 119) #[] #[]) gl N m f ao (natL T) len) (hb : Bfs N S E T len) (hg : GrAt w H N row) (hm : m ≤ K) (hN : 2 * N + 1 ≤ K) (hK : K ≤ 1000000) (hu : unl N len + T.length ≤ N) (hl : ∀ q, q < N → len q + (unl N len : Int) + 1 ≤ N) (hB : B ≤ w.heap.size)
    (h1 : ∀ p, p < N → ∀ e ∈ row p, ∃ r : Nat, r < N ∧ (ends false e).2 = (r : Int) ∧ E p r) (h2 : ∀ p r, E p r → ∃ e ∈ row p, (ends false e).2 = (r : Int)) (h3 : ∀ p, p < N → (row p).length ≤ 1000000) :
    Calls Tryz.prog 140 #[.pointer (some ⟨b, 0, none⟩), .slice (some ⟨H, 0, none⟩) N N] w fun e w' => e = .returned (.tuple #[]) ∧ ∃ len' m' f' ao', SrAt B w' b (.func (.func 119) #[] #[]) gl N m' f' ao' [] len' ∧ Bfs N S E [] len' ∧ (∀ q, q < N → len' q < N) ∧ SFr B w w' := by
  have HS := hide hs
  have HB := hide hb
  have HG := hide hg
  have HU := hide (And.intro hu hl)
  have H1 := hide (And.intro h1 (And.intro h2 h3))
  clear hs hb hg hu hl h1 h2 h3
  go_enter Tryz.func140, Tryz.ntmps140
  go_wp2_with (go_at_call 156; refine (take_any B w b _ gl N m f ao T len HS.out (by omega)).mono ?_; rintro e w1 ⟨p, okb, T1, m1, f1, ao1, rfl, hT, hs1, hm1, hf1⟩)
  have I0 : RunI B w b 119 gl N K S E (.int .i64 (p : Int)) (.bool okb) w1 := by
    refine ⟨p, okb, T1, len, m1, f1, ao1, rfl, rfl, hs1, ?_, by omega, ?_, HU.out.2, hf1, ?_⟩
    · rcases hT with ⟨rfl, rfl⟩ | ⟨rfl, rfl, rfl, rfl⟩
      · exact HB.out
      · exact HB.out
    · have := HU.out.1
      rcases hT with ⟨rfl, rfl⟩ | ⟨rfl, rfl, rfl, rfl⟩
      · simp at this ⊢; omega
      · simp at this ⊢; omega
    · rintro rfl
      rcases hT with ⟨e, _⟩ | ⟨_, rfl, rfl, rfl⟩
      · cases e
      · rfl
  clear hT hs1 hm1 hf1
  go_loopw [4, 5] (fun pv ov wr => Hid (RunI B w b 119 gl N K S E pv ov wr)) (fun _ ov wr => muW wr b gl N ov)
  case atStart => exact hide I0
  case round =>
    rename World => wo
    obtain ⟨p, okb, T, len, m, f, ao, rfl, rfl, hs, hbf, hm, hu, hl, hfr⟩ := hrel.out
    cases okb
    · obtain rfl := hfr.2 rfl
      have HE := hide (And.intro hs (And.intro hbf (And.intro hl hfr.1)))
      clear hs hbf hfr hrel hl hu
      go_wp2_with fail
      go_end0
      exact ⟨rfl, len, m, f, ao, HE.out.1, HE.out.2.1, fun q hq => by have := HE.out.2.2.1 q hq; omega, HE.out.2.2.2⟩
    · have hpN : p < N := (hbf.mem p (by simp)).1
      obtain ⟨F, hM, hF⟩ := HG.out.fr hfr.1
      obtain ⟨ax, c, eF, hr, ht⟩ := hF p hpN
      have cH : wo.cell? ⟨H, p, none⟩ = some (.slice ax (row p).length c) := by rw [← eF]; exact hM.at p hpN
      have hL := H1.out.2.2 p hpN
      obtain ⟨L, eL⟩ : ∃ L, (row p).length = L := ⟨_, rfl⟩
      rw [eL] at cH hL
      have HL := hide eL
      have p0 : (0 : Int) ≤ (p : Int) := by omega
      have p1 : (p : Int) < (N : Int) := by omega
      have HR := hide (And.intro hr ht)
      have HM := hide (muW_at hs true)
      have II : InI B wo b 119 gl N K S E p (unl N len + T.length) (row p) false 0 wo := ⟨T, len, m, f, ao, hs, hbf, hm, rfl, hl, SFr.refl _ _, fun e he => by simp at he⟩
      have HU2 : unl N len + T.length + 1 ≤ N := hu
      obtain ⟨M0, hM0⟩ : ∃ M0, unl N len + T.length = M0 := ⟨_, rfl⟩
      rw [hM0] at II HU2
      have HM2 : Hid (muW wo b gl N (.bool true) = M0 + 1) := hide (by rw [HM.out, ← hM0]; rfl)
      have HI := hide II
      have HF := hide hfr.1
      clear hs hbf hM hF eF hr ht II hm hu hl hfr hrel HM hM0 eL
      go_wp2_with fail
      go_loopw [30] (fun iv wx => ∃ i : Nat, i ≤ L ∧ iv = .int .i64 (i : Int) ∧ Hid (InI B wo b 119 gl N K S E p M0 (row p) false i wx)) (fun iv _ => L - (intOf iv).toNat)
      case atStart => exact ⟨0, Nat.zero_le _, rfl, HI⟩
      case round =>
        obtain ⟨i, hi, rfl, HY⟩ := hrel
        by_cases hlt : i < L
        · have l0 : (i : Int) < (L : Int) := by omega
          have i0 : (0 : Int) ≤ (i : Int) := by omega
          obtain ⟨T2, len2, m2, f2, ao2, hs2, hb2, hm2, hM2, hl2, hf2, hd2⟩ := HY.out
          have hir : i < (row p).length := by have := HL.out; omega
          obtain ⟨g, o, rfl, r1, r2, r3⟩ := (rd_fr hf2 HR.out.1 HR.out.2) i hir
          obtain ⟨x1, x2, x3, hx⟩ : ∃ x1 x2 x3, (row p)[i] = (x1, x2, x3) := ⟨_, _, _, rfl⟩
          rw [hx] at r1 r2 r3
          have c0 : wr.cell? ⟨b, 0, none⟩ = some (.func (.func 119) #[] #[]) := hs2.ring.box.at 0 (by omega)
          obtain ⟨r, hrN, er, hE⟩ := H1.out.1 p hpN (row p)[i] (List.getElem_mem hir)
          rw [hx] at er
          obtain rfl : x3 = (r : Int) := er
          have HX := hide hx
          have HE2 := hide hE
          have HY2 := hide (And.intro hs2 (And.intro hb2 (And.intro hm2 (And.intro hM2 (And.intro hl2 (And.intro hf2 hd2))))))
          clear hs2 hb2 hm2 hM2 hl2 hf2 hd2 hE hx HY
          go_wp2_with fail
          obtain ⟨W1, hW1⟩ : ∃ W1, wr.alloc (.cells #[.int .i64 x1, .int .i64 x2, .int .i64 (r : Int)] 61) = W1 := ⟨_, rfl⟩
          have d1 : Below wr.heap.size wr W1 := by rw [← hW1]; exact (Below.refl _ _).alloc (Nat.le_refl _) _
          have B0 : W1.heap[wr.heap.size]? = some (.cells #[.int .i64 x1, .int .i64 x2, .int .i64 (r : Int)] 61 (0, 0)) := by rw [← hW1]; exact World.alloc_heap_new _ _
          have k0 : W1.cell? ⟨wr.heap.size, 0, none⟩ = some (.int .i64 x1) := cell_of B0 rfl
          have k1 : W1.cell? ⟨wr.heap.size, 1, none⟩ = some (.int .i64 x2) := cell_of B0 rfl
          have k2 : W1.cell? ⟨wr.heap.size, 2, none⟩ = some (.int .i64 (r : Int)) := cell_of B0 rfl
          have c1 : W1.cell? ⟨b, 0, none⟩ = some (.func (.func 119) #[] #[]) := (HY2.out.1.ring.box.below d1 HY2.out.1.ring.box.lt).at 0 (by omega)
          have HD1 := hide d1
          rw [hW1]
          clear hW1 d1 B0 r1 r2 r3 c0
          generalize wr.heap.size = q0 at k0 k1 k2
          go_region_with (go_at_call 119; refine (fwd_any _ x1 x2 (r : Int)).mono ?_; rintro e w3 ⟨rfl, d3⟩)
          all_goals
            have D3 : Below wr.heap.size wr w3 := HD1.out.trans (Below.mono (show Below W1.heap.size W1 w3 from ⟨d3.os, d3.tape, d3.output, d3.size, d3.block⟩) HD1.out.size)
            have S3 := HY2.out.1.below D3
            have c4 : w3.cell? ⟨b, 4, none⟩ = some (.slice (some ⟨gl, 0, none⟩) N N) := S3.ring.box.at 4 (by omega)
            have cp : w3.cell? ⟨gl, p, none⟩ = some (.int .i64 (len2 p)) := S3.row.at p hpN
            have hl0 := (HY2.out.2.1.mem p (by simp)).2
            have hl1 : len2 p ≤ N := by have := HY2.out.2.2.2.2.1 p hpN; omega
            have HS3 := hide (And.intro S3 D3)
            clear S3 D3 d3
            by_cases hr1 : len2 r = -1
            · go_wp2_with (go_at_call 139; refine (meet_new B w3 b _ gl N m2 f2 ao2 (natL T2) len2 r (len2 p + 1) K HS3.out.1 hrN hr1 HY2.out.2.2.1 (by rw [natL_len]; have := HY2.out.2.2.2.1; omega) (by omega) (Nat.le_trans hB (Nat.le_trans HF.out.size (Nat.le_trans HY2.out.2.2.2.2.2.1.size HS3.out.2.size)))).mono ?_; rintro e w4 ⟨rfl, m4, f4, ao4, h4, hm4, hf4⟩)
              have J := hide (in_new h4 HY2.out.2.1 HE2.out hrN hr1 hm4 HY2.out.2.2.2.1 HY2.out.2.2.2.2.1 (HY2.out.2.2.2.2.2.1.trans ((SFr.ofBelow HS3.out.2).trans hf4)) HY2.out.2.2.2.2.2.2 hir (by rw [HX.out]; rfl))
              clear h4 hm4 hf4
              go_wp2_with fail
              go_roundw
              case rel => exact ⟨i + 1, by omega, by go_num, J⟩
              case measure => simp [intOf]; omega
            · go_wp2_with (go_at_call 139; refine (meet_old B w3 b _ gl N m2 f2 ao2 (natL T2) len2 r (len2 p + 1) HS3.out.1 hrN hr1).mono ?_; rintro e w4 ⟨rfl, hw⟩; obtain rfl := hw.symm; clear hw)
              have J := hide (in_old HS3.out.1 HY2.out.2.1 hrN hr1 HY2.out.2.2.1 HY2.out.2.2.2.1 HY2.out.2.2.2.2.1 (HY2.out.2.2.2.2.2.1.trans (SFr.ofBelow HS3.out.2)) HY2.out.2.2.2.2.2.2 hir (by rw [HX.out]; rfl))
              go_wp2_with fail
              go_roundw
              case rel => exact ⟨i + 1, by omega, by go_num, J⟩
              case measure => simp [intOf]; omega
        · have l0 : ¬ (i : Int) < (L : Int) := by omega
          obtain rfl : i = L := by omega
          obtain ⟨T2, len2, m2, f2, ao2, hs2, hb2, hm2, hM2, hl2, hf2, hd2⟩ := HY.out
          have hb3 : Bfs N S E T2 len2 := hb2.pop fun r hr => by
            obtain ⟨e, he, er⟩ := H1.out.2.1 p r hr
            obtain ⟨r', er', q1, q2⟩ := hd2 e (by rw [← HL.out, List.take_length]; exact he)
            obtain rfl : r' = r := by omega
            exact ⟨q1, q2⟩
          have HT := hide (And.intro hs2 (And.intro hb3 (And.intro hM2 (And.intro hl2 hf2))))
          clear hs2 hb2 hM2 hl2 hf2 hd2 hb3 HY
          go_wp2_with (go_at_call 156; refine (take_any B wr b _ gl N m2 f2 ao2 T2 len2 HT.out.1 (by omega)).mono ?_; rintro e w1 ⟨p4, ok4, T4, m4, f4, ao4, rfl, hT4, hs4, hm4, hf4⟩)
          have HJ := hide (run_next HT.out.2.1 HT.out.2.2.1 HU2 HT.out.2.2.2.1 hT4 hs4 (Nat.le_trans hm4 hm2) (HF.out.trans (HT.out.2.2.2.2.trans hf4)))
          clear hT4 hs4 hm4 hf4
          go_roundw
          case rel => exact hide HJ.out.1
          case measure =>
            have a1 := HM2.out
            have a2 := HJ.out.2
            first | omega | (simp; omega)
set_option maxRecDepth 100000 in
set_option maxHeartbeats 4000000 in
theorem run_bwd (B : Nat) (w : World) (b gl N m f : Nat) (ao : Option Addr) (T : List Nat) (len : Nat → Int) (H K : Nat) (row : Nat → List EdT) (S : Nat → Prop) (E : Nat → Nat → Prop)
    (hs : SrAt B w b (.func (.func 115) #[] #[]) gl N m f ao (natL T) len) (hb : Bfs N S E T len) (hg : GrAt w H N row) (hm : m ≤ K) (hN : 2 * N + 1 ≤ K) (hK : K ≤ 1000000) (hu : unl N len + T.length ≤ N) (hl : ∀ q, q < N → len q + (unl N len : Int) + 1 ≤ N) (hB : B ≤ w.heap.size)
    (h1 : ∀ p, p < N → ∀ e ∈ row p, ∃ r : Nat, r < N ∧ (ends true e).2 = (r : Int) ∧ E p r) (h2 : ∀ p r, E p r → ∃ e ∈ row p, (ends true e).2 = (r : Int)) (h3 : ∀ p, p < N → (row p).length ≤ 1000000) :
    Calls Tryz.prog 140 #[.pointer (some ⟨b, 0, none⟩), .slice (some ⟨H, 0, none⟩) N N] w fun e w' => e = .returned (.tuple #[]) ∧ ∃ len' m' f' ao', SrAt B w' b (.func (.func 115) #[] #[]) gl N m' f' ao' [] len' ∧ Bfs N S E [] len' ∧ (∀ q, q < N → len' q < N) ∧ SFr B w w' := by
  have HS := hide hs
  have HB := hide hb
  have HG := hide hg
  have HU := hide (And.intro hu hl)
  have H1 := hide (And.intro h1 (And.intro h2 h3))
  clear hs hb hg hu hl h1 h2 h3
  go_enter Tryz.func140, Tryz.ntmps140
  go_wp2_with (go_at_call 156; refine (take_any B w b _ gl N m f ao T len HS.out (by omega)).mono ?_; rintro e w1 ⟨p, okb, T1, m1, f1, ao1, rfl, hT, hs1, hm1, hf1⟩)
  have I0 : RunI B w b 115 gl N K S E (.int .i64 (p : Int)) (.bool okb) w1 := by
    refine ⟨p, okb, T1, len, m1, f1, ao1, rfl, rfl, hs1, ?_, by omega, ?_, HU.out.2, hf1, ?_⟩
    · rcases hT with ⟨rfl, rfl⟩ | ⟨rfl, rfl, rfl, rfl⟩
      · exact HB.out
      · exact HB.out
    · have := HU.out.1
      rcases hT with ⟨rfl, rfl⟩ | ⟨rfl, rfl, rfl, rfl⟩
      · simp at this ⊢; omega
      · simp at this ⊢; omega
    · rintro rfl
      rcases hT with ⟨e, _⟩ | ⟨_, rfl, rfl, rfl⟩
      · cases e
      · rfl
  clear hT hs1 hm1 hf1
  go_loopw [4, 5] (fun pv ov wr => Hid (RunI B w b 115 gl N K S E pv ov wr)) (fun _ ov wr => muW wr b gl N ov)
  case atStart => exact hide I0
  case round =>
    rename World => wo
    obtain ⟨p, okb, T, len, m, f, ao, rfl, rfl, hs, hbf, hm, hu, hl, hfr⟩ := hrel.out
    cases okb
    · obtain rfl := hfr.2 rfl
      have HE := hide (And.intro hs (And.intro hbf (And.intro hl hfr.1)))
      clear hs hbf hfr hrel hl hu
      go_wp2_with fail
      go_end0
      exact ⟨rfl, len, m, f, ao, HE.out.1, HE.out.2.1, fun q hq => by have := HE.out.2.2.1 q hq; omega, HE.out.2.2.2⟩
    · have hpN : p < N := (hbf.mem p (by simp)).1
      obtain ⟨F, hM, hF⟩ := HG.out.fr hfr.1
      obtain ⟨ax, c, eF, hr, ht⟩ := hF p hpN
      have cH : wo.cell? ⟨H, p, none⟩ = some (.slice ax (row p).length c) := by rw [← eF]; exact hM.at p hpN
      have hL := H1.out.2.2 p hpN
      obtain ⟨L, eL⟩ : ∃ L, (row p).length = L := ⟨_, rfl⟩
      rw [eL] at cH hL
      have HL := hide eL
      have p0 : (0 : Int) ≤ (p : Int) := by omega
      have p1 : (p : Int) < (N : Int) := by omega
      have HR := hide (And.intro hr ht)
      have HM := hide (muW_at hs true)
      have II : InI B wo b 115 gl N K S E p (unl N len + T.length) (row p) true 0 wo := ⟨T, len, m, f, ao, hs, hbf, hm, rfl, hl, SFr.refl _ _, fun e he => by simp at he⟩
      have HU2 : unl N len + T.length + 1 ≤ N := hu
      obtain ⟨M0, hM0⟩ : ∃ M0, unl N len + T.length = M0 := ⟨_, rfl⟩
      rw [hM0] at II HU2
      have HM2 : Hid (muW wo b gl N (.bool true) = M0 + 1) := hide (by rw [HM.out, ← hM0]; rfl)
      have HI := hide II
      have HF := hide hfr.1
      clear hs hbf hM hF eF hr ht II hm hu hl hfr hrel HM hM0 eL
      go_wp2_with fail
      go_loopw [30] (fun iv wx => ∃ i : Nat, i ≤ L ∧ iv = .int .i64 (i : Int) ∧ Hid (InI B wo b 115 gl N K S E p M0 (row p) true i wx)) (fun iv _ => L - (intOf iv).toNat)
      case atStart => exact ⟨0, Nat.zero_le _, rfl, HI⟩
      case round =>
        obtain ⟨i, hi, rfl, HY⟩ := hrel
        by_cases hlt : i < L
        · have l0 : (i : Int) < (L : Int) := by omega
          have i0 : (0 : Int) ≤ (i : Int) := by omega
          obtain ⟨T2, len2, m2, f2, ao2, hs2, hb2, hm2, hM2, hl2, hf2, hd2⟩ := HY.out
          have hir : i < (row p).length := by have := HL.out; omega
          obtain ⟨g, o, rfl, r1, r2, r3⟩ := (rd_fr hf2 HR.out.1 HR.out.2) i hir
          obtain ⟨x1, x2, x3, hx⟩ : ∃ x1 x2 x3, (row p)[i] = (x1, x2, x3) := ⟨_, _, _, rfl⟩
          rw [hx] at r1 r2 r3
          have c0 : wr.cell? ⟨b, 0, none⟩ = some (.func (.func 115) #[] #[]) := hs2.ring.box.at 0 (by omega)
          obtain ⟨r, hrN, er, hE⟩ := H1.out.1 p hpN (row p)[i] (List.getElem_mem hir)
          rw [hx] at er
          obtain rfl : x1 = (r : Int) := er
          have HX := hide hx
          have HE2 := hide hE
          have HY2 := hide (And.intro hs2 (And.intro hb2 (And.intro hm2 (And.intro hM2 (And.intro hl2 (And.intro hf2 hd2))))))
          clear hs2 hb2 hm2 hM2 hl2 hf2 hd2 hE hx HY
          go_wp2_with fail
          obtain ⟨W1, hW1⟩ : ∃ W1, wr.alloc (.cells #[.int .i64 (r : Int), .int .i64 x2, .int .i64 x3] 61) = W1 := ⟨_, rfl⟩
          have d1 : Below wr.heap.size wr W1 := by rw [← hW1]; exact (Below.refl _ _).alloc (Nat.le_refl _) _
          have B0 : W1.heap[wr.heap.size]? = some (.cells #[.int .i64 (r : Int), .int .i64 x2, .int .i64 x3] 61 (0, 0)) := by rw [← hW1]; exact World.alloc_heap_new _ _
          have k0 : W1.cell? ⟨wr.heap.size, 0, none⟩ = some (.int .i64 (r : Int)) := cell_of B0 rfl
          have k1 : W1.cell? ⟨wr.heap.size, 1, none⟩ = some (.int .i64 x2) := cell_of B0 rfl
          have k2 : W1.cell? ⟨wr.heap.size, 2, none⟩ = some (.int .i64 x3) := cell_of B0 rfl
          have c1 : W1.cell? ⟨b, 0, none⟩ = some (.func (.func 115) #[] #[]) := (HY2.out.1.ring.box.below d1 HY2.out.1.ring.box.lt).at 0 (by omega)
          have HD1 := hide d1
          rw [hW1]
          clear hW1 d1 B0 r1 r2 r3 c0
          generalize wr.heap.size = q0 at k0 k1 k2
          go_region_with (go_at_call 115; refine (bwd_any _ (r : Int) x2 x3).mono ?_; rintro e w3 ⟨rfl, d3⟩)
          all_goals
            have D3 : Below wr.heap.size wr w3 := HD1.out.trans (Below.mono (show Below W1.heap.size W1 w3 from ⟨d3.os, d3.tape, d3.output, d3.size, d3.block⟩) HD1.out.size)
            have S3 := HY2.out.1.below D3
            have c4 : w3.cell? ⟨b, 4, none⟩ = some (.slice (some ⟨gl, 0, none⟩) N N) := S3.ring.box.at 4 (by omega)
            have cp : w3.cell? ⟨gl, p, none⟩ = some (.int .i64 (len2 p)) := S3.row.at p hpN
            have hl0 := (HY2.out.2.1.mem p (by simp)).2
            have hl1 : len2 p ≤ N := by have := HY2.out.2.2.2.2.1 p hpN; omega
            have HS3 := hide (And.intro S3 D3)
            clear S3 D3 d3
            by_cases hr1 : len2 r = -1
            · go_wp2_with (go_at_call 139; refine (meet_new B w3 b _ gl N m2 f2 ao2 (natL T2) len2 r (len2 p + 1) K HS3.out.1 hrN hr1 HY2.out.2.2.1 (by rw [natL_len]; have := HY2.out.2.2.2.1; omega) (by omega) (Nat.le_trans hB (Nat.le_trans HF.out.size (Nat.le_trans HY2.out.2.2.2.2.2.1.size HS3.out.2.size)))).mono ?_; rintro e w4 ⟨rfl, m4, f4, ao4, h4, hm4, hf4⟩)
              have J := hide (in_new h4 HY2.out.2.1 HE2.out hrN hr1 hm4 HY2.out.2.2.2.1 HY2.out.2.2.2.2.1 (HY2.out.2.2.2.2.2.1.trans ((SFr.ofBelow HS3.out.2).trans hf4)) HY2.out.2.2.2.2.2.2 hir (by rw [HX.out]; rfl))
              clear h4 hm4 hf4
              go_wp2_with fail
              go_roundw
              case rel => exact ⟨i + 1, by omega, by go_num, J⟩
              case measure => simp [intOf]; omega
            · go_wp2_with (go_at_call 139; refine (meet_old B w3 b _ gl N m2 f2 ao2 (natL T2) len2 r (len2 p + 1) HS3.out.1 hrN hr1).mono ?_; rintro e w4 ⟨rfl, hw⟩; obtain rfl := hw.symm; clear hw)
              have J := hide (in_old HS3.out.1 HY2.out.2.1 hrN hr1 HY2.out.2.2.1 HY2.out.2.2.2.1 HY2.out.2.2.2.2.1 (HY2.out.2.2.2.2.2.1.trans (SFr.ofBelow HS3.out.2)) HY2.out.2.2.2.2.2.2 hir (by rw [HX.out]; rfl))
              go_wp2_with fail
              go_roundw
              case rel => exact ⟨i + 1, by omega, by go_num, J⟩
              case measure => simp [intOf]; omega
        · have l0 : ¬ (i : Int) < (L : Int) := by omega
          obtain rfl : i = L := by omega
          obtain ⟨T2, len2, m2, f2, ao2, hs2, hb2, hm2, hM2, hl2, hf2, hd2⟩ := HY.out
          have hb3 : Bfs N S E T2 len2 := hb2.pop fun r hr => by
            obtain ⟨e, he, er⟩ := H1.out.2.1 p r hr
            obtain ⟨r', er', q1, q2⟩ := hd2 e (by rw [← HL.out, List.take_length]; exact he)
            obtain rfl : r' = r := by omega
            exact ⟨q1, q2⟩
          have HT := hide (And.intro hs2 (And.intro hb3 (And.intro hM2 (And.intro hl2 hf2))))
          clear hs2 hb2 hM2 hl2 hf2 hd2 hb3 HY
          go_wp2_with (go_at_call 156; refine (take_any B wr b _ gl N m2 f2 ao2 T2 len2 HT.out.1 (by omega)).mono ?_; rintro e w1 ⟨p4, ok4, T4, m4, f4, ao4, rfl, hT4, hs4, hm4, hf4⟩)
          have HJ := hide (run_next HT.out.2.1 HT.out.2.2.1 HU2 HT.out.2.2.2.1 hT4 hs4 (Nat.le_trans hm4 hm2) (HF.out.trans (HT.out.2.2.2.2.trans hf4)))
          clear hT4 hs4 hm4 hf4
          go_roundw
          case rel => exact hide HJ.out.1
          case measure =>
            have a1 := HM2.out
            have a2 := HJ.out.2
            first | omega | (simp; omega)
end Go.Proofs.YtchoopnjckcohaaGreatDoor
namespace Go.Proofs.YtchoopnjckcohaaGreatDoor
open Go.RowKit Go.Maps Go.Shelf Go.Sort
attribute [local go_sem] Oper.semAt_some

/-! ### Edges in order, each once -/
theorem info59 : (Tryz.prog.info? 61).map (fun i => (i.zero, i.size, i.bytes)) = some (some (.agg #[.int .i64 0, .int .i64 0, .int .i64 0]), 3, 24) := by kernel_rfl
theorem run_copyE (w : World) (ty : TypeId) (g m dCap : Nat) (ao : Option Addr) (sCap : Nat) (L : List EdT) (hL : m = L.length) (cur : Array Value) (hg : w.heap[g]? = some (.cells cur 61 (0, 0))) (hcs : cur.size = m * 3) (hr : RdE w ao L) :
    (Builtin.copy_ #[23, 23] ty #[.slice (some ⟨g, 0, none⟩) m dCap, .slice ao m sCap]).run Tryz.prog w = .ok (goInt m) (w.setRow g (L.flatMap encE).toArray) := by
  obtain ⟨i5, hi5, _, hz51, _⟩ := info_parts info59
  have hm : Nat.min m m = m := Nat.min_self m
  have hfl : (L.flatMap encE).length = m * 3 := by rw [encE_flat, hL]
  have hst := run_storeCells_at Tryz.prog g 0 61 (L.flatMap encE) 0 cur w hg (by rw [hfl]; omega) (encE_one L)
  rw [hfl, Nat.zero_add, Nat.zero_add, List.take_zero, List.nil_append, List.drop_eq_nil_of_le (by simp [hcs]), List.append_nil] at hst
  by_cases h0 : L = []
  · subst h0
    obtain rfl : m = 0 := hL
    have hl : ∀ (x : Addr), (loadCells x 0).run Tryz.prog w = .ok #[] w := fun x => by simpa using run_loadCells_list (P := Tryz.prog) w x [] (by simp)
    obtain rfl : cur = #[] := Array.eq_empty_of_size_eq_zero (by omega)
    rw [show w.setRow g (([] : List EdT).flatMap encE).toArray = w from setRow_self w g #[] 61 (0, 0) hg]
    cases ao <;> simp [Builtin.copy_, run_underlying Tryz.underlying23, Builtin.lenOf, Builtin.firstCells, sizeOf, typeInfo, hi5, storeCells, hl]
  · obtain ⟨a, o, rfl, _⟩ := hr 0 (List.length_pos_iff.2 h0)
    have hl := run_loadCells_list (P := Tryz.prog) w ⟨a, o, none⟩ (L.flatMap encE) (fun j v hv => by
      have ea : Addr.add ⟨a, o, none⟩ j = ⟨a, o + j, none⟩ := by
        unfold Addr.add
        by_cases q : j = 0
        · subst q; simp
        · simp [q]
      rw [ea]
      exact edges_at hr j v hv)
    rw [hfl] at hl
    simp [Builtin.copy_, run_underlying Tryz.underlying23, Builtin.lenOf, Builtin.firstCells, sizeOf, typeInfo, hi5, hz51, hl, hst]
theorem wpList_copyE {w : World} {ops : Array Oper} {rest : List Oper} {o : Oper} {a : Act} {Q : Exit → Act → World → Prop} (hgd : o.guard = none) (d s : Operand)
    (ho : o.op = .call { callee := .builtin .copy, args := #[d, s], argTypes := #[23, 23] }) (g m dCap : Nat) (ao : Option Addr) (sCap : Nat) (L : List EdT) (hd : a.eval d = .slice (some ⟨g, 0, none⟩) m dCap) (hs : a.eval s = .slice ao m sCap) (hL : m = L.length)
    (cur : Array Value) (hg : w.heap[g]? = some (.cells cur 61 (0, 0))) (hcs : cur.size = m * 3) (hr : RdE w ao L) (B : Nat) (w0 : World) (hb : Below B w0 w) (hBg : B ≤ g)
    (h : ∀ w', Hid (w'.heap[g]? = some (.cells (L.flatMap encE).toArray 61 (0, 0)) ∧ Below B w0 w') → wpList Tryz.prog ops Q rest (a.put o.dst (goInt m)) w') : wpList Tryz.prog ops Q (o :: rest) a w := by
  refine wpList_plain hgd fun K hK => ?_
  have hrun := run_copyE w o.type g m dCap ao sCap L hL cur hg hcs hr
  unfold Oper.wp
  simp [execOp, ho, resolve, invoke, builtin, hd, hs, hrun, Result.andThen]
  exact hK _ _ (h _ (hide ⟨setRow_heap w g _ _ 61 _ hg, below_setRow hb hBg _⟩))
/-- A list's edges in order, each once. -/
def riseE (L : List EdT) : List EdT := Lib.compact (sortE L)
theorem row_ofRd {w : World} {B g cap : Nat} {f : Nat → Value} {K : List EdT} (hM : Mrw w g 61 (cap * 3) f (cap * 3)) (hr : RdE w (some ⟨g, 0, none⟩) K) (hk : K.length ≤ cap) (hc : cap ≤ maxLen) (hB : B ≤ g) : w.ownsRow B 61 3 (.slice (some ⟨g, 0, none⟩) K.length cap) K.length (K.flatMap encE) := by
  obtain ⟨cur, hg, hz, _⟩ := hM
  refine ⟨encE_flat K, .inr ⟨g, cap, cur, rfl, hB, hg, hk, hc, hz, ?_⟩⟩
  have hfl := encE_flat K
  have hle : K.length * 3 ≤ cap * 3 := Nat.mul_le_mul_right _ hk
  apply List.ext_getElem?
  intro j
  by_cases hj : j < K.length * 3
  · rw [List.getElem?_take_of_lt hj, List.getElem?_eq_getElem (by omega : j < (K.flatMap encE).length)]
    have c := edges_at hr j _ (List.getElem?_eq_getElem (by omega : j < (K.flatMap encE).length))
    rw [Nat.zero_add] at c
    have hjc : j < cur.size := by omega
    have e := cell_of hg (Array.getElem?_eq_getElem hjc)
    rw [e] at c
    rw [Array.getElem?_toList, Array.getElem?_eq_getElem hjc, Option.some.inj c]
  · rw [List.getElem?_take_eq_none (by omega), List.getElem?_eq_none (by omega)]
theorem compactE_own (w : World) (B g cap n : Nat) (L : List EdT) (hn : n = L.length) (hv : w.ownsRow B 61 3 (.slice (some ⟨g, 0, none⟩) n cap) L.length (L.flatMap encE)) (hl : n ≤ 4194304) :
    Calls Tryz.prog 160 #[.slice (some ⟨g, 0, none⟩) n cap] w fun e w' => e = .returned (.slice (some ⟨g, 0, none⟩) (Lib.compact L).length cap) ∧ w'.ownsRow B 61 3 (.slice (some ⟨g, 0, none⟩) (Lib.compact L).length cap) (Lib.compact L).length ((Lib.compact L).flatMap encE) ∧ Only w w' (fun k => k = g) := by
  subst hn
  have hmax : cap ≤ maxLen ∧ B ≤ g := by
    rcases hv.2 with ⟨hv, _⟩ | ⟨g', cap', cur, hv, hb, hg, h1, h2, h3, h4⟩
    · cases hv
    · cases hv; exact ⟨h2, hb⟩
  rcases row_block hv rfl with ⟨hq, _⟩ | ⟨g', cap', f, hq, hc, _, hM, hF⟩
  · cases hq
  · cases hq
    refine (compactA w g cap L.length L.toArray (hide (by simp)) f (hide hM) (hide hF) hc hl).mono ?_
    rintro e w' ⟨rfl, hr, ho, f', hM'⟩
    have e0 : Lib.compactUpTo L.toArray L.length = Lib.compact L := by simp [Lib.compact]
    rw [e0] at hr ⊢
    exact ⟨rfl, row_ofRd hM' hr (Nat.le_trans (compact_len L) hc) hmax.1 hmax.2, ho⟩
set_option maxRecDepth 100000 in
set_option maxHeartbeats 1000000 in
theorem orderedE_any (w : World) (ao : Option Addr) (c : Nat) (L : List EdT) (hA : Hid (RdE w ao L)) (hl : L.length ≤ 4194304) :
    Calls Tryz.prog 146 #[.slice ao L.length c, .func (.func 147) #[] #[]] w fun e w' => ∃ g' c', e = .returned (.slice (some ⟨g', 0, none⟩) (riseE L).length c') ∧ w'.ownsRow w.heap.size 61 3 (.slice (some ⟨g', 0, none⟩) (riseE L).length c') (riseE L).length ((riseE L).flatMap encE) ∧ Below w.heap.size w w' := by
  obtain ⟨i5, hi5, hz50, hz51, hz52⟩ := info_parts info59
  obtain ⟨m, hm⟩ : ∃ m, m = L.length := ⟨_, rfl⟩
  have HL := hide hm
  rw [← hm]
  rw [← hm] at hl
  clear hm
  go_enter Tryz.func146, Tryz.ntmps146
  go_wp2_with (at_make; refine wpList_make_full _ rfl _ _ 23 rfl w.heap.size 61 i5 (.agg #[.int .i64 0, .int .i64 0, .int .i64 0]) 3 Tryz.underlying23 hi5 hz50 hz51 _ _ _ _ m rfl rfl (by go_num) (by go_num) (by rw [hz52]; omega) (by unfold maxLen; omega) (Nat.le_refl _) ?_)
  intro w1 ho hg
  have D1 : Below w.heap.size w w1 := (Below.refl _ _).grown hg (Nat.le_refl _) (by intro k hk; cases hk)
  have hxy : ∃ cur, w1.heap[w.heap.size]? = some (.cells cur 61 (0, 0)) ∧ cur.size = m * 3 := by
    rcases ho.2 with ⟨hv, _⟩ | ⟨g', cap', cur, hv, hb, hg, h1, h2, h3, h4⟩
    · cases hv
    · cases hv
      exact ⟨cur, hg, h3⟩
  obtain ⟨cur, hcur, hcl⟩ := hxy
  have HC := hide (And.intro hcur (And.intro hcl D1))
  clear ho hg D1 hcur hcl
  go_wp2_with (refine wpList_copyE rfl (.tmp 9) (.tmp 10) rfl w.heap.size m m ao c L rfl rfl HL.out cur HC.out.1 HC.out.2.1 (hA.out.on HC.out.2.2) w.heap.size w HC.out.2.2 (Nat.le_refl _) ?_)
  intro w2 HG2
  have hr2 : w2.ownsRow w.heap.size 61 3 (.slice (some ⟨w.heap.size, 0, none⟩) m m) L.length (L.flatMap encE) := by
    have hfl := encE_flat L
    rw [← HL.out] at hfl ⊢
    exact ⟨hfl, .inr ⟨_, m, _, rfl, Nat.le_refl _, HG2.out.1, Nat.le_refl _, by unfold maxLen; omega, by simpa using hfl, List.take_of_length_le (by simpa using Nat.le_of_eq hfl)⟩⟩
  have HR := hide (And.intro hr2 HG2.out.2)
  clear hr2 HG2 HC
  have hl2 : L.length ≤ 4194304 := by rw [← HL.out]; exact hl
  go_wp2_with (go_at_call 159; refine (sortE_any _ w.heap.size _ L (by exact HR.out.1) (by rw [← HL.out]; exact hl)).mono ?_; rintro e w3 ⟨rfl, hr3, hg3⟩)
  have HS := hide (And.intro hr3 (HR.out.2.trans (hg3.toBelow HR.out.2.size (fun k hk => by cases hk; exact Nat.le_refl _))))
  clear hr3 hg3
  refine (compactE_own w3 w.heap.size w.heap.size m m (sortE L) (by rw [sortE_len]; exact HL.out) (by rw [sortE_len]; exact HS.out.1) hl).mono ?_
  rintro e w4 ⟨rfl, hr4, ho4⟩
  have HT := hide (And.intro hr4 (HS.out.2.trans (ho4.toBelow HS.out.2.size (fun k hk => Nat.le_of_eq hk.symm))))
  clear hr4 ho4
  go_wp2_with fail
  go_ret
  exact ⟨_, _, rfl, HT.out⟩
set_option maxRecDepth 100000 in
theorem states_any (w : World) (ao : Option Addr) (c : Nat) (L : List Int) (hA : Hid (RdN w ao L)) (hl : L.length ≤ 4194304) :
    Calls Tryz.prog 120 #[.slice ao L.length c] w fun e w' => ∃ g' c', e = .returned (.slice (some ⟨g', 0, none⟩) (riseL L).length c') ∧ w'.ownsRow w.heap.size 3 1 (.slice (some ⟨g', 0, none⟩) (riseL L).length c') (riseL L).length ((riseL L).map (Value.int .i64)) ∧ Below w.heap.size w w' := by
  have T := orderedI_any w ao c L hA hl
  go_enter Tryz.func120, Tryz.ntmps120
  go_wp2_with (go_at_call 144; refine T.mono ?_; rintro e w1 ⟨g', c', rfl, hr, d⟩)
  go_ret
  exact ⟨_, _, rfl, hr, d⟩
set_option maxRecDepth 100000 in
theorem edges_any (w : World) (ao : Option Addr) (c : Nat) (L : List EdT) (hA : Hid (RdE w ao L)) (hl : L.length ≤ 4194304) :
    Calls Tryz.prog 121 #[.slice ao L.length c] w fun e w' => ∃ g' c', e = .returned (.slice (some ⟨g', 0, none⟩) (riseE L).length c') ∧ w'.ownsRow w.heap.size 61 3 (.slice (some ⟨g', 0, none⟩) (riseE L).length c') (riseE L).length ((riseE L).flatMap encE) ∧ Below w.heap.size w w' := by
  have T := orderedE_any w ao c L hA hl
  go_enter Tryz.func121, Tryz.ntmps121
  go_wp2_with (go_at_call 146; refine T.mono ?_; rintro e w1 ⟨g', c', rfl, hr, d⟩)
  go_ret
  exact ⟨_, _, rfl, hr, d⟩
end Go.Proofs.YtchoopnjckcohaaGreatDoor
