import Derived.Test.YtchoopnjckcohaaGreatDoorQao
import Derived.Deep.RegionLaw
set_option maxRecDepth 100000
set_option maxHeartbeats 40000000
namespace Go.Proofs.YtchoopnjckcohaaGreatDoor
open Go.RowKit Go.Maps Go.Shelf
attribute [local go_sem] Oper.semAt_some
def oneE (L : List Int) : List EdT := L.zipIdx.map fun p => ((p.2 : Int), p.1, (p.2 : Int) + 1)
theorem oneE_len (L : List Int) : (oneE L).length = L.length := by simp [oneE]
theorem oneE_snoc (L : List Int) (i : Nat) (h : i < L.length) : oneE (L.take (i + 1)) = oneE (L.take i) ++ [((i : Int), L[i], (i : Int) + 1)] := by
 unfold oneE
 rw [List.take_succ_eq_append_getElem h, List.zipIdx_append, List.map_append]
 have : (L.take i).length = i := by rw [List.length_take]; omega
 simp [this]
theorem own_one {W : World} {B g : Nat} {x : Value} (h : W.heap[g]? = some (.cells #[x] 3 (0, 0))) (hB : B ≤ g) : W.ownsRow B 3 1 (.slice (some ⟨g, 0, none⟩) 1 1) 1 [x] :=
 ⟨by simp, .inr ⟨g, 1, #[x], rfl, hB, h, Nat.le_refl _, by unfold maxLen; omega, by simp, by simp⟩⟩
theorem mvA_put {w wr wa w5 : World} {p : Nat} {n m : Int} {v1 v2 v3 v5 : Value} {S F : List Int} {X Y : List EdT} (h : MvA w wr p n m v1 v2 v3 S F X) (d1 : Below wr.heap.size wr wa) (o : w5.ownsRow w.heap.size 61 3 v5 Y.length (Y.flatMap encE)) (oo : Only wa w5 (fun k => v3.ownBlock = some k)) :
 w5.heap[p]? = some (.cells #[.int .i64 n, .int .i64 m, v1, v2, v3] 25 (0, 0)) ∧ MvA w (w5.setCell ⟨p, 4, none⟩ v5) p n m v1 v2 v5 S F Y := by
 have s2 := own_below h.ow.s d1
 have f2 := own_below h.ow.f d1
 have e2 := own_below h.ow.e d1
 have b2 := blk_on h.bx d1
 have b5 := (oo.block p (Array.getElem?_eq_some_iff.1 b2).1 (fun hk => row_tag e2 b2 (by decide) hk)).trans b2
 have s5 := row_only s2 oo (fun k hk hk2 => rows_differ e2 s2 (by decide) hk2 hk)
 have f5 := row_only f2 oo (fun k hk hk2 => rows_differ e2 f2 (by decide) hk2 hk)
 have o2 := only_set w5 p 4 v5
 have dd := h.be.trans (d1.mono h.be.size)
 have d5 := dd.trans (oo.toBelow dd.size (fun k hk => (e2.lt k hk).1))
 exact ⟨b5, heap_setCell_same _ _ 4 _ 25 _ b5, h.ge, ⟨own_keep s5 b5 (by decide) o2, own_keep f5 b5 (by decide) o2, own_keep o b5 (by decide) o2, h.ow.ne⟩, d5.trans (o2.toBelow d5.size (fun k hk => by rw [hk]; exact h.ge))⟩
theorem one_ok (w : World) (ao : Option Addr) (c n s : Nat) (L : List Int) (en : Hid (L.length = n)) (hr : Hid (RdN w ao L)) (hn : n < 4096) (hs : s ≤ 128) (hL : Hid (∀ x ∈ L, 0 ≤ x ∧ x < (s : Int))) :
 Calls Tryz.prog 20 #[.slice ao n c, .int .i64 (s : Int)] w fun e w' => ∃ b1 k1 b2 k2 b3 k3, e = .returned (.tuple #[.agg #[.int .i64 ((n : Int) + 1), .int .i64 (s : Int), .slice b1 1 k1, .slice b2 1 k2, .slice b3 n k3], .int .i64 0]) ∧ Hid (OwnO w.heap.size w' (.slice b1 1 k1) (.slice b2 1 k2) (.slice b3 n k3) [0] [(n : Int)] (oneE L) ∧ Below w.heap.size w w') := by
 obtain ⟨W0, hW0⟩ : ∃ W0, (w.alloc (.cells #[.int .i64 (s : Int)] 3)).alloc (.cells #[.int .i64 0, .int .i64 0, .slice none 0 0, .slice none 0 0, .slice none 0 0] 25) = W0 := ⟨_, rfl⟩
 have HD : Hid (Below w.heap.size w W0 ∧ W0.heap[w.heap.size]? = some (.cells #[.int .i64 (s : Int)] 3 (0, 0)) ∧ W0.heap[w.heap.size + 1]? = some (.cells #[.int .i64 0, .int .i64 0, .slice none 0 0, .slice none 0 0, .slice none 0 0] 25 (0, 0)) ∧ W0.heap.size = w.heap.size + 2) := hide (by
  have k1 := (Below.refl w.heap.size w).alloc (Nat.le_refl _) (.cells #[.int .i64 (s : Int)] 3)
  have z1 := World.alloc_heap_new w (.cells #[.int .i64 (s : Int)] 3)
  have s1 : (w.alloc (.cells #[.int .i64 (s : Int)] 3)).heap.size = w.heap.size + 1 := by simp
  generalize w.alloc (.cells #[.int .i64 (s : Int)] 3) = X at k1 z1 s1 hW0
  have k2 := (Below.refl X.heap.size X).alloc (Nat.le_refl _) (.cells #[.int .i64 0, .int .i64 0, .slice none 0 0, .slice none 0 0, .slice none 0 0] 25)
  have z2 := World.alloc_heap_new X (.cells #[.int .i64 0, .int .i64 0, .slice none 0 0, .slice none 0 0, .slice none 0 0] 25)
  rw [hW0] at k2 z2
  rw [s1] at z2
  exact ⟨k1.trans (k2.mono k1.size), blk_on z1 k2, z2, by rw [← hW0, World.size_alloc, s1]⟩)
 have y0 : W0.cell? ⟨w.heap.size, 0, none⟩ = some (.int .i64 (s : Int)) := cell_of HD.out.2.1 rfl
 have TC := cont53 W0 ao c L w.heap.size (s : Int) (hide y0) (hide (hr.out.on HD.out.1)) (by have := en.out; omega)
 rw [show L.any (badS (s : Int)) = false by
  rw [List.any_eq_false]
  intro x hx
  have := hL.out x hx
  simp [badS]; omega, en.out] at TC
 have TM : ∀ W, Calls Tryz.prog 54 #[.int .i64 (s : Int)] W fun e w' => e = .returned (.bool true) ∧ w' = W := fun W => by
  have := mayBe_any W (s : Int)
  rwa [show symOk (s : Int) = true by simp [symOk]; omega] at this
 have HM := hide TM
 clear TM
 have jn : ¬ (4096 : Int) ≤ (n : Int) := by omega
 have ew : IntKind.i64.wrap ((n : Int) + 1) = (n : Int) + 1 := by rw [IntKind.wrap_i64]; omega
 go_enter Tryz.func20, Tryz.ntmps20
 go_upto_region 3 with (go_at_call 52; refine TC.mono ?_; rintro e w2 ⟨rfl, D2⟩; have H2 := hide D2; clear D2)
 clear TC y0
 have y0 : w2.cell? ⟨w.heap.size, 0, none⟩ = some (.int .i64 (s : Int)) := cell_of (blk_on HD.out.2.1 H2.out) rfl
 go_upto_region 8 with (go_at_call 54; refine (HM.out w2).mono ?_; rintro e wq ⟨rfl, rfl⟩)
 clear y0 HM
 obtain ⟨W1, hW1⟩ : ∃ W, ((wq.alloc (.cells #[.int .i64 0] 3)).alloc (.cells #[.int .i64 (n : Int)] 3)).alloc (.cells #[.int .i64 ((n : Int) + 1), .int .i64 (s : Int), .slice (some ⟨wq.heap.size, 0, none⟩) 1 1, .slice (some ⟨wq.heap.size + 1, 0, none⟩) 1 1, .slice none 0 0] 25) = W := ⟨_, rfl⟩
 rw [hW1]
 have HA : Hid (MvA W0 W1 (wq.heap.size + 1 + 1) ((n : Int) + 1) (s : Int) (.slice (some ⟨wq.heap.size, 0, none⟩) 1 1) (.slice (some ⟨wq.heap.size + 1, 0, none⟩) 1 1) (.slice none 0 0) [0] [(n : Int)] []) := hide (by
  have k1 := (Below.refl wq.heap.size wq).alloc (Nat.le_refl _) (.cells #[.int .i64 0] 3)
  have z1 := World.alloc_heap_new wq (.cells #[.int .i64 0] 3)
  have s1 : (wq.alloc (.cells #[.int .i64 0] 3)).heap.size = wq.heap.size + 1 := by simp
  generalize wq.alloc (.cells #[.int .i64 0] 3) = X at k1 z1 s1 hW1
  have k2 := (Below.refl X.heap.size X).alloc (Nat.le_refl _) (.cells #[.int .i64 (n : Int)] 3)
  have z2 := World.alloc_heap_new X (.cells #[.int .i64 (n : Int)] 3)
  have s2 : (X.alloc (.cells #[.int .i64 (n : Int)] 3)).heap.size = wq.heap.size + 1 + 1 := by simp [s1]
  generalize X.alloc (.cells #[.int .i64 (n : Int)] 3) = Y at k2 z2 s2 hW1
  have k3 := (Below.refl Y.heap.size Y).alloc (Nat.le_refl _) (.cells #[.int .i64 ((n : Int) + 1), .int .i64 (s : Int), .slice (some ⟨wq.heap.size, 0, none⟩) 1 1, .slice (some ⟨wq.heap.size + 1, 0, none⟩) 1 1, .slice none 0 0] 25)
  have z3 := World.alloc_heap_new Y (.cells #[.int .i64 ((n : Int) + 1), .int .i64 (s : Int), .slice (some ⟨wq.heap.size, 0, none⟩) 1 1, .slice (some ⟨wq.heap.size + 1, 0, none⟩) 1 1, .slice none 0 0] 25)
  rw [hW1] at k3 z3
  rw [s2] at z3
  rw [s1] at z2
  have sq := H2.out.size
  have kk := k1.trans ((k2.trans (k3.mono k2.size)).mono k1.size)
  exact ⟨z3, by omega, ⟨own_one (blk_on (blk_on z1 k2) k3) (by omega), own_one (blk_on z2 k3) (by omega), World.ownsRow_nil W1 W0.heap.size _ _, fun x hx hy => by
   simp only [Value.ownBlock, Option.some.injEq] at hx hy
   omega⟩, H2.out.trans (kk.mono sq)⟩)
 obtain ⟨g, hg⟩ : ∃ g, wq.heap.size = g := ⟨_, rfl⟩
 clear hW1 H2
 rw [hg] at HA ⊢
 clear hg
 go_wp2_with fail
 go_loopw [32] (fun iv wr => ∃ i : Nat, i ≤ n ∧ iv = .int .i64 (i : Int) ∧ ∃ b3 k3, Hid (MvA W0 wr (g + 1 + 1) ((n : Int) + 1) (s : Int) (.slice (some ⟨g, 0, none⟩) 1 1) (.slice (some ⟨g + 1, 0, none⟩) 1 1) (.slice b3 i k3) [0] [(n : Int)] (oneE (L.take i)))) (fun iv _ => n - (intOf iv).toNat)
 case atStart => exact ⟨0, Nat.zero_le _, rfl, none, 0, HA⟩
 case round =>
  obtain ⟨i, hi, rfl, b3, k3, HY⟩ := hrel
  clear HA
  by_cases hil : i < n
  · have i0 : (0 : Int) ≤ (i : Int) := by omega
    have i1 : (i : Int) < (n : Int) := by omega
    have hjl : i < L.length := by have := en.out; omega
    obtain ⟨ge, o, ea, q1⟩ := (hr.out.on (HD.out.1.trans (HY.out.be.mono HD.out.1.size))) i hjl
    subst ea
    have HT := hide (oneE_snoc L i hjl)
    generalize L[i] = x at q1 HT
    have HTl : Hid ((oneE (L.take i)).length = i) := hide (by rw [oneE_len, List.length_take]; omega)
    have r1 : IntKind.i64.wrap ((i : Int) + 1) = (i : Int) + 1 := by rw [IntKind.wrap_i64]; omega
    have HS0 := hide HY.out.be.size
    have z4 : wr.cell? ⟨g + 1 + 1, 4, none⟩ = some (.slice b3 i k3) := cell_of HY.out.bx rfl
    go_wp2_with (at_builtin; refine wpList_appG rfl _ _ rfl W0.heap.size (.slice b3 i k3) (oneE (L.take i)) rfl (own_below HY.out.ow.e ((Below.refl _ _).alloc (Nat.le_refl _) _)) wr.heap.size ((i : Int), x, (i : Int) + 1) rfl (World.alloc_heap_new _ _) (by have := HTl.out; omega) (by have := HS0.out; rw [World.size_alloc]; omega) ?_; intro v5 w5 HO5 HG5; obtain ⟨z5, d5, e5⟩ := own_slice HO5.out; have E5 : v5 = .slice z5 (i + 1) d5 := (by rw [e5, List.length_append, HTl.out]; rfl); clear e5; subst E5; have HQ := hide (mvA_put HY.out ((Below.refl _ _).alloc (Nat.le_refl _) _) HO5.out HG5.out); have c5 : w5.cell? ⟨g + 1 + 1, 4, none⟩ = some (.slice b3 i k3) := cell_of HQ.out.1 rfl; have f5 : w5.frozen? ⟨g + 1 + 1, 4, none⟩ = false := fz_of HQ.out.1)
    refine ⟨⟨i + 1, by omega, by go_num, z5, d5, hide (by rw [HT.out]; exact HQ.out.2)⟩, by simp [intOf]; omega⟩
  · obtain rfl : n = i := by omega
    have i1 : ¬ (n : Int) < (n : Int) := by omega
    have HZ : Hid (MvA W0 wr (g + 1 + 1) ((n : Int) + 1) (s : Int) (.slice (some ⟨g, 0, none⟩) 1 1) (.slice (some ⟨g + 1, 0, none⟩) 1 1) (.slice b3 n k3) [0] [(n : Int)] (oneE L)) := hide (by
     have q := HY.out
     rw [List.take_of_length_le (by have := en.out; omega)] at q
     exact q)
    clear HY
    have F3 := blk_on HD.out.2.2.1 HZ.out.be
    have F4 := HZ.out.bx
    obtain ⟨o0, o1, o2, o3, o4⟩ := zd5 F3 rfl rfl rfl rfl rfl
    have f0 : wr.frozen? ⟨w.heap.size + 1, 0, none⟩ = false := fz_of F3
    have f1 : wr.frozen? ⟨w.heap.size + 1, 1, none⟩ = false := fz_of F3
    have f2 : wr.frozen? ⟨w.heap.size + 1, 2, none⟩ = false := fz_of F3
    have f3 : wr.frozen? ⟨w.heap.size + 1, 3, none⟩ = false := fz_of F3
    have f4 : wr.frozen? ⟨w.heap.size + 1, 4, none⟩ = false := fz_of F3
    obtain ⟨v0, v1, v2, v3, v4⟩ := zd5 F4 rfl rfl rfl rfl rfl
    have O6 := hide (And.intro (set5 wr (w.heap.size + 1) _ _ _ _ _ (.int .i64 ((n : Int) + 1)) (.int .i64 (s : Int)) (.slice (some ⟨g, 0, none⟩) 1 1) (.slice (some ⟨g + 1, 0, none⟩) 1 1) (.slice b3 n k3) 25 F3) (only5 wr (w.heap.size + 1) (.int .i64 ((n : Int) + 1)) (.int .i64 (s : Int)) (.slice (some ⟨g, 0, none⟩) 1 1) (.slice (some ⟨g + 1, 0, none⟩) 1 1) (.slice b3 n k3)))
    have HO2 := hide (HZ.out.ow.keep F3 O6.out.2)
    clear F3 F4
    go_wp2_with fail
    refine bodyPost_ret (results_c1 (p := 4) (q := 5) (ty := 25) rfl _ _ (w.heap.size + 1) 25 _ (0, 0) _ _ rfl rfl O6.out.1 Tryz.underlying25 rfl (by kernel_rfl)) rfl ?_
    have s1 := HD.out.2.2.2
    have s2 := HZ.out.be.size
    exact ⟨_, _, _, _, _, _, rfl, hide ⟨HO2.out.down (by omega), (HD.out.1.trans (HZ.out.be.mono (by omega))).trans (O6.out.2.toBelow (by omega) (fun k hk => by omega))⟩⟩
end Go.Proofs.YtchoopnjckcohaaGreatDoor
namespace Go.Proofs.YtchoopnjckcohaaGreatDoor
open Go.RowKit Go.Maps Go.Shelf
structure Kd (α : Type) where
 ty : Nat
 sz : Nat
 val : α → Value
 cs : α → List Value
 key : α → Lit
 ok : α → Prop
 kmk : ∀ a, ok a → keyOf Tryz.prog ty (val a) = some (key a)
 inj : ∀ a b, ok a → ok b → key a = key b → a = b
 lit : ∀ a, WideAt.IsKeyLit (key a)
 len : ∀ a, (cs a).length = sz
 one : ∀ a, ∀ u ∈ cs a, u.oneCell' = true
 law : Keyed Tryz.prog ty
section
variable {α : Type} (K : Kd α)
structure IsPl (D : DataW Unit) (l : List α) : Prop where
 tidy : Tidy D
 has : ∀ s, K.ok s → (Maps.has D (K.key s) = true ↔ s ∈ l)
 at_ : ∀ i (h : i < l.length) z, D.atKey (K.key l[i]) z = .lit (.int .i64 (i : Nat))
theorem isPl_nil : IsPl K (.map []) [] := ⟨tidy_empty, fun s _ => (by constructor <;> intro h <;> cases h), fun i h => (by simp at h)⟩
variable {K}
theorem IsPl.new {D : DataW Unit} {l : List α} {s : α} (h : IsPl K D l) (hok : ∀ x ∈ l, K.ok x) (hs : s ∉ l) (ho : K.ok s) : IsPl K (D.put (K.key s) (.lit (.int .i64 (l.length : Nat)))) (l ++ [s]) := by
 refine ⟨h.tidy.put (K.lit s) _, fun t ht => ?_, fun i hi z => ?_⟩
 · by_cases e : t = s
   · subst e; rw [has_put_same h.tidy.isMap (K.lit _)]; simp
   · rw [has_put_other (fun h => e (K.inj _ _ ht ho h)), h.has t ht]; simp [e]
 · by_cases e : i < l.length
   · rw [List.getElem_append_left e]
     have hm : l[i] ∈ l := List.getElem_mem e
     rw [atKey_put_other (fun h => hs (by rw [← K.inj _ _ (hok _ hm) ho h]; exact hm)), h.at_ i e z]
   · have : i = l.length := by simp at hi; omega
     subst this
     rw [List.getElem_append_right (Nat.le_refl _)]
     simp only [Nat.sub_self, List.getElem_cons_zero]
     rw [atKey_put_same h.tidy.isMap (K.lit _)]
variable (K)
variable {K}
end
theorem laidOutP : laidOutB Tryz.prog = true := by kernel_rfl
theorem row79 : (79 : TypeId) < Tryz.prog.types.size := of_decide_eq_true (by kernel_rfl)
theorem wide79 : (match Tryz.prog.underlying 79 with | some (.array _ _) | some (.struct _) => true | _ => false) = true := by rw [Tryz.underlying79]
theorem law79 : Keyed Tryz.prog 79 := Keyed.of_law (deep_law_laid laidOutP (m := 2) (by omega) row79 (by kernel_rfl) wide79)
theorem keyTy79 : Tryz.prog.keyType 79 = true := by kernel_rfl
theorem cells79 : Tryz.prog.cellsOf 79 = 2 := by kernel_rfl
theorem cells3' : Tryz.prog.cellsOf 3 = 1 := by kernel_rfl
theorem key_pair {Q : Program} {k a : TypeId} (hu : Q.underlying k = some (.array 2 a)) (ua : Q.underlying a = some (.int .i64)) (ca : Q.cellsOf a = 1) (ck : Q.cellsOf k = 2) (hkt : Q.keyType k = true) (hk0 : k < Q.types.size) (p r : Int) (w1 : (Lit.int .i64 p).wf = true) (w2 : (Lit.int .i64 r).wf = true) : keyOf Q k (.agg #[.int .i64 p, .int .i64 r]) = some (.string (keyBytes [.int .i64 p, .int .i64 r])) := by
 obtain ⟨n, hn⟩ : ∃ n, Q.types.size = n + 1 := ⟨Q.types.size - 1, (Nat.sub_add_cancel (Nat.lt_of_le_of_lt (Nat.zero_le _) hk0)).symm⟩
 unfold keyOf
 rw [hu]
 simp only [hkt, Value.formed, hu, ck, Value.cells, hn, Program.keyLits]
 simp [ua, ca, w1, w2, List.range, List.range.loop]
abbrev PrT := Int × Int
def prV (s : PrT) : Value := .agg #[.int .i64 s.1, .int .i64 s.2]
def prC (s : PrT) : List Value := [.int .i64 s.1, .int .i64 s.2]
def kPr (s : PrT) : Lit := .string (keyBytes [.int .i64 s.1, .int .i64 s.2])
def okPr (s : PrT) : Prop := (0 ≤ s.1 ∧ s.1 ≤ 8192) ∧ 0 ≤ s.2 ∧ s.2 ≤ 8192
theorem keyPr (s : PrT) (h : okPr s) : keyOf Tryz.prog 79 (prV s) = some (kPr s) :=
 key_pair Tryz.underlying79 Tryz.underlying3 cells3' cells79 keyTy79 row79 s.1 s.2 (WalkArith.wf_i64 (by have := h.1; omega)) (WalkArith.wf_i64 (by have := h.2; omega))
theorem kPr_inj (s t : PrT) (hs : okPr s) (ht : okPr t) (h : kPr s = kPr t) : s = t := by
 have := law79.inj (keyPr s hs) (by rw [h]; exact keyPr t ht)
 obtain ⟨p, r⟩ := s
 obtain ⟨p', r'⟩ := t
 simp only [prV, Value.agg.injEq, Array.mk.injEq, List.cons.injEq, Value.int.injEq, true_and, and_true] at this
 exact Prod.ext this.1 this.2
def kPrs : Kd PrT where
 ty := 79
 sz := 2
 val := prV
 cs := prC
 key := kPr
 ok := okPr
 kmk := keyPr
 inj := kPr_inj
 lit := fun _ => trivial
 len := fun _ => rfl
 one := fun s u hu => by
  simp only [prC, List.mem_cons, List.not_mem_nil, or_false] at hu
  rcases hu with rfl | rfl <;> rfl
 law := law79
end Go.Proofs.YtchoopnjckcohaaGreatDoor
namespace Go.Proofs.YtchoopnjckcohaaGreatDoor
open Go.RowKit Go.Maps Go.Shelf
attribute [local go_sem] Oper.semAt_some
theorem look_in_run {α : Type} (K : Kd α) (w : World) (mt : TypeId) (ht : Tryz.prog.underlying mt = some (.map K.ty 3)) (b : Nat) (l : List α) (i : Nat) (hi : i < l.length) (D : DataW Unit) (hown : w.ownsMap Tryz.prog K.ty (plainElem Tryz.prog 3) b l.length D) (hp : IsPl K D l) (ho : K.ok l[i]) :
 (Instr.lookup mt (.map (some b)) (K.val l[i]) true).run Tryz.prog w = .ok (.tuple #[.int .i64 (i : Nat), .bool true]) w := by
 obtain ⟨v, ps, hrun, hv⟩ := hown.look_ok K.law ht (z := .int .i64 0) (by kernel_rfl) (plainElem_int Tryz.underlying3 (by decide)) (K.kmk _ ho)
 obtain ⟨c, rfl, hc, _⟩ := plainElem_int_inv Tryz.underlying3 hv
 have e : D.atKey (K.key l[i]) (.lit (.int .i64 0)) = .lit (.int .i64 c) := congrArg Prod.fst hc
 rw [hp.at_ i hi] at e
 simp only [DataW.lit.injEq, Lit.int.injEq, true_and] at e
 rw [hrun, (hp.has _ ho).2 (List.getElem_mem hi), ← e]
theorem look_out_run {α : Type} (K : Kd α) (w : World) (mt : TypeId) (ht : Tryz.prog.underlying mt = some (.map K.ty 3)) (b : Nat) (l : List α) (s : α) (hs : s ∉ l) (D : DataW Unit) (hown : w.ownsMap Tryz.prog K.ty (plainElem Tryz.prog 3) b l.length D) (hp : IsPl K D l) (ho : K.ok s) :
 ∃ c : Int, (Instr.lookup mt (.map (some b)) (K.val s) true).run Tryz.prog w = .ok (.tuple #[.int .i64 c, .bool false]) w := by
 obtain ⟨v, ps, hrun, hv⟩ := hown.look_ok K.law ht (z := .int .i64 0) (by kernel_rfl) (plainElem_int Tryz.underlying3 (by decide)) (K.kmk _ ho)
 obtain ⟨c, rfl, hc, _⟩ := plainElem_int_inv Tryz.underlying3 hv
 have : Maps.has D (K.key s) = false := by
  rw [Bool.eq_false_iff]; intro e; exact hs ((hp.has s ho).1 e)
 rw [this] at hrun
 exact ⟨c, hrun⟩
structure SS (D : Nat) (W : World) (b bm : Nat) (f : Value) (bud : Int) (vp ve vn : Value) (ps : List PrT) (es : List EdT) (nn : Nat) (xn : List Value) : Prop where
 bx : W.heap[b]? = some (.cells #[f, .int .i64 bud, .map (some bm), vp, ve, vn] 97 (0, 0))
 po : W.ownsRow D 79 2 vp ps.length (ps.flatMap prC)
 mo : ∃ Dm, W.ownsMap Tryz.prog 79 (plainElem Tryz.prog 3) bm ps.length Dm ∧ IsPl kPrs Dm ps
 eo : W.ownsRow D 61 3 ve es.length (es.flatMap encE)
 no : W.ownsRow D 3 1 vn nn xn
 ok : ∀ x ∈ ps, okPr x
 nd : ps.Nodup
theorem map_only {W W' : World} {k e : TypeId} {b n : Nat} {Dm : DataW Unit} {R : Nat → Prop} (o : W.ownsMap Tryz.prog k (plainElem Tryz.prog e) b n Dm) (h : Only W W' R) (hn : ¬ R b) : W'.ownsMap Tryz.prog k (plainElem Tryz.prog e) b n Dm := by
 have hlt := o.lt
 obtain ⟨es, ck, h1, h2⟩ := o
 exact ⟨es, ck, (h.block b hlt hn).trans h1, h2⟩
theorem SS.onlyR {D : Nat} {W W' : World} {b bm : Nat} {f : Value} {bud : Int} {vp ve vn : Value} {ps : List PrT} {es : List EdT} {nn : Nat} {xn : List Value} {R : Nat → Prop} (h : SS D W b bm f bud vp ve vn ps es nn xn) (o : Only W W' R) (h1 : ¬ R b) (h2 : ¬ R bm) (h3 : ∀ k, vp.ownBlock = some k → ¬ R k) (h4 : ∀ k, ve.ownBlock = some k → ¬ R k) (h5 : ∀ k, vn.ownBlock = some k → ¬ R k) : SS D W' b bm f bud vp ve vn ps es nn xn := by
 obtain ⟨Dm, hm, hp⟩ := h.mo
 exact ⟨o.cellK h.bx h1, row_only h.po o h3, ⟨Dm, map_only hm o h2, hp⟩, row_only h.eo o h4, row_only h.no o h5, h.ok, h.nd⟩
theorem SS.on {D : Nat} {W W' : World} {b bm : Nat} {f : Value} {bud : Int} {vp ve vn : Value} {ps : List PrT} {es : List EdT} {nn : Nat} {xn : List Value} (h : SS D W b bm f bud vp ve vn ps es nn xn) (d : Below W.heap.size W W') : SS D W' b bm f bud vp ve vn ps es nn xn :=
 h.onlyR (Only.ofBelow (R := fun _ => False) d) id id (fun _ _ => id) (fun _ _ => id) (fun _ _ => id)
theorem pr_new (w : World) (s : PrT) : ∀ (j : Nat) (u : Value), ([Value.int .i64 s.1, Value.int .i64 s.2])[j]? = some u → (w.alloc (.cells #[Value.int .i64 s.1, Value.int .i64 s.2] 79)).cell? ((⟨w.heap.size, 0, none⟩ : Addr).add j) = some u := by
 intro j u hu
 rw [Addr.add_lit, Nat.zero_add]
 refine cell_of (World.alloc_heap_new _ _) ?_
 rw [← hu]
 rw [List.getElem?_toArray]
theorem full_any (w : World) (D b bm : Nat) (f : Value) (bud : Int) (vp ve vn : Value) (ps : List PrT) (es : List EdT) (nn : Nat) (xn : List Value) (h : Hid (SS D w b bm f bud vp ve vn ps es nn xn)) : Calls Tryz.prog 132 #[.pointer (some ⟨b, 0, none⟩)] w fun e w' => e = .returned (.bool (decide (65536 < es.length))) ∧ w' = w := by
 obtain ⟨ae, ce, hv⟩ := own_slice h.out.eo
 have c4 : w.cell? ⟨b, 4, none⟩ = some (.slice ae es.length ce) := by rw [← hv]; exact cell_of h.out.bx rfl
 clear hv
 have e1 : (decide ((es.length : Int) > 65536)) = decide (65536 < es.length) := by rw [decide_eq_decide]; omega
 go_enter Tryz.func132, Tryz.ntmps132
 go_wp2
 go_ret
 exact ⟨by first | rfl | (rw [← e1]; rfl) | (rw [e1]), rfl⟩
theorem smeet_old (i : Nat) (w : World) (D b bm : Nat) (f : Value) (bud : Int) (vp ve vn : Value) (ps : List PrT) (es : List EdT) (nn : Nat) (xn : List Value) (s : PrT) (h : Hid (SS D w b bm f bud vp ve vn ps es nn xn)) (hi : i < ps.length) (HS : Hid (s = ps[i])) :
 Calls Tryz.prog 129 #[.pointer (some ⟨b, 0, none⟩), .agg #[.int .i64 s.1, .int .i64 s.2]] w fun e w' => e = .returned (.tuple #[.int .i64 (i : Int), .int .i64 0]) ∧ Below w.heap.size w w' := by
 obtain ⟨ap, cp, hv⟩ := own_slice h.out.po
 have HV := hide hv
 clear hv
 obtain ⟨X, hX⟩ : ∃ X, w.alloc (.cells #[Value.int .i64 s.1, Value.int .i64 s.2] 79) = X := ⟨_, rfl⟩
 have hA : Below w.heap.size w X := by rw [← hX]; exact (Below.refl _ _).alloc (Nat.le_refl _) _
 have hbx : X.heap[w.heap.size]? = some (.cells #[Value.int .i64 s.1, Value.int .i64 s.2] 79 (0, 0)) := by rw [← hX]; exact World.alloc_heap_new _ _
 have hSX := h.out.on hA
 obtain ⟨Dm, hm, hp⟩ := hSX.mo
 have c1 : X.cell? ⟨b, 1, none⟩ = some (.int .i64 bud) := cell_of hSX.bx rfl
 have c2 : X.cell? ⟨b, 2, none⟩ = some (.map (some bm)) := cell_of hSX.bx rfl
 have c3 : X.cell? ⟨b, 3, none⟩ = some (.slice ap ps.length cp) := by rw [← HV.out]; exact cell_of hSX.bx rfl
 obtain ⟨x0, x1⟩ := zd2 hbx rfl rfl
 have hlook := look_in_run kPrs X.drew 95 Tryz.underlying95 bm ps i hi Dm hm.drew hp (hSX.ok _ (List.getElem_mem hi))
 rw [← HS.out] at hlook
 have hlook' : (Instr.lookup 95 (.map (some bm)) (.agg #[.int .i64 s.1, .int .i64 s.2]) true).run Tryz.prog X.drew = _ := hlook
 clear hm hp hlook hSX hbx
 go_enter Tryz.func129, Tryz.ntmps129
 go_wp2_with fail
 go_region
 go_wp2
 refine bodyPost_ret (results_tmp2 rfl _ _ _) rfl ?_
 exact ⟨rfl, hA.drew⟩
theorem smeet_full (w : World) (D b bm : Nat) (f : Value) (bud : Int) (vp ve vn : Value) (ps : List PrT) (es : List EdT) (nn : Nat) (xn : List Value) (s : PrT) (h : Hid (SS D w b bm f bud vp ve vn ps es nn xn)) (hs : Hid (s ∉ ps)) (hok : Hid (okPr s)) (er : Int) (he : (bud ≤ (ps.length : Int) ∧ er = 9) ∨ (¬ bud ≤ (ps.length : Int) ∧ 4096 ≤ ps.length ∧ er = 8)) :
 Calls Tryz.prog 129 #[.pointer (some ⟨b, 0, none⟩), .agg #[.int .i64 s.1, .int .i64 s.2]] w fun e w' => e = .returned (.tuple #[.int .i64 0, .int .i64 er]) ∧ Below w.heap.size w w' := by
 obtain ⟨ap, cp, hv⟩ := own_slice h.out.po
 have HV := hide hv
 clear hv
 obtain ⟨X, hX⟩ : ∃ X, w.alloc (.cells #[Value.int .i64 s.1, Value.int .i64 s.2] 79) = X := ⟨_, rfl⟩
 have hA : Below w.heap.size w X := by rw [← hX]; exact (Below.refl _ _).alloc (Nat.le_refl _) _
 have hbx : X.heap[w.heap.size]? = some (.cells #[Value.int .i64 s.1, Value.int .i64 s.2] 79 (0, 0)) := by rw [← hX]; exact World.alloc_heap_new _ _
 have hSX := h.out.on hA
 obtain ⟨Dm, hm, hp⟩ := hSX.mo
 have c1 : X.cell? ⟨b, 1, none⟩ = some (.int .i64 bud) := cell_of hSX.bx rfl
 have c2 : X.cell? ⟨b, 2, none⟩ = some (.map (some bm)) := cell_of hSX.bx rfl
 have c3 : X.cell? ⟨b, 3, none⟩ = some (.slice ap ps.length cp) := by rw [← HV.out]; exact cell_of hSX.bx rfl
 obtain ⟨x0, x1⟩ := zd2 hbx rfl rfl
 obtain ⟨c, hlook⟩ := look_out_run kPrs X.drew 95 Tryz.underlying95 bm ps s hs.out Dm hm.drew hp hok.out
 have hlook' : (Instr.lookup 95 (.map (some bm)) (.agg #[.int .i64 s.1, .int .i64 s.2]) true).run Tryz.prog X.drew = _ := hlook
 have HA := hide hA
 clear hm hp hlook hSX hbx hA
 rcases he with ⟨h1, rfl⟩ | ⟨h1, h2, rfl⟩
 · have e1 : (ps.length : Int) ≥ bud := h1
   clear h1
   go_enter Tryz.func129, Tryz.ntmps129
   go_wp2_with fail
   go_region
   go_wp2
   refine bodyPost_ret (results_tmp2 rfl _ _ _) rfl ?_
   exact ⟨rfl, HA.out.drew⟩
 · have e1 : ¬ (ps.length : Int) ≥ bud := h1
   have e2 : (ps.length : Int) ≥ 4096 := by omega
   clear h1 h2
   go_enter Tryz.func129, Tryz.ntmps129
   go_wp2_with fail
   go_region
   go_wp2
   refine bodyPost_ret (results_tmp2 rfl _ _ _) rfl ?_
   exact ⟨rfl, HA.out.drew⟩
theorem infoP79 : (Tryz.prog.info? 79).map (fun i => (i.zero, i.size, i.bytes)) = some (some (.agg #[.int .i64 0, .int .i64 0]), 2, 16) := by kernel_rfl
theorem row_map {W : World} {B n m sz : Nat} {e k x : TypeId} {v : Value} {xs : List Value} {bm : Nat} {Dm : DataW Unit} (h : W.ownsRow B e sz v n xs) (hm : W.ownsMap Tryz.prog k (plainElem Tryz.prog x) bm m Dm) : v.ownBlock ≠ some bm := by
 intro hk
 obtain ⟨es, ck, q1, _⟩ := hm
 rcases h.2 with ⟨e, _⟩ | ⟨g, cap, cur, e, _, hg, _⟩
 · rw [e] at hk; cases hk
 · rw [e] at hk
   obtain rfl : g = bm := by simpa [Value.ownBlock] using hk
   rw [hg] at q1; cases q1
theorem SS.put {D : Nat} {W : World} {b bm : Nat} {f : Value} {bud : Int} {vp ve vn : Value} {ps : List PrT} {es : List EdT} {nn : Nat} {xn : List Value} {w2 w4 : World} {v' : Value} {s : PrT} {Dm : DataW Unit} (h : SS D W b bm f bud vp ve vn ps es nn xn) (hbD : b < D) (hp : IsPl kPrs Dm ps) (hm : W.ownsMap Tryz.prog 79 (plainElem Tryz.prog 3) bm ps.length Dm) (hs : s ∉ ps) (hok : okPr s)
 (hm2 : w2.ownsMap Tryz.prog 79 (plainElem Tryz.prog 3) bm (ps.length + 1) (Dm.put (kPr s) (.lit (.int .i64 (ps.length : Nat))))) (hg2 : W.grownBy w2 (some bm)) (hg4 : w2.grownBy w4 vp.ownBlock) (ho4 : w4.ownsRow D 79 2 v' (ps.length + 1) (ps.flatMap prC ++ prC s)) :
 SS D (w4.setCell ⟨b, 3, none⟩ v') b bm f bud v' ve vn (ps ++ [s]) es nn xn ∧ Only W (w4.setCell ⟨b, 3, none⟩ v') (fun k => k = b ∨ k = bm ∨ vp.ownBlock = some k) := by
 have hblt : b < W.heap.size := (Array.getElem?_eq_some_iff.1 h.bx).1
 have hbb : b ≠ bm := by
  rintro rfl
  obtain ⟨es, ck, q1, _⟩ := hm
  rw [h.bx] at q1; cases q1
 have hvb : some b ≠ vp.ownBlock := fun e => by have := (h.po.lt b e.symm).1; omega
 have hvm : some bm ≠ vp.ownBlock := fun e => row_map h.po hm e.symm
 have hm4 := hm2.kept hg4 hvm
 have hb4 : w4.heap[b]? = some (.cells #[f, .int .i64 bud, .map (some bm), vp, ve, vn] 97 (0, 0)) := (hg4.block b (Nat.lt_of_lt_of_le hblt hg2.size) hvb).trans ((hg2.block b hblt (by simp; omega)).trans h.bx)
 have o1 : Only W w2 (fun k => k = b ∨ k = bm ∨ vp.ownBlock = some k) := Only.grown hg2 (fun k hk => .inr (.inl (by cases hk; rfl)))
 have o2 : Only W w4 (fun k => k = bm ∨ vp.ownBlock = some k) := (Only.grown hg2 (R := fun k => k = bm ∨ vp.ownBlock = some k) (fun k hk => .inl (by cases hk; rfl))).trans (Only.grown hg4 (fun k hk => .inr hk))
 have o3 := only_set w4 b 3 v'
 have he4 : w4.ownsRow D 61 3 ve es.length (es.flatMap encE) := row_only h.eo o2 (fun k hk e => by
  rcases e with rfl | e
  · exact row_map h.eo hm hk
  · exact rows_differ h.po h.eo (by decide) e hk)
 have hn4 : w4.ownsRow D 3 1 vn nn xn := row_only h.no o2 (fun k hk e => by
  rcases e with rfl | e
  · exact row_map h.no hm hk
  · exact rows_differ h.po h.no (by decide) e hk)
 refine ⟨⟨?_, ?_, ⟨Dm.put (kPr s) (.lit (.int .i64 (ps.length : Nat))), ?_, ?_⟩, ?_, ?_, ?_, ?_⟩, ?_⟩
 · have := heap_setCell_same w4 b 3 _ 97 v' hb4
   simpa using this
 · rw [List.length_append, List.length_singleton, List.flatMap_append, List.flatMap_singleton]
   exact row_only ho4 o3 (fun k hk e => by have := (ho4.lt k hk).1; omega)
 · rw [List.length_append, List.length_singleton]
   obtain ⟨es, ck, h1, h2⟩ := hm4
   exact ⟨es, ck, (o3.block bm (Array.getElem?_eq_some_iff.1 h1).1 (by omega)).trans h1, h2⟩
 · exact hp.new h.ok hs hok
 · exact row_only he4 o3 (fun k hk e => by have := (he4.lt k hk).1; omega)
 · exact row_only hn4 o3 (fun k hk e => by have := (hn4.lt k hk).1; omega)
 · intro x hx
   rcases List.mem_append.1 hx with hx | hx
   · exact h.ok x hx
   · simp at hx; subst hx; exact hok
 · rw [List.nodup_append]
   exact ⟨h.nd, by simp, fun a ha b hb he => by simp at hb; subst hb; subst he; exact hs ha⟩
 · exact (o1.trans (Only.grown hg4 (fun k hk => .inr (.inr hk)))).andNew o3 (fun i _ e => .inl e)
theorem smeet_new (w : World) (D b bm : Nat) (f : Value) (bud : Int) (vp ve vn : Value) (ps : List PrT) (es : List EdT) (nn : Nat) (xn : List Value) (s : PrT) (h : Hid (SS D w b bm f bud vp ve vn ps es nn xn)) (hs : Hid (s ∉ ps)) (hok : Hid (okPr s)) (hbD : Hid (b < D ∧ D ≤ w.heap.size)) (e1 : ¬ (ps.length : Int) ≥ bud) (hl : ps.length < 4096) :
 Calls Tryz.prog 129 #[.pointer (some ⟨b, 0, none⟩), .agg #[.int .i64 s.1, .int .i64 s.2]] w fun e w' => e = .returned (.tuple #[.int .i64 (ps.length : Int), .int .i64 0]) ∧ ∃ vp', SS D w' b bm f bud vp' ve vn (ps ++ [s]) es nn xn ∧ Only w w' (fun k => k = b ∨ k = bm ∨ vp.ownBlock = some k) ∧ ∀ k, vp'.ownBlock = some k → vp.ownBlock = some k ∨ w.heap.size ≤ k := by
 obtain ⟨i0, hi, hz0, hz1, hz2⟩ := info_parts infoP79
 obtain ⟨ap, cp, hv⟩ := own_slice h.out.po
 have HV := hide hv
 obtain ⟨X, hX⟩ : ∃ X, w.alloc (.cells #[Value.int .i64 s.1, Value.int .i64 s.2] 79) = X := ⟨_, rfl⟩
 have hA : Below w.heap.size w X := by rw [← hX]; exact (Below.refl _ _).alloc (Nat.le_refl _) _
 have hzX : X.heap.size = w.heap.size + 1 := by rw [← hX]; simp
 have hbx : X.heap[w.heap.size]? = some (.cells #[Value.int .i64 s.1, Value.int .i64 s.2] 79 (0, 0)) := by rw [← hX]; exact World.alloc_heap_new _ _
 have hSX := h.out.on hA
 obtain ⟨Dm, hm, hp⟩ := hSX.mo
 have hblt : b < w.heap.size := (Array.getElem?_eq_some_iff.1 h.out.bx).1
 have hbb : b ≠ bm := by
  rintro rfl
  obtain ⟨es, ck, q1, _⟩ := hm
  rw [hSX.bx] at q1; cases q1
 have hbmlt : bm < w.heap.size := by obtain ⟨_, q, _⟩ := h.out.mo; exact q.lt
 have hvb : ∀ k, vp.ownBlock = some k → D ≤ k ∧ k < w.heap.size := fun k hk => h.out.po.lt k hk
 have c1 : X.cell? ⟨b, 1, none⟩ = some (.int .i64 bud) := cell_of hSX.bx rfl
 have c2 : X.cell? ⟨b, 2, none⟩ = some (.map (some bm)) := cell_of hSX.bx rfl
 have c3 : X.cell? ⟨b, 3, none⟩ = some (.slice ap ps.length cp) := by rw [← hv]; exact cell_of hSX.bx rfl
 obtain ⟨x0, x1⟩ := zd2 hbx rfl rfl
 have e2 : ¬ (ps.length : Int) ≥ 4096 := by omega
 have hkey := keyPr s hok.out
 obtain ⟨c, hlook⟩ := look_out_run kPrs X.drew 95 Tryz.underlying95 bm ps s hs.out Dm hm.drew hp hok.out
 have hlook' : (Instr.lookup 95 (.map (some bm)) (.agg #[.int .i64 s.1, .int .i64 s.2]) true).run Tryz.prog X.drew = _ := hlook
 obtain ⟨w5, hrun5, hm5, hg5⟩ := World.ownsMap.update (w := X.drew.drew) (t := 95) (e := 3) (show X.drew.drew.ownsMap Tryz.prog 79 (plainElem Tryz.prog 3) bm ps.length Dm from hm) law79 Tryz.underlying95 (by unfold maxLen; omega) (val := .int .i64 (ps.length : Nat)) hkey (plainElem_int Tryz.underlying3 (WalkArith.wf_i64 (by omega)))
 have hrun5' : (Instr.mapUpdate 95 (.map (some bm)) (.agg #[.int .i64 s.1, .int .i64 s.2]) (.int .i64 (ps.length : Nat))).run Tryz.prog X.drew.drew = .ok () w5 := hrun5
 have hgX : X.grownBy w5 (some bm) := ⟨hg5.os, hg5.tape, hg5.output, hg5.size, hg5.block⟩
 have hs5 : X.heap.size ≤ w5.heap.size := hgX.size
 have hb5 : w5.heap[b]? = some (.cells #[f, .int .i64 bud, .map (some bm), vp, ve, vn] 97 (0, 0)) := (hgX.block b (by omega) (by simp; omega)).trans hSX.bx
 have hx5 : w5.heap[w.heap.size]? = some (.cells #[Value.int .i64 s.1, Value.int .i64 s.2] 79 (0, 0)) := (hgX.block _ (by omega) (by simp; omega)).trans hbx
 have c05 : w5.cell? ⟨b, 3, none⟩ = some (.slice ap ps.length cp) := by rw [← hv]; exact cell_of hb5 rfl
 obtain ⟨y0, y1⟩ := zd2 hx5 rfl rfl
 have hov : w5.ownsRow D 79 2 (.slice ap ps.length cp) ps.length (ps.flatMap prC) := by
  rw [← hv]
  exact row_only (R := fun k => k = bm) hSX.po (Only.grown hgX (fun k hk => by cases hk; rfl)) (fun k hk e => by subst e; exact row_map hSX.po hm hk)
 have hDs : b < D ∧ D ≤ w.heap.size := hbD.out
 have HS6 := hide (fun (w6 : World) (hg : (w5.alloc (.cells #[Value.int .i64 s.1, Value.int .i64 s.2] 79)).drew.grownBy w6 (Value.slice ap ps.length cp).ownBlock) => show (w6.cell? ⟨b, 3, none⟩ = some (.slice ap ps.length cp) ∧ w6.cell? ⟨w.heap.size, 0, none⟩ = some (.int .i64 s.1) ∧ w6.cell? ⟨w.heap.size, 1, none⟩ = some (.int .i64 s.2)) ∧ w6.frozen? ⟨b, 3, none⟩ = false by
  rw [← hv] at hg
  have q1 : w6.heap[b]? = some (.cells #[f, .int .i64 bud, .map (some bm), vp, ve, vn] 97 (0, 0)) := (hg.block b (by simp; omega) (fun e => by have := (hvb b e.symm).1; omega)).trans ((Below.heap_alloc _ _ b (by omega)).trans hb5)
  have q2 : w6.heap[w.heap.size]? = some (.cells #[Value.int .i64 s.1, Value.int .i64 s.2] 79 (0, 0)) := (hg.block _ (by simp; omega) (fun e => by have := (hvb _ e.symm).2; omega)).trans ((Below.heap_alloc _ _ _ (by omega)).trans hx5)
  exact ⟨⟨by rw [← hv]; exact cell_of q1 rfl, cell_of q2 rfl, cell_of q2 rfl⟩, by simp [World.frozen?, q1]⟩)
 have hbw5 : b < w5.heap.size := by omega
 have hDw5 : D ≤ w5.heap.size + 1 := by omega
 have HX := hide (And.intro hm (And.intro hp (And.intro hm5 (And.intro hgX (And.intro hSX (And.intro hA (And.intro hov (And.intro hDs (And.intro hzX hs5)))))))))
 clear hm hp hlook hrun5 hg5 hgX hm5 hb5 hSX hA hv hbx hx5 hov hDs hbb hzX hs5 hvb hbmlt
 go_enter Tryz.func129, Tryz.ntmps129
 go_wp2_with fail
 go_region
 go_wp2_with fail
 go_region
 go_wp2_with fail
 have hov := HX.out.2.2.2.2.2.2.1
 have cA5 : (w5.alloc (.cells #[Value.int .i64 s.1, Value.int .i64 s.2] 79)).cell? ⟨b, 3, none⟩ = some (.slice ap ps.length cp) := (World.cell?_of_block (a := ⟨b, 3, none⟩) (Below.heap_alloc _ _ b (by omega))).trans c05
 go_region_law (refine step_append_lies _ (by rfl) _ _ _ (by rfl) D 79 i0 _ 2 16 Tryz.underlying46 hi hz0 hz1 hz2 rfl (by omega) (.slice ap ps.length cp) ps.length (ps.flatMap prC) (by rfl) (by exact hov.alloc _) ⟨w5.heap.size, 0, none⟩ 1 1 ([Value.int .i64 s.1, Value.int .i64 s.2]) (by rfl) (by rfl) (by exact pr_new w5 s) (kPrs.one s) (by omega) (by unfold maxLen; omega) (by omega) (by simp; omega) (w5.heap.size + 1) (by simp) ?_; intro gg cap2 w6 hown6 hgr6 hat hlt; have S6 := (HS6.out w6 hgr6).1; have F6 := (HS6.out w6 hgr6).2; have C6 := S6.1; have HF := hide (And.intro hown6 (And.intro hgr6 hat)); clear hown6 hgr6 hat)
 all_goals
  go_wp2
  refine bodyPost_ret (results_tmp2 rfl _ _ _) rfl ?_
  obtain ⟨ho, hgr, hat⟩ := HF.out
  obtain ⟨hm, hp, hm5, hgX, hSX, hA, _, hDs, hzX, hs5⟩ := HX.out
  have hgr2 : w5.grownBy w6 vp.ownBlock := by rw [HV.out]; exact (World.grownBy_alloc w5 (.cells #[Value.int .i64 s.1, Value.int .i64 s.2] 79) _).trans ⟨hgr.os, hgr.tape, hgr.output, hgr.size, hgr.block⟩
  obtain ⟨p1, p3⟩ := SS.put hSX hDs.1 hp hm hs.out hok.out hm5 hgX hgr2 ho
  refine ⟨rfl, _, p1, (Only.ofBelow hA).andNew p3 (fun _ _ e => e), ?_⟩
  intro k hk
  rcases hat with e | e
  · exact .inl (by rw [HV.out, e]; exact hk)
  · right
    simp [Value.ownBlock] at hk
    omega
theorem lost_any (w : World) (D b bm : Nat) (f : Value) (bud : Int) (vp ve vn : Value) (ps : List PrT) (es : List EdT) (nn : Nat) (xn : List Value) (h : Hid (SS D w b bm f bud vp ve vn ps es nn xn)) : Calls Tryz.prog 131 #[.pointer (some ⟨b, 0, none⟩)] w fun e w' => e = .returned (.bool (decide (65536 < es.length ∧ 4096 < bud))) ∧ w' = w := by
 have c1 : w.cell? ⟨b, 1, none⟩ = some (.int .i64 bud) := cell_of h.out.bx rfl
 by_cases e1 : 65536 < es.length
 · have T := full_any w D b bm f bud vp ve vn ps es nn xn h
   rw [decide_eq_true e1] at T
   have hE := hide e1
   clear e1
   go_enter Tryz.func131, Tryz.ntmps131
   go_wp2_with (go_at_call 132; refine T.mono ?_; rintro e W ⟨rfl, rfl⟩)
   go_ret
   refine ⟨?_, rfl⟩
   simp [hE.out]
 · have T := full_any w D b bm f bud vp ve vn ps es nn xn h
   rw [decide_eq_false e1] at T
   have hE := hide e1
   clear e1
   go_enter Tryz.func131, Tryz.ntmps131
   go_wp2_with (go_at_call 132; refine T.mono ?_; rintro e W ⟨rfl, rfl⟩)
   go_ret
   refine ⟨?_, rfl⟩
   simp [hE.out]
end Go.Proofs.YtchoopnjckcohaaGreatDoor
