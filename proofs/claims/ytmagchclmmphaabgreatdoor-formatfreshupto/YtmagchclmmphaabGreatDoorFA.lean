import Derived.Test.YtmagchclmmphaabGreatDoorAT
import Derived.Test.YtmagchclmmphaabGreatDoorRJ
import Derived.Test.YtmagchclmmphaabGreatDoorEG
namespace Go.Proofs.YtmagchclmmphaabGreatDoor
open Go.RowKit Go.Maps
attribute [local go_sem] Oper.semAt_some

/-! ### The symbols of an automaton's content -/
/-- The word that starts. -/
def wStart : ByteArray := ⟨#[115, 116, 97, 114, 116]⟩
def opsF (Y : List ByteArray) : List OpT := (wStart, 0) :: Y.map fun y => (y, 1)
theorem opsF_len (Y : List ByteArray) : (opsF Y).length = Y.length + 1 := by simp [opsF]
theorem opsF_next {Y : List ByteArray} {k : Nat} {y : ByteArray} (h : Y[k]? = some y) : opsF (Y.take (k + 1)) = opsF (Y.take k) ++ [(y, 1)] := by
  unfold opsF
  rw [List.take_add_one, h, List.map_append, List.cons_append]
  rfl
theorem infoOp : (Tryz.prog.info? 66).map (fun i => (i.zero, i.size, i.bytes)) = some (some (.agg #[.string ⟨#[]⟩, .int .i64 0]), 2, 24) := by kernel_rfl
theorem infoRu : (Tryz.prog.info? 68).map (fun i => (i.zero, i.size, i.bytes)) = some (some (.agg #[.string ⟨#[]⟩, .string ⟨#[]⟩, .string ⟨#[]⟩]), 3, 48) := by kernel_rfl
theorem cnewO (W : World) (x : OpT) : ∀ j u, (kOps.cs x)[j]? = some u → (W.alloc (.cells #[.string x.1, .int .i64 (x.2 : Nat)] 66)).cell? ((⟨W.heap.size, 0, none⟩ : Addr).add j) = some u := by
  intro j u hu
  rw [Addr.add_lit, Nat.zero_add]
  refine cell_of (World.alloc_heap_new W _) ?_
  match j, hu with
  | 0, hj => exact hj
  | 1, hj => exact hj
theorem cnewR (W : World) (x : RuT) : ∀ j u, (kRules.cs x)[j]? = some u → (W.alloc (.cells #[.string x.1, .string x.2.1, .string x.2.2] 68)).cell? ((⟨W.heap.size, 0, none⟩ : Addr).add j) = some u := by
  intro j u hu
  rw [Addr.add_lit, Nat.zero_add]
  refine cell_of (World.alloc_heap_new W _) ?_
  match j, hu with
  | 0, hj => exact hj
  | 1, hj => exact hj
  | 2, hj => exact hj
theorem app_O {W : World} {B : Nat} {v : Value} {O : List OpT} (h : W.ownsRow B 66 2 v O.length (O.flatMap kOps.cs)) (hB : B ≤ W.heap.size) (x : OpT) {ops : Array Oper} {rest : List Oper} {o : Oper} {a : Act} {Q : Exit → Act → World → Prop} (hgd : o.guard = none) (s y : Operand)
    (ho : o.op = .call { callee := .builtin .append, args := #[s, y], argTypes := #[29, 29] }) (hs : a.eval s = v) (hy : a.eval y = .slice (some ⟨W.heap.size, 0, none⟩) 1 1) (hl : O.length ≤ 8388608)
    (hK : ∀ a5 c5 w3, w3.ownsRow B 66 2 (.slice a5 (O.length + 1) c5) (O ++ [x]).length ((O ++ [x]).flatMap kOps.cs) → Grw W w3 v (.slice a5 (O.length + 1) c5) → wpList Tryz.prog ops Q rest (a.put o.dst (.slice a5 (O.length + 1) c5)) w3) :
    wpList Tryz.prog ops Q (o :: rest) a (W.alloc (.cells #[.string x.1, .int .i64 (x.2 : Nat)] 66)) := by
  obtain ⟨i3, hi3, hz30, hz31, hz32⟩ := info_parts infoOp
  refine wpList_append_own_at _ hgd s y _ ho B 66 i3 _ 2 24 Tryz.underlying29 hi3 hz30 hz31 hz32 rfl (by omega) v O.length (O.flatMap kOps.cs) hs (owns_below h ((Below.refl _ W).alloc (Nat.le_refl _) _)) ⟨W.heap.size, 0, none⟩ 1 1 (kOps.cs x) hy rfl (cnewO W x) (fun u hu => kOps.one x u hu) (by unfold maxLen; omega) (by omega) (by simp; omega) ?_
  intro v' w3 how hgr hnil hloc
  have hG := grw_append hgr hloc
  obtain ⟨a5, c5, rfl⟩ := rowForm how
  exact hK a5 c5 w3 (by simpa using how) hG
theorem app_R {W : World} {B : Nat} {v : Value} {O : List RuT} (h : W.ownsRow B 68 3 v O.length (O.flatMap kRules.cs)) (hB : B ≤ W.heap.size) (x : RuT) {ops : Array Oper} {rest : List Oper} {o : Oper} {a : Act} {Q : Exit → Act → World → Prop} (hgd : o.guard = none) (s y : Operand)
    (ho : o.op = .call { callee := .builtin .append, args := #[s, y], argTypes := #[30, 30] }) (hs : a.eval s = v) (hy : a.eval y = .slice (some ⟨W.heap.size, 0, none⟩) 1 1) (hl : O.length ≤ 8388608)
    (hK : ∀ a5 c5 w3, w3.ownsRow B 68 3 (.slice a5 (O.length + 1) c5) (O ++ [x]).length ((O ++ [x]).flatMap kRules.cs) → Grw W w3 v (.slice a5 (O.length + 1) c5) → wpList Tryz.prog ops Q rest (a.put o.dst (.slice a5 (O.length + 1) c5)) w3) :
    wpList Tryz.prog ops Q (o :: rest) a (W.alloc (.cells #[.string x.1, .string x.2.1, .string x.2.2] 68)) := by
  obtain ⟨i3, hi3, hz30, hz31, hz32⟩ := info_parts infoRu
  refine wpList_append_own_at _ hgd s y _ ho B 68 i3 _ 3 48 Tryz.underlying30 hi3 hz30 hz31 hz32 rfl (by omega) v O.length (O.flatMap kRules.cs) hs (owns_below h ((Below.refl _ W).alloc (Nat.le_refl _) _)) ⟨W.heap.size, 0, none⟩ 1 1 (kRules.cs x) hy rfl (cnewR W x) (fun u hu => kRules.one x u hu) (by unfold maxLen; omega) (by omega) (by simp; omega) ?_
  intro v' w3 how hgr hnil hloc
  have hG := grw_append hgr hloc
  obtain ⟨a5, c5, rfl⟩ := rowForm how
  exact hK a5 c5 w3 (by simpa using how) hG
set_option maxRecDepth 100000 in
set_option maxHeartbeats 2000000 in
theorem opsOf_any (w : World) (ay : Option Addr) (cy : Nat) (Y : List ByteArray) (hY : Hid (ReadsS w ay Y)) (hl : Y.length ≤ 4194304) :
    Calls Tryz.prog 33 #[.slice ay Y.length cy] w fun e w' => ∃ v, e = .returned v ∧ w'.ownsRow w.heap.size 66 2 v (opsF Y).length ((opsF Y).flatMap kOps.cs) ∧ Below w.heap.size w w' := by
  go_enter Tryz.func33, Tryz.ntmps33
  go_wp2_with fail
  have H0 : Hid ((w.alloc (.cells #[.string wStart, .int .i64 0] 66)).ownsRow w.heap.size 66 2 (.slice (some ⟨w.heap.size, 0, none⟩) 1 1) 1 [.string wStart, .int .i64 0] ∧ Below w.heap.size w (w.alloc (.cells #[.string wStart, .int .i64 0] 66))) := hide ⟨World.ownsRow_lit w #[.string wStart, .int .i64 0] 1 (Nat.le_refl _) (by unfold maxLen; omega) rfl, (Below.refl _ _).alloc (Nat.le_refl _) _⟩
  go_loopw [3, 10] (fun v i wr => ∃ k : Nat, k ≤ Y.length ∧ i = .int .i64 k ∧ Hid (wr.ownsRow w.heap.size 66 2 v (opsF (Y.take k)).length ((opsF (Y.take k)).flatMap kOps.cs) ∧ Below w.heap.size w wr)) (fun _ i _ => Y.length - (intOf i).toNat)
  case atStart => exact ⟨0, Nat.zero_le _, rfl, hide ⟨by simpa [opsF, kOps, wStart] using H0.out.1, H0.out.2⟩⟩
  case round =>
    obtain ⟨k, hk, rfl, HH⟩ := hrel
    clear H0
    by_cases hlt : k < Y.length
    · have i2 : (k : Int) < (Y.length : Int) := by omega
      have i3 : (0 : Int) ≤ (k : Int) := by omega
      obtain ⟨g1, o1, rfl, q0⟩ := (hY.out.below HH.out.2) k hlt
      have HN := hide (opsF_next (List.getElem?_eq_getElem hlt))
      obtain ⟨y, hy⟩ : ∃ y, Y[k] = y := ⟨_, rfl⟩
      rw [hy] at q0 HN
      have hlen : (opsF (Y.take k)).length ≤ k + 1 := by rw [opsF_len, List.length_take]; omega
      obtain ⟨O, hO⟩ : ∃ O, opsF (Y.take k) = O := ⟨_, rfl⟩
      rw [hO] at HH HN hlen
      clear hy hO
      have hsz := HH.out.2.size
      obtain ⟨a3, c3, rfl⟩ := rowForm HH.out.1
      go_wp2_with (at_builtin; refine app_O HH.out.1 hsz (y, 1) rfl _ _ rfl rfl rfl (by omega) ?_; intro a5 c5 w3 ho hG; have NX := hide (And.intro ho (HH.out.2.trans (hG.1.toBelow hsz fun k q => (HH.out.1.lt k q).1))); clear ho hG)
      exact ⟨⟨k + 1, by omega, by go_num, hide (by rw [HN.out]; exact NX.out)⟩, by simp [intOf]; omega⟩
    · obtain rfl : k = Y.length := by omega
      have i2 : ¬ (Y.length : Int) < (Y.length : Int) := by omega
      rw [List.take_length] at HH
      go_wp2
      go_ret
      exact ⟨_, rfl, HH.out.1, HH.out.2⟩
end Go.Proofs.YtmagchclmmphaabGreatDoor
namespace Go.Proofs.YtmagchclmmphaabGreatDoor
open Go.RowKit Go.Maps
attribute [local go_sem] Oper.semAt_some

/-! ### Whether an automaton may be -/
def isB (n x : Int) : Bool := decide (0 ≤ x) && decide (x < n)
theorem isB_iff {n x : Int} : isB n x = true ↔ 0 ≤ x ∧ x < n := by unfold isB; simp
def edOk (n m : Int) (e : EdT) : Bool := isB n e.1 && isB m e.2.1 && isB n e.2.2
def mayF (n m : Int) (St Fi : List Int) (Ed : List EdT) : Bool := decide (0 ≤ n ∧ n ≤ 4096 ∧ 0 ≤ m ∧ m ≤ 128 ∧ Ed.length ≤ 65536) && Ed.all (edOk n m) && St.all (isB n) && Fi.all (isB n)
theorem mayF_size {n m : Int} {St Fi : List Int} {Ed : List EdT} (h : ¬ (0 ≤ n ∧ n ≤ 4096 ∧ 0 ≤ m ∧ m ≤ 128 ∧ Ed.length ≤ 65536)) : mayF n m St Fi Ed = false := by unfold mayF; rw [decide_eq_false h]; rfl
theorem mayF_ed {n m : Int} {St Fi : List Int} {Ed : List EdT} (h : Ed.all (edOk n m) = false) : mayF n m St Fi Ed = false := by unfold mayF; rw [h]; simp
theorem all_bad {α : Type} {p : α → Bool} {l : List α} {k : Nat} {x : α} (h : l[k]? = some x) (hp : p x = false) : l.all p = false := by
  rw [List.all_eq_false]
  exact ⟨x, List.mem_of_getElem? h, by simp [hp]⟩
theorem all_nxB {α : Type} {p : α → Bool} {l : List α} {k : Nat} {x : α} (h : l[k]? = some x) (hk : (l.take k).all p = true) (hp : p x = true) : (l.take (k + 1)).all p = true := by
  rw [List.take_add_one, h, List.all_append, hk]
  simp [hp]
set_option maxRecDepth 100000 in
theorem isBelow_any (x n : Int) (w : World) : Calls Tryz.prog 54 #[.int .i64 x, .int .i64 n] w fun e w' => e = .returned (.bool (isB n x)) ∧ w' = w := by
  by_cases h : 0 ≤ x
  · by_cases h2 : x < n
    · have HE : Hid (isB n x = true) := hide (isB_iff.2 ⟨h, h2⟩)
      go_enter Tryz.func54, Tryz.ntmps54
      go_wp2
      go_ret
      exact ⟨by rw [HE.out]; rfl, rfl⟩
    · have HE : Hid (isB n x = false) := hide (by rw [Bool.eq_false_iff]; exact fun z => h2 (isB_iff.1 z).2)
      go_enter Tryz.func54, Tryz.ntmps54
      go_wp2
      go_ret
      exact ⟨by rw [HE.out]; rfl, rfl⟩
  · have HE : Hid (isB n x = false) := hide (by rw [Bool.eq_false_iff]; exact fun z => h (isB_iff.1 z).1)
    go_enter Tryz.func54, Tryz.ntmps54
    go_wp2
    go_ret
    exact ⟨by rw [HE.out]; rfl, rfl⟩
set_option maxRecDepth 100000 in
set_option maxHeartbeats 2000000 in
theorem allBelow_any (w : World) (ao : Option Addr) (cap : Nat) (L : List Int) (n : Int) (hA : Hid (RdN w ao L)) (hl : L.length ≤ 4194304) :
    Calls Tryz.prog 55 #[.slice ao L.length cap, .int .i64 n] w fun e w' => e = .returned (.bool (L.all (isB n))) ∧ w' = w := by
  go_enter Tryz.func55, Tryz.ntmps55
  go_wp2_with fail
  go_loopw [9] (fun i wr => ∃ k : Nat, k ≤ L.length ∧ i = .int .i64 k ∧ wr = w ∧ Hid ((L.take k).all (isB n) = true)) (fun i _ => L.length - (intOf i).toNat)
  case atStart => exact ⟨0, Nat.zero_le _, rfl, rfl, hide (by simp)⟩
  case round =>
    obtain ⟨k, hk, rfl, rfl, HH⟩ := hrel
    by_cases hlt : k < L.length
    · have i2 : (k : Int) < (L.length : Int) := by omega
      have i3 : (0 : Int) ≤ (k : Int) := by omega
      obtain ⟨g1, o1, rfl, q0⟩ := hA.out k hlt
      have HX : Hid (L[k]? = some L[k]) := hide (List.getElem?_eq_getElem hlt)
      obtain ⟨x, hx⟩ : ∃ x, L[k] = x := ⟨_, rfl⟩
      rw [hx] at q0 HX
      clear hx
      have T := isBelow_any x n wr
      cases hb : isB n x
      · rw [hb] at T
        have HBAD := hide (all_bad HX.out hb)
        clear hb
        go_wp2_with (go_at_call 54; refine T.mono ?_; rintro e w1 ⟨rfl, rfl⟩)
        go_ret
        exact ⟨by rw [HBAD.out]; rfl, rfl⟩
      · rw [hb] at T
        have HOK := hide (all_nxB HX.out HH.out hb)
        clear hb
        go_wp2_with (go_at_call 54; refine T.mono ?_; rintro e w1 ⟨rfl, rfl⟩)
        exact ⟨⟨k + 1, by omega, by go_num, trivial, HOK⟩, by simp [intOf]; omega⟩
    · obtain rfl : k = L.length := by omega
      have i2 : ¬ (L.length : Int) < (L.length : Int) := by omega
      rw [List.take_length] at HH
      go_wp2
      go_ret
      exact ⟨by rw [HH.out]; rfl, rfl⟩
set_option maxRecDepth 100000 in
set_option maxHeartbeats 4000000 in
theorem mayBe_any (w : World) (n m : Int) (St Fi : List Int) (Ed : List EdT) (a1 a2 a3 : Option Addr) (c1 c2 c3 : Nat) (hA : Hid (RdN w a1 St ∧ RdN w a2 Fi ∧ RdE w a3 Ed)) (h1 : St.length ≤ 4194304) (h2 : Fi.length ≤ 4194304) (h3 : Ed.length ≤ 4194304) :
    Calls Tryz.prog 30 #[.agg #[.int .i64 n, .int .i64 m, .slice a1 St.length c1, .slice a2 Fi.length c2, .slice a3 Ed.length c3]] w fun e w' => e = .returned (.bool (mayF n m St Fi Ed)) ∧ Below w.heap.size w w' := by
  obtain ⟨W0, hW0⟩ : ∃ W0, w.alloc (.cells #[.int .i64 n, .int .i64 m, .slice a1 St.length c1, .slice a2 Fi.length c2, .slice a3 Ed.length c3] 25) = W0 := ⟨_, rfl⟩
  have d0 : Below w.heap.size w W0 := by rw [← hW0]; exact (Below.refl _ _).alloc (Nat.le_refl _) _
  have B0 : W0.heap[w.heap.size]? = some (.cells #[.int .i64 n, .int .i64 m, .slice a1 St.length c1, .slice a2 Fi.length c2, .slice a3 Ed.length c3] 25 (0, 0)) := by rw [← hW0]; exact World.alloc_heap_new _ _
  have HD := hide (And.intro d0 (And.intro B0 (show w.heap.size < W0.heap.size by rw [← hW0]; simp)))
  have x0 : W0.cell? ⟨w.heap.size, 0, none⟩ = some (.int .i64 n) := cell_of B0 rfl
  have x1 : W0.cell? ⟨w.heap.size, 1, none⟩ = some (.int .i64 m) := cell_of B0 rfl
  have x4 : W0.cell? ⟨w.heap.size, 4, none⟩ = some (.slice a3 Ed.length c3) := cell_of B0 rfl
  clear d0 B0
  go_enter Tryz.func30, Tryz.ntmps30
  by_cases g0 : n < 0
  · have HF := hide (mayF_size (n := n) (m := m) (St := St) (Fi := Fi) (Ed := Ed) (by omega))
    go_wp2
    go_ret
    exact ⟨by rw [HF.out]; rfl, HD.out.1⟩
  by_cases g1 : 4096 < n
  · have HF := hide (mayF_size (n := n) (m := m) (St := St) (Fi := Fi) (Ed := Ed) (by omega))
    go_wp2
    go_ret
    exact ⟨by rw [HF.out]; rfl, HD.out.1⟩
  by_cases g2 : m < 0
  · have HF := hide (mayF_size (n := n) (m := m) (St := St) (Fi := Fi) (Ed := Ed) (by omega))
    go_wp2
    go_ret
    exact ⟨by rw [HF.out]; rfl, HD.out.1⟩
  by_cases g3 : 128 < m
  · have HF := hide (mayF_size (n := n) (m := m) (St := St) (Fi := Fi) (Ed := Ed) (by omega))
    go_wp2
    go_ret
    exact ⟨by rw [HF.out]; rfl, HD.out.1⟩
  by_cases g4 : 65536 < Ed.length
  · have HF := hide (mayF_size (n := n) (m := m) (St := St) (Fi := Fi) (Ed := Ed) (by omega))
    have i4 : (65536 : Int) < (Ed.length : Int) := by omega
    go_wp2
    go_ret
    exact ⟨by rw [HF.out]; rfl, HD.out.1⟩
  have i4 : ¬ (65536 : Int) < (Ed.length : Int) := by omega
  have HS : Hid (0 ≤ n ∧ n ≤ 4096 ∧ 0 ≤ m ∧ m ≤ 128 ∧ Ed.length ≤ 65536) := hide (by omega)
  go_wp2_with fail
  clear x0 x1 x4 hW0 g0 g1 g2 g3 g4 i4
  go_loopw [32] (fun i wr => ∃ k : Nat, k ≤ Ed.length ∧ i = .int .i64 k ∧ Hid ((Ed.take k).all (edOk n m) = true ∧ Below W0.heap.size W0 wr)) (fun i _ => Ed.length - (intOf i).toNat)
  case atStart => exact ⟨0, Nat.zero_le _, rfl, hide ⟨by simp, Below.refl _ _⟩⟩
  case round =>
    obtain ⟨k, hk, rfl, HH⟩ := hrel
    have HDW := hide (HD.out.1.trans (HH.out.2.mono HD.out.1.size))
    have HX := hide ((HH.out.2.block _ HD.out.2.2).trans HD.out.2.1)
    by_cases hlt : k < Ed.length
    · have i2 : (k : Int) < (Ed.length : Int) := by omega
      have i3 : (0 : Int) ≤ (k : Int) := by omega
      obtain ⟨b1, o1, rfl, p1, p2, p3⟩ := (hA.out.2.2.on HDW.out) k hlt
      have HK : Hid (Ed[k]? = some Ed[k]) := hide (List.getElem?_eq_getElem hlt)
      obtain ⟨s, hs⟩ : ∃ s, Ed[k] = s := ⟨_, rfl⟩
      rw [hs] at p1 p2 p3 HK
      obtain ⟨s1, s2, s3⟩ := s
      simp only at p1 p2 p3
      clear hs
      go_upto_region 6 with fail
      obtain ⟨X, hX⟩ : ∃ X, wr.alloc (.cells #[.int .i64 s1, .int .i64 s2, .int .i64 s3] 64) = X := ⟨_, rfl⟩
      rw [hX]
      have hrb : X.heap[wr.heap.size]? = some (.cells #[.int .i64 s1, .int .i64 s2, .int .i64 s3] 64 (0, 0)) := by rw [← hX]; exact World.alloc_heap_new _ _
      have dX : Below wr.heap.size wr X := by rw [← hX]; exact (Below.refl _ _).alloc (Nat.le_refl _) _
      have HDX := hide (HH.out.2.trans (dX.mono HH.out.2.size))
      have HBX := hide ((dX.block _ (Array.getElem?_eq_some_iff.1 HX.out).1).trans HX.out)
      have e0 : X.cell? ⟨wr.heap.size, 0, none⟩ = some (.int .i64 s1) := cell_of hrb rfl
      have e1 : X.cell? ⟨wr.heap.size, 1, none⟩ = some (.int .i64 s2) := cell_of hrb rfl
      have e2 : X.cell? ⟨wr.heap.size, 2, none⟩ = some (.int .i64 s3) := cell_of hrb rfl
      have y0 : X.cell? ⟨w.heap.size, 0, none⟩ = some (.int .i64 n) := cell_of HBX.out rfl
      have y1 : X.cell? ⟨w.heap.size, 1, none⟩ = some (.int .i64 m) := cell_of HBX.out rfl
      obtain ⟨bX, hbX⟩ : ∃ b, wr.heap.size = b := ⟨_, rfl⟩
      rw [hbX] at e0 e1 e2
      rw [hbX]
      clear hrb dX hX p1 p2 p3 hbX
      have T1 := isBelow_any s1 n X
      have T2 := isBelow_any s2 m X
      have T3 := isBelow_any s3 n X
      have HE : Hid (edOk n m (s1, s2, s3) = (isB n s1 && isB m s2 && isB n s3)) := hide rfl
      cases hb1 : isB n s1
      · rw [hb1] at T1
        have HBAD := hide (mayF_ed (n := n) (m := m) (St := St) (Fi := Fi) (all_bad (p := edOk n m) HK.out (by rw [HE.out, hb1]; rfl)))
        clear hb1
        go_wp2_with (go_at_call 54; refine T1.mono ?_; rintro e w1 ⟨rfl, rfl⟩)
        go_ret
        exact ⟨by rw [HBAD.out]; rfl, HD.out.1.trans (HDX.out.mono HD.out.1.size)⟩
      · rw [hb1] at T1
        cases hb2 : isB m s2
        · rw [hb2] at T2
          have HBAD := hide (mayF_ed (n := n) (m := m) (St := St) (Fi := Fi) (all_bad (p := edOk n m) HK.out (by rw [HE.out, hb1, hb2]; rfl)))
          clear hb1 hb2
          go_wp2_with (first
            | (go_at_call_of 54 (Value.int .i64 s1); refine T1.mono ?_; rintro e w1 ⟨rfl, rfl⟩)
            | (go_at_call_of 54 (Value.int .i64 s2); refine T2.mono ?_; rintro e w1 ⟨rfl, rfl⟩))
          go_ret
          exact ⟨by rw [HBAD.out]; rfl, HD.out.1.trans (HDX.out.mono HD.out.1.size)⟩
        · rw [hb2] at T2
          cases hb3 : isB n s3
          · rw [hb3] at T3
            have HBAD := hide (mayF_ed (n := n) (m := m) (St := St) (Fi := Fi) (all_bad (p := edOk n m) HK.out (by rw [HE.out, hb1, hb2, hb3]; rfl)))
            clear hb1 hb2 hb3
            go_wp2_with (first
              | (go_at_call_of 54 (Value.int .i64 s1); refine T1.mono ?_; rintro e w1 ⟨rfl, rfl⟩)
              | (go_at_call_of 54 (Value.int .i64 s2); refine T2.mono ?_; rintro e w1 ⟨rfl, rfl⟩)
              | (go_at_call_of 54 (Value.int .i64 s3); refine T3.mono ?_; rintro e w1 ⟨rfl, rfl⟩))
            go_ret
            exact ⟨by rw [HBAD.out]; rfl, HD.out.1.trans (HDX.out.mono HD.out.1.size)⟩
          · rw [hb3] at T3
            have HOK := hide (all_nxB HK.out HH.out.1 (show edOk n m (s1, s2, s3) = true by rw [HE.out, hb1, hb2, hb3]; rfl))
            clear hb1 hb2 hb3
            go_wp2_with (first
              | (go_at_call_of 54 (Value.int .i64 s1); refine T1.mono ?_; rintro e w1 ⟨rfl, rfl⟩)
              | (go_at_call_of 54 (Value.int .i64 s2); refine T2.mono ?_; rintro e w1 ⟨rfl, rfl⟩)
              | (go_at_call_of 54 (Value.int .i64 s3); refine T3.mono ?_; rintro e w1 ⟨rfl, rfl⟩))
            exact ⟨⟨k + 1, by omega, by go_num, hide ⟨HOK.out, HDX.out⟩⟩, by simp [intOf]; omega⟩
    · obtain rfl : k = Ed.length := by omega
      have i2 : ¬ (Ed.length : Int) < (Ed.length : Int) := by omega
      rw [List.take_length] at HH
      have y0 : wr.cell? ⟨w.heap.size, 0, none⟩ = some (.int .i64 n) := cell_of HX.out rfl
      have y2 : wr.cell? ⟨w.heap.size, 2, none⟩ = some (.slice a1 St.length c1) := cell_of HX.out rfl
      have y3 : wr.cell? ⟨w.heap.size, 3, none⟩ = some (.slice a2 Fi.length c2) := cell_of HX.out rfl
      have HM : Hid (mayF n m St Fi Ed = (St.all (isB n) && Fi.all (isB n))) := hide (by unfold mayF; rw [decide_eq_true HS.out, HH.out.1]; rfl)
      have T1 := allBelow_any wr a1 c1 St n (hide (hA.out.1.on HDW.out)) h1
      have T2 := allBelow_any wr a2 c2 Fi n (hide (hA.out.2.1.on HDW.out)) h2
      cases hb1 : St.all (isB n)
      · rw [hb1] at T1
        rw [hb1] at HM
        clear hb1
        go_wp2_with (go_at_call 55; refine T1.mono ?_; rintro e w1 ⟨rfl, rfl⟩)
        go_ret
        exact ⟨by rw [HM.out]; rfl, HDW.out⟩
      · rw [hb1] at T1
        rw [hb1] at HM
        clear hb1
        go_wp2_with (first
          | (go_at_call_of 55 (Value.slice a1 St.length c1); refine T1.mono ?_; rintro e w1 ⟨rfl, rfl⟩)
          | (go_at_call_of 55 (Value.slice a2 Fi.length c2); refine T2.mono ?_; rintro e w1 ⟨rfl, rfl⟩))
        go_ret
        exact ⟨by rw [HM.out]; simp, HDW.out⟩
end Go.Proofs.YtmagchclmmphaabGreatDoor
