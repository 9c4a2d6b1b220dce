import Derived.Test.YtmagchclmmphaabGreatDoorBV
import Derived.Deep.RegionHeld3
import Derived.RangeFuncRecord
import Derived.Test.YtmagchclmmphaabGreatDoorSR
namespace Go.Proofs.YtmagchclmmphaabGreatDoor
open Go.RowKit Go.Maps
attribute [local go_sem] Oper.semAt_some

/-- Ops in a row, whatever their arities. -/
abbrev OpI := ByteArray × Int
def RdO (W : World) (ao : Option Addr) (L : List OpI) : Prop := ∀ (j : Nat) (h : j < L.length), ∃ g o, ao = some ⟨g, o, none⟩ ∧ W.cell? ⟨g, o + j * 2, none⟩ = some (.string L[j].1) ∧ W.cell? ⟨g, o + j * 2 + 1, none⟩ = some (.int .i64 L[j].2)
theorem RdO.on {W W' : World} {ao : Option Addr} {L : List OpI} (h : RdO W ao L) (d : Below W.heap.size W W') : RdO W' ao L := fun j hj => by
  obtain ⟨g, o, e, c, c1⟩ := h j hj
  exact ⟨g, o, e, (d.cell (p := ⟨g, o + j * 2, none⟩) (World.block_lt_of_cell? W _ c)).trans c, (d.cell (p := ⟨g, o + j * 2 + 1, none⟩) (World.block_lt_of_cell? W _ c1)).trans c1⟩
def opOk (x : OpI) : Bool := vld x.1 && decide (0 ≤ x.2) && decide (x.2 ≤ 1)
theorem opOk_neg {x : OpI} {a : Int} (h : x.2 = a) (h0 : a < 0) : opOk x = false := by
  unfold opOk; rw [h, decide_eq_false (show ¬ 0 ≤ a by omega)]; simp
theorem opOk_big {x : OpI} {a : Int} (h : x.2 = a) (h0 : 1 < a) : opOk x = false := by
  unfold opOk; rw [h, decide_eq_false (show ¬ a ≤ 1 by omega)]; simp
theorem opOk_nm {x : OpI} {s : ByteArray} (h : x.1 = s) (h0 : vld s = false) : opOk x = false := by
  unfold opOk; rw [h, h0]; simp
theorem opOk_yes {x : OpI} {s : ByteArray} {a : Int} (h : x.1 = s) (h' : x.2 = a) (h0 : vld s = true) (h1 : ¬ a < 0) (h2 : ¬ 1 < a) : opOk x = true := by
  unfold opOk; rw [h, h', h0, decide_eq_true (show 0 ≤ a by omega), decide_eq_true (show a ≤ 1 by omega)]; rfl
def namesOk (ti : ByteArray) (O : List OpI) (S : List ByteArray) : Bool := O.all opOk && S.all vld && vld ti
theorem all_next {α : Type} {p : α → Bool} {l : List α} {k : Nat} (hk : k < l.length) (h : (l.take k).all p = true) (h2 : p l[k] = true) : (l.take (k + 1)).all p = true := by
  rw [List.take_succ_eq_append_getElem hk, List.all_append, h]; simp [h2]
theorem all_not {α : Type} {p : α → Bool} {l : List α} {k : Nat} (hk : k < l.length) (h : p l[k] = false) : l.all p = false := by
  rw [List.all_eq_false]; exact ⟨l[k], List.getElem_mem hk, by simp [h]⟩
def fileV (ti : ByteArray) (ao : Option Addr) (no co : Nat) (asx : Option Addr) (ns cs : Nat) (af : Option Addr) (nf cf : Nat) (ar : Option Addr) (nr cr : Nat) : Value := .agg #[.string ti, .slice ao no co, .slice asx ns cs, .slice af nf cf, .slice ar nr cr]

set_option maxRecDepth 100000 in
set_option maxHeartbeats 2000000 in
theorem names_any (w : World) (ti : ByteArray) (ao asx : Option Addr) (co cs : Nat) (O : List OpI) (S : List ByteArray) (af ar : Option Addr) (nf cf nr cr : Nat) (hT : Hid (BytesAt w ∧ 1 < w.heap.size)) (hO : Hid (RdO w ao O)) (hS : Hid (ReadsS w asx S)) (hlo : O.length ≤ 4194304) (hls : S.length ≤ 4194304) :
    Calls Tryz.prog 67 #[.agg #[.string ti, .slice ao O.length co, .slice asx S.length cs, .slice af nf cf, .slice ar nr cr]] w fun e w' => e = .returned (.bool (namesOk ti O S)) ∧ Below w.heap.size w w' := by
  obtain ⟨W0, hW0⟩ : ∃ W0, w.alloc (.cells #[.string ti, .slice ao O.length co, .slice asx S.length cs, .slice af nf cf, .slice ar nr cr] 32) = W0 := ⟨_, rfl⟩
  have d0 : Below w.heap.size w W0 := by rw [← hW0]; exact (Below.refl _ _).alloc (Nat.le_refl _) _
  have b0 : W0.heap[w.heap.size]? = some (.cells #[.string ti, .slice ao O.length co, .slice asx S.length cs, .slice af nf cf, .slice ar nr cr] 32 (0, 0)) := by rw [← hW0]; exact World.alloc_heap_new _ _
  have z0 : w.heap.size < W0.heap.size := by rw [← hW0]; simp
  have HT : Hid (BytesAt W0 ∧ 1 < W0.heap.size) := hide ⟨hT.out.1.below d0 hT.out.2, Nat.lt_of_lt_of_le hT.out.2 d0.size⟩
  have HO := hide (hO.out.on d0)
  have HS := hide (hS.out.below d0)
  have HD := hide (And.intro d0 (And.intro b0 z0))
  clear hT hO hS d0
  have k1 : W0.cell? ⟨w.heap.size, 1, none⟩ = some (.slice ao O.length co) := cell_of b0 rfl
  clear b0 z0
  go_enter Tryz.func67, Tryz.ntmps67
  go_wp2_with fail
  go_loopw [10] (fun i wr => ∃ k : Nat, k ≤ O.length ∧ i = .int .i64 k ∧ Hid ((O.take k).all opOk = true) ∧ Hid (Below W0.heap.size W0 wr)) (fun i _ => O.length - (intOf i).toNat)
  case atStart => exact ⟨0, Nat.zero_le _, rfl, hide (by simp), hide (Below.refl _ _)⟩
  case round =>
    obtain ⟨k, hk, rfl, HA, HB⟩ := hrel
    clear k1
    by_cases hlt : k < O.length
    · obtain ⟨g, o, rfl, q0, q1⟩ := (HO.out.on HB.out) k hlt
      have i2 : (k : Int) < (O.length : Int) := by omega
      have i3 : (0 : Int) ≤ (k : Int) := by omega
      obtain ⟨s, hs⟩ : ∃ s, O[k].1 = s := ⟨_, rfl⟩
      obtain ⟨a, ha⟩ : ∃ a, O[k].2 = a := ⟨_, rfl⟩
      rw [hs] at q0
      rw [ha] at q1
      have HX := hide (And.intro hs ha)
      clear hs ha
      by_cases hv : vld s = true
      · by_cases h0 : a < 0
        · have HR := hide (show namesOk ti O S = false by unfold namesOk; rw [all_not hlt (opOk_neg HX.out.2 h0)]; rfl)
          go_wp2_with (go_at_call 31; refine (valid_any _ _ (HT.out.1.below (HB.out.alloc HB.out.size _) HT.out.2) (Nat.lt_of_lt_of_le HT.out.2 (Nat.le_trans HB.out.size (by simp)))).mono ?_; rintro e w' ⟨rfl, hb'⟩; rw [hv]; have q2 := (hb'.cell (p := ⟨wr.heap.size, 1, none⟩) (by simp)).trans (cell_of (j := 1) (World.alloc_heap_new wr (.cells #[.string s, .int .i64 a] 66)) rfl))
          go_ret
          exact ⟨by rw [HR.out]; rfl, HD.out.1.trans (((HB.out.alloc HB.out.size _).trans (hb'.mono (Nat.le_trans HB.out.size (by simp)))).mono HD.out.1.size)⟩
        · by_cases h1 : 1 < a
          · have h1' : a > 1 := h1
            have HR := hide (show namesOk ti O S = false by unfold namesOk; rw [all_not hlt (opOk_big HX.out.2 h1)]; rfl)
            go_wp2_with (go_at_call 31; refine (valid_any _ _ (HT.out.1.below (HB.out.alloc HB.out.size _) HT.out.2) (Nat.lt_of_lt_of_le HT.out.2 (Nat.le_trans HB.out.size (by simp)))).mono ?_; rintro e w' ⟨rfl, hb'⟩; rw [hv]; have q2 := (hb'.cell (p := ⟨wr.heap.size, 1, none⟩) (by simp)).trans (cell_of (j := 1) (World.alloc_heap_new wr (.cells #[.string s, .int .i64 a] 66)) rfl))
            go_ret
            exact ⟨by rw [HR.out]; rfl, HD.out.1.trans (((HB.out.alloc HB.out.size _).trans (hb'.mono (Nat.le_trans HB.out.size (by simp)))).mono HD.out.1.size)⟩
          · have h1' : ¬ a > 1 := h1
            have HN := hide (all_next hlt HA.out (opOk_yes HX.out.1 HX.out.2 hv h0 h1))
            go_wp2_with (go_at_call 31; refine (valid_any _ _ (HT.out.1.below (HB.out.alloc HB.out.size _) HT.out.2) (Nat.lt_of_lt_of_le HT.out.2 (Nat.le_trans HB.out.size (by simp)))).mono ?_; rintro e w' ⟨rfl, hb'⟩; rw [hv]; have q2 := (hb'.cell (p := ⟨wr.heap.size, 1, none⟩) (by simp)).trans (cell_of (j := 1) (World.alloc_heap_new wr (.cells #[.string s, .int .i64 a] 66)) rfl))
            go_roundw
            case rel => exact ⟨k + 1, by omega, by go_num, HN, hide ((HB.out.alloc HB.out.size _).trans (hb'.mono (Nat.le_trans HB.out.size (by simp))))⟩
            case measure => simp [intOf]; omega
      · have hv : vld s = false := by simpa using hv
        have HR := hide (show namesOk ti O S = false by unfold namesOk; rw [all_not hlt (opOk_nm HX.out.1 hv)]; rfl)
        go_wp2_with (go_at_call 31; refine (valid_any _ _ (HT.out.1.below (HB.out.alloc HB.out.size _) HT.out.2) (Nat.lt_of_lt_of_le HT.out.2 (Nat.le_trans HB.out.size (by simp)))).mono ?_; rintro e w' ⟨rfl, hb'⟩; rw [hv]; have q2 := (hb'.cell (p := ⟨wr.heap.size, 1, none⟩) (by simp)).trans (cell_of (j := 1) (World.alloc_heap_new wr (.cells #[.string s, .int .i64 a] 66)) rfl))
        go_ret
        exact ⟨by rw [HR.out]; rfl, HD.out.1.trans (((HB.out.alloc HB.out.size _).trans (hb'.mono (Nat.le_trans HB.out.size (by simp)))).mono HD.out.1.size)⟩
    · obtain rfl : k = O.length := by omega
      have hO : O.all opOk = true := by have := HA.out; rwa [List.take_length] at this
      have HAO := hide hO
      have k2 : wr.cell? ⟨w.heap.size, 2, none⟩ = some (.slice asx S.length cs) := (HB.out.cell (p := ⟨w.heap.size, 2, none⟩) HD.out.2.2).trans (cell_of HD.out.2.1 rfl)
      have k0 : wr.cell? ⟨w.heap.size, 0, none⟩ = some (.string ti) := (HB.out.cell (p := ⟨w.heap.size, 0, none⟩) HD.out.2.2).trans (cell_of HD.out.2.1 rfl)
      have i2 : ¬ (O.length : Int) < (O.length : Int) := by omega
      clear hO HA hlt hk
      obtain ⟨wm, rfl⟩ : ∃ wm, wm = wr := ⟨_, rfl⟩
      go_wp2_with fail
      go_loopw [32] (fun i wr => ∃ k : Nat, k ≤ S.length ∧ i = .int .i64 k ∧ Hid ((S.take k).all vld = true) ∧ Hid (Below wm.heap.size wm wr)) (fun i _ => S.length - (intOf i).toNat)
      case atStart => exact ⟨0, Nat.zero_le _, rfl, hide (by simp), hide (Below.refl _ _)⟩
      case round =>
        obtain ⟨k, hk, rfl, HA, HC⟩ := hrel
        have HE := hide (HB.out.trans (HC.out.mono HB.out.size))
        by_cases hlt : k < S.length
        · obtain ⟨g, o, rfl, q0⟩ := (HS.out.below HE.out) k hlt
          have j2 : (k : Int) < (S.length : Int) := by omega
          have j3 : (0 : Int) ≤ (k : Int) := by omega
          obtain ⟨s, hs⟩ : ∃ s, S[k] = s := ⟨_, rfl⟩
          rw [hs] at q0
          have HX := hide hs
          clear hs k2 k0
          by_cases hv : vld s = true
          · have HN := hide (all_next hlt HA.out (by rw [HX.out]; exact hv))
            go_wp2_with (go_at_call 31; refine (valid_any _ _ (HT.out.1.below HE.out HT.out.2) (Nat.lt_of_lt_of_le HT.out.2 HE.out.size)).mono ?_; rintro e w' ⟨rfl, hb'⟩; rw [hv])
            go_roundw
            case rel => exact ⟨k + 1, by omega, by go_num, HN, hide (HC.out.trans (hb'.mono HC.out.size))⟩
            case measure => simp [intOf]; omega
          · have hv : vld s = false := by simpa using hv
            have HR := hide (show namesOk ti O S = false by unfold namesOk; rw [all_not hlt (by rw [HX.out]; exact hv)]; simp)
            go_wp2_with (go_at_call 31; refine (valid_any _ _ (HT.out.1.below HE.out HT.out.2) (Nat.lt_of_lt_of_le HT.out.2 HE.out.size)).mono ?_; rintro e w' ⟨rfl, hb'⟩; rw [hv])
            go_ret
            exact ⟨by rw [HR.out]; rfl, HD.out.1.trans ((HE.out.trans (hb'.mono HE.out.size)).mono HD.out.1.size)⟩
        · obtain rfl : k = S.length := by omega
          have j2 : ¬ (S.length : Int) < (S.length : Int) := by omega
          have HR := hide (show namesOk ti O S = vld ti by
            have := HA.out
            rw [List.take_length] at this
            unfold namesOk; rw [HAO.out, this]; rfl)
          have m0 : wr.cell? ⟨w.heap.size, 0, none⟩ = some (.string ti) := (HC.out.cell (p := ⟨w.heap.size, 0, none⟩) (World.block_lt_of_cell? wm _ k0)).trans k0
          clear k2 k0
          go_wp2_with (go_at_call 31; refine (valid_any _ _ (HT.out.1.below HE.out HT.out.2) (Nat.lt_of_lt_of_le HT.out.2 HE.out.size)).mono ?_; rintro e w' ⟨rfl, hb'⟩)
          go_ret
          exact ⟨by rw [HR.out]; rfl, HD.out.1.trans ((HE.out.trans (hb'.mono HE.out.size)).mono HD.out.1.size)⟩
end Go.Proofs.YtmagchclmmphaabGreatDoor
namespace Go.Proofs.YtmagchclmmphaabGreatDoor
open Go.RowKit Go.Maps

/-- How many different items a list holds. -/
def dcF {α : Type} [DecidableEq α] : List α → Nat
  | [] => 0
  | a :: l => if a ∈ l then dcF l else dcF l + 1
theorem dcF_add {α : Type} [DecidableEq α] (l : List α) (s : α) : dcF (l ++ [s]) = if s ∈ l then dcF l else dcF l + 1 := by
  induction l with
  | nil => simp [dcF]
  | cons a l ih =>
    rw [List.cons_append]
    unfold dcF
    rw [ih]
    by_cases h1 : a ∈ l <;> by_cases h2 : s ∈ l <;> by_cases h3 : a = s
    all_goals simp [h1, h2, h3, eq_comm]
    all_goals (first | (subst h3; contradiction) | (have h4 : ¬ s = a := fun e => h3 e.symm; simp [h4]) | skip)
theorem dcF_le {α : Type} [DecidableEq α] (l : List α) : dcF l ≤ l.length := by
  induction l with
  | nil => exact Nat.le_refl _
  | cons a l ih => unfold dcF; split <;> simp <;> omega
theorem dcF_nodup {α : Type} [DecidableEq α] (l : List α) : dcF l < l.length ↔ ¬ l.Nodup := by
  induction l with
  | nil => simp [dcF]
  | cons a l ih =>
    have := dcF_le l
    unfold dcF
    rw [List.nodup_cons]
    split
    · rename_i h
      simp [h]; omega
    · rename_i h
      simp [h, ih]

/-- A map of the items of a list. -/
structure PlM {α : Type} [DecidableEq α] (K : Kd α) (W : World) (bm : Nat) (l : List α) : Prop where
  own : ∃ D, W.ownsMap Tryz.prog K.ty (plainElem Tryz.prog 3) bm l.length D ∧ Tidy D ∧ (∀ s, K.ok s → (Maps.has D (K.key s) = true ↔ s ∈ l)) ∧ Maps.size D = dcF l ∧ (l.Nodup → IsPl K D l)
theorem PlM.nil {α : Type} [DecidableEq α] (K : Kd α) (w : World) : PlM K (w.alloc (.map #[] 0)) w.heap.size ([] : List α) :=
  ⟨⟨.map [], World.ownsMap_made w _ _ _, tidy_empty, fun s _ => (by constructor <;> intro h <;> cases h), rfl, fun _ => isPl_nil K⟩⟩
theorem PlM.step {α : Type} [DecidableEq α] {K : Kd α} {W' : World} {bm : Nat} {l : List α} {s : α} {D : DataW Unit} (hok : ∀ x ∈ l, K.ok x) (ho : K.ok s) (ht : Tidy D) (hh : ∀ s, K.ok s → (Maps.has D (K.key s) = true ↔ s ∈ l)) (hz : Maps.size D = dcF l) (hp : l.Nodup → IsPl K D l)
    (h : W'.ownsMap Tryz.prog K.ty (plainElem Tryz.prog 3) bm (l.length + 1) (D.put (K.key s) (.lit (.int .i64 (l.length : Nat))))) : PlM K W' bm (l ++ [s]) := by
  refine ⟨⟨_, by rw [List.length_append, List.length_singleton]; exact h, ht.put (K.lit s) _, fun t htk => ?_, ?_, fun hn => ?_⟩⟩
  · by_cases e : t = s
    · subst e; rw [has_put_same ht.isMap (K.lit _)]; simp
    · rw [has_put_other (fun h => e (K.inj _ _ htk ho h)), hh t htk]; simp [e]
  · rw [size_put ht, dcF_add, hz]
    by_cases hs : s ∈ l
    · rw [if_pos ((hh s ho).2 hs), if_pos hs]
    · rw [if_neg (fun e => hs ((hh s ho).1 e)), if_neg hs]
  · have hs : s ∉ l := by
      rw [List.nodup_append] at hn
      intro hm
      exact hn.2.2 s hm s (by simp) rfl
    exact (hp (List.nodup_append.1 hn).1).new hok hs ho
theorem PlM.grown {α : Type} [DecidableEq α] {K : Kd α} {W W' : World} {bm : Nat} {l : List α} (h : PlM K W bm l) (d : Below W.heap.size W W') : PlM K W' bm l := by
  obtain ⟨D, ⟨es, ck, h1, h2⟩, r⟩ := h.own
  exact ⟨⟨D, ⟨es, ck, (d.block bm (Array.getElem?_eq_some_iff.1 h1).1).trans h1, h2⟩, r⟩⟩

/-- Ops as they lie, with their arities as numbers; rules. -/
def RdOp (W : World) (ao : Option Addr) (L : List OpT) : Prop := ∀ (j : Nat) (h : j < L.length), ∃ g o, ao = some ⟨g, o, none⟩ ∧ W.cell? ⟨g, o + j * 2, none⟩ = some (.string L[j].1) ∧ W.cell? ⟨g, o + j * 2 + 1, none⟩ = some (.int .i64 (L[j].2 : Nat))
theorem RdOp.on {W W' : World} {ao : Option Addr} {L : List OpT} (h : RdOp W ao L) (d : Below W.heap.size W W') : RdOp W' ao L := fun j hj => by
  obtain ⟨g, o, e, c, c1⟩ := h j hj
  exact ⟨g, o, e, (d.cell (p := ⟨g, o + j * 2, none⟩) (World.block_lt_of_cell? W _ c)).trans c, (d.cell (p := ⟨g, o + j * 2 + 1, none⟩) (World.block_lt_of_cell? W _ c1)).trans c1⟩
def RdRu (W : World) (ao : Option Addr) (L : List RuT) : Prop := ∀ (j : Nat) (h : j < L.length), ∃ g o, ao = some ⟨g, o, none⟩ ∧ W.cell? ⟨g, o + j * 3, none⟩ = some (.string L[j].1) ∧ W.cell? ⟨g, o + j * 3 + 1, none⟩ = some (.string L[j].2.1) ∧ W.cell? ⟨g, o + j * 3 + 2, none⟩ = some (.string L[j].2.2)
theorem RdRu.on {W W' : World} {ao : Option Addr} {L : List RuT} (h : RdRu W ao L) (d : Below W.heap.size W W') : RdRu W' ao L := fun j hj => by
  obtain ⟨g, o, e, c, c1, c2⟩ := h j hj
  exact ⟨g, o, e, (d.cell (p := ⟨g, o + j * 3, none⟩) (World.block_lt_of_cell? W _ c)).trans c, (d.cell (p := ⟨g, o + j * 3 + 1, none⟩) (World.block_lt_of_cell? W _ c1)).trans c1, (d.cell (p := ⟨g, o + j * 3 + 2, none⟩) (World.block_lt_of_cell? W _ c2)).trans c2⟩
theorem mk_hint {t k e : TypeId} (h : Tryz.prog.underlying t = some (.map k e)) (n : Int) (W : World) : (Instr.makeMap t (some (.int .i64 n))).run Tryz.prog W = .ok (.map (some W.heap.size)) (W.alloc (.map #[] 0)) := by
  simp [Instr.makeMap, run_underlying h, asInt, asIntOf, Result.andThen]
theorem PlM.add {α : Type} [DecidableEq α] {K : Kd α} {W : World} {bm k : Nat} {L : List α} {D : DataW Unit} (hk : k < L.length) (hok : ∀ x ∈ L, K.ok x) (ht : Tidy D) (hh : ∀ s, K.ok s → (Maps.has D (K.key s) = true ↔ s ∈ L.take k)) (hz : Maps.size D = dcF (L.take k)) (hp : (L.take k).Nodup → IsPl K D (L.take k))
    (h : W.ownsMap Tryz.prog K.ty (plainElem Tryz.prog 3) bm ((L.take k).length + 1) (D.put (K.key L[k]) (.lit (.int .i64 (k : Nat))))) : PlM K W bm (L.take (k + 1)) := by
  rw [List.take_succ_eq_append_getElem hk]
  refine PlM.step (fun x hx => hok x (List.mem_of_mem_take hx)) (hok _ (List.getElem_mem hk)) ht hh hz hp ?_
  have hl : (L.take k).length = k := by rw [List.length_take]; omega
  rw [hl] at h ⊢
  exact h

set_option maxRecDepth 100000 in
set_option maxHeartbeats 2000000 in
theorem plOps_any (w : World) (ao : Option Addr) (cap : Nat) (L : List OpT) (hR : Hid (RdOp w ao L)) (hok : Hid (∀ x ∈ L, kOps.ok x)) (hl : L.length ≤ 4194304) :
    Calls Tryz.prog 96 #[.slice ao L.length cap] w fun e w' => e = .returned (.map (some w.heap.size)) ∧ PlM kOps w' w.heap.size L ∧ Below w.heap.size w w' := by
  have hmk := fun W => mk_hint Tryz.underlying112 (L.length : Int) W
  go_enter Tryz.func96, Tryz.ntmps96
  go_wp2_with fail
  go_loopw [11] (fun i wr => ∃ k : Nat, k ≤ L.length ∧ i = .int .i64 k ∧ Hid (PlM kOps wr w.heap.size (L.take k)) ∧ Hid (Below w.heap.size w wr)) (fun i _ => L.length - (intOf i).toNat)
  case atStart => exact ⟨0, Nat.zero_le _, rfl, hide (PlM.nil kOps w), hide ((Below.refl _ _).alloc (Nat.le_refl _) _)⟩
  case round =>
    obtain ⟨k, hk, rfl, HP, HB⟩ := hrel
    by_cases hlt : k < L.length
    · obtain ⟨g, o, rfl, q0, q1⟩ := (hR.out.on HB.out) k hlt
      have i2 : (k : Int) < (L.length : Int) := by omega
      have i3 : (0 : Int) ≤ (k : Int) := by omega
      obtain ⟨D, hD, hti, hhas, hsz, hpl⟩ := HP.out.own
      obtain ⟨s, hs⟩ : ∃ s, L[k].1 = s := ⟨_, rfl⟩
      obtain ⟨a, ha⟩ : ∃ a, L[k].2 = a := ⟨_, rfl⟩
      have hkey : keyOf Tryz.prog 66 (.agg #[.string s, .int .i64 (a : Nat)]) = some (kOps.key L[k]) := by
        rw [← hs, ← ha]
        exact kOps.kmk L[k] (hok.out _ (List.getElem_mem hlt))
      rw [hs] at q0
      rw [ha] at q1
      have HQ := hide (And.intro hti (And.intro hhas (And.intro hsz hpl)))
      have hle : (L.take k).length ≤ 4194304 := by rw [List.length_take]; omega
      clear hs ha hti hhas hsz hpl
      go_wp2_with (at_mapUpdate; refine wpList_mapUpdate_own _ rfl _ _ _ 112 rfl 66 3 kOps.law Tryz.underlying112 _ w.heap.size (L.take k).length D rfl (hD.alloc _) (by unfold maxLen; omega) _ _ _ rfl rfl hkey _ [] (plainElem_int Tryz.underlying3 (WalkArith.wf_i64 (by omega))) ?_; intro w5 hm5 hg5)
      go_roundw
      case rel =>
        obtain ⟨hti, hhas, hsz, hpl⟩ := HQ.out
        exact ⟨k + 1, by omega, by go_num, hide (PlM.add hlt hok.out hti hhas hsz hpl hm5), hide ((HB.out.alloc HB.out.size _).grown hg5 (Nat.le_trans HB.out.size (by simp)) (fun k hk => by cases hk; exact Nat.le_refl _))⟩
      case measure => simp [intOf]; omega
    · obtain rfl : k = L.length := by omega
      have i2 : ¬ (L.length : Int) < (L.length : Int) := by omega
      have HP2 := hide (show PlM kOps wr w.heap.size L by have := HP.out; rwa [List.take_length] at this)
      go_wp2
      go_ret
      exact ⟨rfl, HP2.out, HB.out⟩

set_option maxRecDepth 100000 in
set_option maxHeartbeats 2000000 in
theorem twoOps_any (w : World) (ao : Option Addr) (cap : Nat) (L : List OpT) (hR : Hid (RdOp w ao L)) (hok : Hid (∀ x ∈ L, kOps.ok x)) (hl : L.length ≤ 4194304) :
    Calls Tryz.prog 68 #[.slice ao L.length cap] w fun e w' => e = .returned (.bool (!decide L.Nodup)) ∧ Below w.heap.size w w' := by
  go_enter Tryz.func68, Tryz.ntmps68
  go_wp2_with fail
  refine (plOps_any w ao cap L hR hok hl).mono ?_
  rintro e w1 ⟨rfl, hP, hb⟩
  obtain ⟨D, hD, hti, hhas, hsz, hpl⟩ := hP.own
  have HX := hide (dcF_nodup L)
  clear hhas hpl
  have HE := hide (show (!decide L.Nodup) = decide (dcF L < L.length) by
    by_cases hn : L.Nodup
    · rw [decide_eq_true hn, decide_eq_false (fun h => HX.out.1 h hn)]; rfl
    · rw [decide_eq_false hn, decide_eq_true (HX.out.2 hn)]; rfl)
  go_wp2_with (at_len; refine wpList_len_own _ rfl _ 112 rfl 66 3 Tryz.underlying112 _ w.heap.size L.length D rfl hD ?_)
  go_ret
  exact ⟨by rw [HE.out]; rfl, hb⟩

set_option maxRecDepth 100000 in
set_option maxHeartbeats 2000000 in
theorem plTxt_any (w : World) (ao : Option Addr) (cap : Nat) (L : List ByteArray) (hR : Hid (ReadsS w ao L)) (hok : Hid (∀ x ∈ L, kText.ok x)) (hl : L.length ≤ 4194304) :
    Calls Tryz.prog 83 #[.slice ao L.length cap] w fun e w' => e = .returned (.map (some w.heap.size)) ∧ PlM kText w' w.heap.size L ∧ Below w.heap.size w w' := by
  have hmk := fun W => mk_hint Tryz.underlying87 (L.length : Int) W
  go_enter Tryz.func83, Tryz.ntmps83
  go_wp2_with fail
  go_loopw [11] (fun i wr => ∃ k : Nat, k ≤ L.length ∧ i = .int .i64 k ∧ Hid (PlM kText wr w.heap.size (L.take k)) ∧ Hid (Below w.heap.size w wr)) (fun i _ => L.length - (intOf i).toNat)
  case atStart => exact ⟨0, Nat.zero_le _, rfl, hide (PlM.nil kText w), hide ((Below.refl _ _).alloc (Nat.le_refl _) _)⟩
  case round =>
    obtain ⟨k, hk, rfl, HP, HB⟩ := hrel
    by_cases hlt : k < L.length
    · obtain ⟨g, o, rfl, q0⟩ := (hR.out.below HB.out) k hlt
      have i2 : (k : Int) < (L.length : Int) := by omega
      have i3 : (0 : Int) ≤ (k : Int) := by omega
      obtain ⟨D, hD, hti, hhas, hsz, hpl⟩ := HP.out.own
      obtain ⟨s, hs⟩ : ∃ s, L[k] = s := ⟨_, rfl⟩
      have hkey : keyOf Tryz.prog 9 (.string s) = some (kText.key L[k]) := by
        rw [← hs]
        exact kText.kmk L[k] (hok.out _ (List.getElem_mem hlt))
      rw [hs] at q0
      have HQ := hide (And.intro hti (And.intro hhas (And.intro hsz hpl)))
      have hle : (L.take k).length ≤ 4194304 := by rw [List.length_take]; omega
      clear hs hti hhas hsz hpl
      go_wp2_with (at_mapUpdate; refine wpList_mapUpdate_own _ rfl _ _ _ 87 rfl 9 3 kText.law Tryz.underlying87 _ w.heap.size (L.take k).length D rfl hD (by unfold maxLen; omega) _ _ _ rfl rfl hkey _ [] (plainElem_int Tryz.underlying3 (WalkArith.wf_i64 (by omega))) ?_; intro w5 hm5 hg5)
      go_roundw
      case rel =>
        obtain ⟨hti, hhas, hsz, hpl⟩ := HQ.out
        exact ⟨k + 1, by omega, by go_num, hide (PlM.add hlt hok.out hti hhas hsz hpl hm5), hide (HB.out.grown hg5 HB.out.size (fun k hk => by cases hk; exact Nat.le_refl _))⟩
      case measure => simp [intOf]; omega
    · obtain rfl : k = L.length := by omega
      have i2 : ¬ (L.length : Int) < (L.length : Int) := by omega
      have HP2 := hide (show PlM kText wr w.heap.size L by have := HP.out; rwa [List.take_length] at this)
      go_wp2
      go_ret
      exact ⟨rfl, HP2.out, HB.out⟩

set_option maxRecDepth 100000 in
set_option maxHeartbeats 2000000 in
theorem twoTxt_any (w : World) (ao : Option Addr) (cap : Nat) (L : List ByteArray) (hR : Hid (ReadsS w ao L)) (hok : Hid (∀ x ∈ L, kText.ok x)) (hl : L.length ≤ 4194304) :
    Calls Tryz.prog 69 #[.slice ao L.length cap] w fun e w' => e = .returned (.bool (!decide L.Nodup)) ∧ Below w.heap.size w w' := by
  go_enter Tryz.func69, Tryz.ntmps69
  go_wp2_with fail
  refine (plTxt_any w ao cap L hR hok hl).mono ?_
  rintro e w1 ⟨rfl, hP, hb⟩
  obtain ⟨D, hD, hti, hhas, hsz, hpl⟩ := hP.own
  have HX := hide (dcF_nodup L)
  clear hhas hpl
  have HE := hide (show (!decide L.Nodup) = decide (dcF L < L.length) by
    by_cases hn : L.Nodup
    · rw [decide_eq_true hn, decide_eq_false (fun h => HX.out.1 h hn)]; rfl
    · rw [decide_eq_false hn, decide_eq_true (HX.out.2 hn)]; rfl)
  go_wp2_with (at_len; refine wpList_len_own _ rfl _ 87 rfl 9 3 Tryz.underlying87 _ w.heap.size L.length D rfl hD ?_)
  go_ret
  exact ⟨by rw [HE.out]; rfl, hb⟩

set_option maxRecDepth 100000 in
set_option maxHeartbeats 2000000 in
theorem plRul_any (w : World) (ao : Option Addr) (cap : Nat) (L : List RuT) (hR : Hid (RdRu w ao L)) (hok : Hid (∀ x ∈ L, kRules.ok x)) (hl : L.length ≤ 4194304) :
    Calls Tryz.prog 97 #[.slice ao L.length cap] w fun e w' => e = .returned (.map (some w.heap.size)) ∧ PlM kRules w' w.heap.size L ∧ Below w.heap.size w w' := by
  have hmk := fun W => mk_hint Tryz.underlying117 (L.length : Int) W
  go_enter Tryz.func97, Tryz.ntmps97
  go_wp2_with fail
  go_loopw [11] (fun i wr => ∃ k : Nat, k ≤ L.length ∧ i = .int .i64 k ∧ Hid (PlM kRules wr w.heap.size (L.take k)) ∧ Hid (Below w.heap.size w wr)) (fun i _ => L.length - (intOf i).toNat)
  case atStart => exact ⟨0, Nat.zero_le _, rfl, hide (PlM.nil kRules w), hide ((Below.refl _ _).alloc (Nat.le_refl _) _)⟩
  case round =>
    obtain ⟨k, hk, rfl, HP, HB⟩ := hrel
    by_cases hlt : k < L.length
    · obtain ⟨g, o, rfl, q0, q1, q2⟩ := (hR.out.on HB.out) k hlt
      have i2 : (k : Int) < (L.length : Int) := by omega
      have i3 : (0 : Int) ≤ (k : Int) := by omega
      obtain ⟨D, hD, hti, hhas, hsz, hpl⟩ := HP.out.own
      obtain ⟨s, hs⟩ : ∃ s, L[k].1 = s := ⟨_, rfl⟩
      obtain ⟨a, ha⟩ : ∃ a, L[k].2.1 = a := ⟨_, rfl⟩
      obtain ⟨b, hb⟩ : ∃ b, L[k].2.2 = b := ⟨_, rfl⟩
      have hkey : keyOf Tryz.prog 68 (.agg #[.string s, .string a, .string b]) = some (kRules.key L[k]) := by
        rw [← hs, ← ha, ← hb]
        exact kRules.kmk L[k] (hok.out _ (List.getElem_mem hlt))
      rw [hs] at q0
      rw [ha] at q1
      rw [hb] at q2
      have HQ := hide (And.intro hti (And.intro hhas (And.intro hsz hpl)))
      have hle : (L.take k).length ≤ 4194304 := by rw [List.length_take]; omega
      clear hs ha hb hti hhas hsz hpl
      go_wp2_with (at_mapUpdate; refine wpList_mapUpdate_own _ rfl _ _ _ 117 rfl 68 3 kRules.law Tryz.underlying117 _ w.heap.size (L.take k).length D rfl (hD.alloc _) (by unfold maxLen; omega) _ _ _ rfl rfl hkey _ [] (plainElem_int Tryz.underlying3 (WalkArith.wf_i64 (by omega))) ?_; intro w5 hm5 hg5)
      go_roundw
      case rel =>
        obtain ⟨hti, hhas, hsz, hpl⟩ := HQ.out
        exact ⟨k + 1, by omega, by go_num, hide (PlM.add hlt hok.out hti hhas hsz hpl hm5), hide ((HB.out.alloc HB.out.size _).grown hg5 (Nat.le_trans HB.out.size (by simp)) (fun k hk => by cases hk; exact Nat.le_refl _))⟩
      case measure => simp [intOf]; omega
    · obtain rfl : k = L.length := by omega
      have i2 : ¬ (L.length : Int) < (L.length : Int) := by omega
      have HP2 := hide (show PlM kRules wr w.heap.size L by have := HP.out; rwa [List.take_length] at this)
      go_wp2
      go_ret
      exact ⟨rfl, HP2.out, HB.out⟩

set_option maxRecDepth 100000 in
set_option maxHeartbeats 2000000 in
theorem twoRul_any (w : World) (ao : Option Addr) (cap : Nat) (L : List RuT) (hR : Hid (RdRu w ao L)) (hok : Hid (∀ x ∈ L, kRules.ok x)) (hl : L.length ≤ 4194304) :
    Calls Tryz.prog 70 #[.slice ao L.length cap] w fun e w' => e = .returned (.bool (!decide L.Nodup)) ∧ Below w.heap.size w w' := by
  go_enter Tryz.func70, Tryz.ntmps70
  go_wp2_with fail
  refine (plRul_any w ao cap L hR hok hl).mono ?_
  rintro e w1 ⟨rfl, hP, hb⟩
  obtain ⟨D, hD, hti, hhas, hsz, hpl⟩ := hP.own
  have HX := hide (dcF_nodup L)
  clear hhas hpl
  have HE := hide (show (!decide L.Nodup) = decide (dcF L < L.length) by
    by_cases hn : L.Nodup
    · rw [decide_eq_true hn, decide_eq_false (fun h => HX.out.1 h hn)]; rfl
    · rw [decide_eq_false hn, decide_eq_true (HX.out.2 hn)]; rfl)
  go_wp2_with (at_len; refine wpList_len_own _ rfl _ 117 rfl 68 3 Tryz.underlying117 _ w.heap.size L.length D rfl hD ?_)
  go_ret
  exact ⟨by rw [HE.out]; rfl, hb⟩
end Go.Proofs.YtmagchclmmphaabGreatDoor
