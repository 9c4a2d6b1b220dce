import Derived.Test.YtmagchclmmphaabGreatDoorPO
import Derived.Test.YtmagchclmmphaabGreatDoorLN
import Derived.Test.YtmagchclmmphaabGreatDoorTS
import Derived.Deep.RegionHeld3
namespace Go.Proofs.YtmagchclmmphaabGreatDoor
open Go.RowKit Go.Maps
attribute [local go_sem] Oper.semAt_some

/-- Names whose places rise. -/
def riseOk (S : List ByteArray) : Int → List ByteArray → Bool
  | _, [] => true
  | z, x :: t => decide (posOf S x < S.length) && decide (z < (posOf S x : Int)) && riseOk S (posOf S x) t
theorem posOf_get {S : List ByteArray} {x : ByteArray} (h : x ∈ S) : ∃ hi : posOf S x < S.length, S[posOf S x] = x := by
  have hi : posOf S x < S.length := List.findIdx_lt_length_of_exists ⟨x, h, by simp⟩
  refine ⟨hi, ?_⟩
  have := List.findIdx_getElem (p := fun y => decide (y = x)) (w := hi)
  exact of_decide_eq_true this
theorem rise_drop {S F : List ByteArray} {k : Nat} (hk : k < F.length) (z : Int) : riseOk S z (F.drop k) = (decide (posOf S F[k] < S.length) && decide (z < (posOf S F[k] : Int)) && riseOk S (posOf S F[k]) (F.drop (k + 1))) := by
  rw [List.drop_eq_getElem_cons hk]; rfl

set_option maxRecDepth 100000 in
set_option maxHeartbeats 2000000 in
theorem final_any (w : World) (ti : ByteArray) (ao asx af ar : Option Addr) (no co cs cf nr cr : Nat) (S F : List ByteArray) (hS : Hid (ReadsS w asx S)) (hF : Hid (ReadsS w af F)) (hn : Hid S.Nodup) (hok : Hid ((∀ x ∈ S, kText.ok x) ∧ ∀ x ∈ F, kText.ok x)) (hls : S.length ≤ 4194304) (hlf : F.length ≤ 4194304) :
    Calls Tryz.prog 71 #[.agg #[.string ti, .slice ao no co, .slice asx S.length cs, .slice af F.length cf, .slice ar nr cr]] w fun e w' => e = .returned (.bool (riseOk S (-1) F)) ∧ Below w.heap.size w w' := by
  obtain ⟨W0, hW0⟩ : ∃ W0, w.alloc (.cells #[.string ti, .slice ao no co, .slice asx S.length cs, .slice af F.length cf, .slice ar nr cr] 32) = W0 := ⟨_, rfl⟩
  have d0 : Below w.heap.size w W0 := by rw [← hW0]; exact (Below.refl _ _).alloc (Nat.le_refl _) _
  have b0 : W0.heap[w.heap.size]? = some (.cells #[.string ti, .slice ao no co, .slice asx S.length cs, .slice af F.length cf, .slice ar nr cr] 32 (0, 0)) := by rw [← hW0]; exact World.alloc_heap_new _ _
  have z0 : w.heap.size < W0.heap.size := by rw [← hW0]; simp
  have HS := hide (hS.out.below d0)
  have HF := hide (hF.out.below d0)
  have k2 : W0.cell? ⟨w.heap.size, 2, none⟩ = some (.slice asx S.length cs) := cell_of b0 rfl
  have HD := hide (And.intro d0 (And.intro b0 z0))
  clear hS hF d0 b0 z0
  go_enter Tryz.func71, Tryz.ntmps71
  go_wp2_with fail
  refine (plTxt_any W0 asx cs S HS (hide hok.out.1) hls).mono ?_
  rintro e w1 ⟨rfl, hP, hb1⟩
  have k3 : w1.cell? ⟨w.heap.size, 3, none⟩ = some (.slice af F.length cf) := (hb1.cell (p := ⟨w.heap.size, 3, none⟩) HD.out.2.2).trans (cell_of HD.out.2.1 rfl)
  have HP := hide hP
  have HB1 := hide hb1
  clear hP hb1 k2
  go_wp2_with fail
  go_loopw [15, 4] (fun i l wr => ∃ (k : Nat) (z : Int), k ≤ F.length ∧ i = .int .i64 k ∧ l = .int .i64 z ∧ Hid (-1 ≤ z ∧ z ≤ 4194304) ∧ Hid (riseOk S (-1) F = riseOk S z (F.drop k)) ∧ wr = w1) (fun i _ _ => F.length - (intOf i).toNat)
  case atStart => exact ⟨0, -1, Nat.zero_le _, rfl, rfl, hide ⟨by omega, by omega⟩, hide rfl, rfl⟩
  case round =>
    obtain ⟨k, z, hk, rfl, rfl, HZ, HR, rfl⟩ := hrel
    obtain ⟨D, hD, hti, hhas, hsz, hpl⟩ := HP.out.own
    have hIs := hpl hn.out
    clear k3
    by_cases hlt : k < F.length
    · obtain ⟨g, o, rfl, q0⟩ := ((HF.out.below HB1.out)) k hlt
      have i2 : (k : Int) < (F.length : Int) := by omega
      have i3 : (0 : Int) ≤ (k : Int) := by omega
      have hx := hok.out.2 _ (List.getElem_mem hlt)
      have HN := hide (rise_drop (S := S) hlt z)
      obtain ⟨x, hxx⟩ : ∃ x, F[k] = x := ⟨_, rfl⟩
      rw [hxx] at q0 hx HN
      by_cases hm : x ∈ S
      · obtain ⟨hi, he⟩ := posOf_get hm
        obtain ⟨p, hp⟩ : ∃ p, posOf S x = p := ⟨_, rfl⟩
        simp only [hp] at hi he HN
        have hx' : kText.ok S[p] := by rw [he]; exact hx
        have HQ := hide (And.intro hi he)
        by_cases hz : z < (p : Int)
        · have hz' : ¬ (p : Int) ≤ z := by omega
          go_wp2_with (at_lookup; refine lookup_at (K := kText) _ rfl _ _ 87 rfl Tryz.underlying87 W0.heap.size S p HQ.out.1 D hD hIs hx' rfl (by rw [HQ.out.2]; rfl) ?_)
          refine ⟨⟨k + 1, p, by omega, by go_num, rfl, hide ⟨by omega, by omega⟩, hide ?_, trivial⟩, by simp [intOf]; omega⟩
          rw [HR.out, HN.out, decide_eq_true HQ.out.1, decide_eq_true hz]; rfl
        · have hz' : (p : Int) ≤ z := by omega
          have HE := hide (show riseOk S (-1) F = false by rw [HR.out, HN.out, decide_eq_false hz]; simp)
          go_wp2_with (at_lookup; refine lookup_at (K := kText) _ rfl _ _ 87 rfl Tryz.underlying87 W0.heap.size S p HQ.out.1 D hD hIs hx' rfl (by rw [HQ.out.2]; rfl) ?_)
          go_ret
          exact ⟨by rw [HE.out]; rfl, HD.out.1.trans (HB1.out.mono HD.out.1.size)⟩
      · have HE := hide (show riseOk S (-1) F = false by
          rw [HR.out, HN.out, decide_eq_false (fun h => hm (by
            have := List.findIdx_getElem (p := fun y => decide (y = x)) (w := h)
            have e := of_decide_eq_true this
            rw [← e]; exact List.getElem_mem _))]; simp)
        go_wp2_with (at_lookup; refine lookup_not (K := kText) _ rfl _ _ 87 rfl Tryz.underlying87 W0.heap.size S x hm D hD hIs hx rfl rfl (fun c => ?_))
        go_ret
        exact ⟨by rw [HE.out]; rfl, HD.out.1.trans (HB1.out.mono HD.out.1.size)⟩
    · obtain rfl : k = F.length := by omega
      have i2 : ¬ (F.length : Int) < (F.length : Int) := by omega
      have HE := hide (show riseOk S (-1) F = true by rw [HR.out, List.drop_length]; rfl)
      go_wp2
      go_ret
      exact ⟨by rw [HE.out]; rfl, HD.out.1.trans (HB1.out.mono HD.out.1.size)⟩
end Go.Proofs.YtmagchclmmphaabGreatDoor
namespace Go.Proofs.YtmagchclmmphaabGreatDoor
open Go.RowKit Go.Maps
attribute [local go_sem] Oper.semAt_some

def memO (O : List OpT) (x : OpT) : Bool := O.any fun y => decide (y = x)
def memS (S : List ByteArray) (x : ByteArray) : Bool := S.any fun y => decide (y = x)
theorem memO_iff {O : List OpT} {x : OpT} : memO O x = true ↔ x ∈ O := by simp [memO]
theorem memS_iff {S : List ByteArray} {x : ByteArray} : memS S x = true ↔ x ∈ S := by simp [memS]
/-- A rule's parts are declared. -/
def ruleOk (O : List OpT) (S : List ByteArray) (r : RuT) : Bool := memO O (opR r) && memS S r.2.2 && (decide (r.2.1 = ⟨#[]⟩) || memS S r.2.1)
theorem rk_op {v1 v2 v3 e : Bool} (h : ¬ v1 = true) : (v1 && v3 && (e || v2)) = false := by cases v1 <;> simp_all
theorem rk_to {v1 v2 v3 e : Bool} (h : ¬ v3 = true) : (v1 && v3 && (e || v2)) = false := by cases v3 <;> simp_all
theorem rk_from {v1 v2 v3 : Bool} {x : ByteArray} (h : ¬ x = ⟨#[]⟩) (h2 : (!v2) = true) : (v1 && v3 && (decide (x = ⟨#[]⟩) || v2)) = false := by rw [decide_eq_false h]; cases v2 <;> simp_all
theorem rk_none {v1 v2 v3 : Bool} {x : ByteArray} (h1 : v1 = true) (h3 : v3 = true) (h : x = ⟨#[]⟩) : (v1 && v3 && (decide (x = ⟨#[]⟩) || v2)) = true := by rw [decide_eq_true h, h1, h3]; rfl
theorem rk_yes {v1 v2 v3 : Bool} {x : ByteArray} (h1 : v1 = true) (h3 : v3 = true) (h2 : (!v2) = false) : (v1 && v3 && (decide (x = ⟨#[]⟩) || v2)) = true := by rw [h1, h3]; cases v2 <;> simp_all
theorem opR_ok {r : RuT} (h : okRu r) : okOp (opR r) := ⟨h.1, by unfold opR; simp only; split <;> omega⟩
/-- A lookup, whether the key is there or not. -/
theorem lookup_any {α : Type} [DecidableEq α] {K : Kd α} (w : World) {ops : Array Oper} {rest : List Oper} {o : Oper} {a : Act} {Q : Exit → Act → World → Prop} (hg : o.guard = none) (m x : Operand) (mt : TypeId) (hop : o.op = Op.lookup mt m x true)
    (ht : Tryz.prog.underlying mt = some (.map K.ty 3)) (b : Nat) (l : List α) (s : α) (hP : PlM K w b l) (ho : K.ok s) (hm : a.eval m = .map (some b)) (hx : a.eval x = K.val s) (v : Bool) (hv : v = true ↔ s ∈ l)
    (hK : ∀ c : Int, wpList Tryz.prog ops Q rest (a.put o.dst (.tuple #[.int .i64 c, .bool v])) w) : wpList Tryz.prog ops Q (o :: rest) a w := by
  obtain ⟨D, hown, hti, hhas, hsz, hpl⟩ := hP.own
  refine wpList_lookup_own_ok_int _ hg m x mt hop K.ty 3 .i64 K.law ht Tryz.underlying3 (by kernel_rfl) b l.length D hm hown _ _ hx (K.kmk _ ho) ?_
  intro c hat hwc
  have : Maps.has D (K.key s) = v := by
    cases v
    · rw [Bool.eq_false_iff]; intro e; exact absurd (hv.2 ((hhas s ho).1 e)) (by simp)
    · exact (hhas s ho).2 (hv.1 rfl)
  rw [this]
  exact hK c
/-- What rulesMayBe reads all the while. -/
def RbS (X : Nat) (W0 : World) (vo vs : Value) (W : World) : Prop := W.cell? ⟨X, 1, none⟩ = some vo ∧ W.cell? ⟨X, 2, none⟩ = some vs ∧ Hid (Below W0.heap.size W0 W)
theorem rb_keep {X : Nat} {W0 W W' : World} {vo vs : Value} (d : Below W.heap.size W W') (h : W.cell? ⟨X, 1, none⟩ = some vo ∧ W.cell? ⟨X, 2, none⟩ = some vs ∧ Hid (Below W0.heap.size W0 W)) : W'.cell? ⟨X, 1, none⟩ = some vo ∧ W'.cell? ⟨X, 2, none⟩ = some vs ∧ Hid (Below W0.heap.size W0 W') :=
  ⟨(d.cell (p := ⟨X, 1, none⟩) (World.block_lt_of_cell? W _ h.1)).trans h.1, (d.cell (p := ⟨X, 2, none⟩) (World.block_lt_of_cell? W _ h.2.1)).trans h.2.1, hide (h.2.2.out.trans (d.mono h.2.2.out.size))⟩
theorem rb_out {X : Nat} {W0 W : World} {vo vs : Value} (h : W.cell? ⟨X, 1, none⟩ = some vo ∧ W.cell? ⟨X, 2, none⟩ = some vs ∧ Hid (Below W0.heap.size W0 W)) : Below W0.heap.size W0 W := h.2.2.out
theorem below_drew' (w : World) : Below w.heap.size w w.drew := (Below.refl _ _).drew

set_option maxRecDepth 100000 in
set_option maxHeartbeats 4000000 in
theorem rules_any (w : World) (ti : ByteArray) (ao asx af ar : Option Addr) (co cs nf cf cr : Nat) (O : List OpT) (S : List ByteArray) (R : List RuT) (hO : Hid (RdOp w ao O)) (hS : Hid (ReadsS w asx S)) (hR : Hid (RdRu w ar R)) (hok : Hid ((∀ x ∈ O, kOps.ok x) ∧ (∀ x ∈ S, kText.ok x) ∧ ∀ x ∈ R, kRules.ok x)) (hlo : O.length ≤ 4194304) (hls : S.length ≤ 4194304) (hlr : R.length ≤ 4194304) :
    Calls Tryz.prog 72 #[.agg #[.string ti, .slice ao O.length co, .slice asx S.length cs, .slice af nf cf, .slice ar R.length cr]] w fun e w' => e = .returned (.bool (R.all (ruleOk O S))) ∧ Below w.heap.size w w' := by
  obtain ⟨W0, hW0⟩ : ∃ W0, w.alloc (.cells #[.string ti, .slice ao O.length co, .slice asx S.length cs, .slice af nf cf, .slice ar R.length cr] 32) = W0 := ⟨_, rfl⟩
  have d0 : Below w.heap.size w W0 := by rw [← hW0]; exact (Below.refl _ _).alloc (Nat.le_refl _) _
  have b0 : W0.heap[w.heap.size]? = some (.cells #[.string ti, .slice ao O.length co, .slice asx S.length cs, .slice af nf cf, .slice ar R.length cr] 32 (0, 0)) := by rw [← hW0]; exact World.alloc_heap_new _ _
  have z0 : w.heap.size < W0.heap.size := by rw [← hW0]; simp
  have HO := hide (hO.out.on d0)
  have HS := hide (hS.out.below d0)
  have HR := hide (hR.out.on d0)
  have k1 : W0.cell? ⟨w.heap.size, 1, none⟩ = some (.slice ao O.length co) := cell_of b0 rfl
  have k2 : W0.cell? ⟨w.heap.size, 2, none⟩ = some (.slice asx S.length cs) := cell_of b0 rfl
  have HD := hide (And.intro d0 (And.intro b0 z0))
  clear hO hS hR d0 b0 z0
  go_enter Tryz.func72, Tryz.ntmps72
  go_wp2_with fail
  go_region_held3 (fun W => W.cell? ⟨w.heap.size, 1, none⟩ = some (.slice ao O.length co) ∧ W.cell? ⟨w.heap.size, 2, none⟩ = some (.slice asx S.length cs) ∧ Hid (Below W0.heap.size W0 W))
    (first | exact rb_keep (below_drew' _) ⟨k1, k2, hide (Below.refl _ _)⟩ | exact rb_keep (by assumption) (by assumption) | assumption)
    ((first
      | (go_at_call 96; refine (plOps_any _ ao co O ?_ (hide hok.out.1) hlo).mono ?_; exact hide (HO.out.on (rb_out (by assumption))); rintro e wA ⟨rfl, hA, dA⟩)
      | (go_at_call 83; refine (plTxt_any _ asx cs S ?_ (hide hok.out.2.1) hls).mono ?_; exact hide (HS.out.below (rb_out (by assumption))); rintro e wB ⟨rfl, hB, dB⟩)))
  rename_i hSS
  have HB := hide (rb_out hSS)
  have HM := hide (And.intro (hA.grown dB) hB)
  have k4 : wB.cell? ⟨w.heap.size, 4, none⟩ = some (.slice ar R.length cr) := (HB.out.cell (p := ⟨w.heap.size, 4, none⟩) HD.out.2.2).trans (cell_of HD.out.2.1 rfl)
  clear hSS hA hB dA dB k1 k2
  go_wp2_with fail
  go_loopw [22] (fun i wr => ∃ k : Nat, k ≤ R.length ∧ i = .int .i64 k ∧ Hid ((R.take k).all (ruleOk O S) = true) ∧ Hid (Below wB.heap.size wB wr)) (fun i _ => R.length - (intOf i).toNat)
  case atStart => exact ⟨0, Nat.zero_le _, rfl, hide (by simp), hide (Below.refl _ _)⟩
  case round =>
    obtain ⟨k, hk, rfl, HA, HC⟩ := hrel
    clear k4
    have HE := hide (HB.out.trans (HC.out.mono HB.out.size))
    by_cases hlt : k < R.length
    · obtain ⟨g, o, rfl, q0, q1, q2⟩ := (HR.out.on HE.out) k hlt
      have i2 : (k : Int) < (R.length : Int) := by omega
      have i3 : (0 : Int) ≤ (k : Int) := by omega
      obtain ⟨x, hx⟩ : ∃ x, R[k] = x := ⟨_, rfl⟩
      rw [hx] at q0 q1 q2
      have hxk : kRules.ok x := by rw [← hx]; exact hok.out.2.2 _ (List.getElem_mem hlt)
      have HX := hide hx
      obtain ⟨x1, x2, x3⟩ := x
      simp only at q0 q1 q2
      have hko : kOps.ok (opR (x1, x2, x3)) := opR_ok hxk
      have HK := hide (And.intro hko (And.intro (show kText.ok x2 from hxk.2.1) (show kText.ok x3 from hxk.2.2)))
      clear hx hxk hko
      obtain ⟨v1, hv1⟩ : ∃ v, memO O (opR (x1, x2, x3)) = v := ⟨_, rfl⟩
      obtain ⟨v2, hv2⟩ : ∃ v, memS S x2 = v := ⟨_, rfl⟩
      obtain ⟨v3, hv3⟩ : ∃ v, memS S x3 = v := ⟨_, rfl⟩
      have HV := hide (show (v1 = true ↔ opR (x1, x2, x3) ∈ O) ∧ (v2 = true ↔ x2 ∈ S) ∧ (v3 = true ↔ x3 ∈ S) by rw [← hv1, ← hv2, ← hv3]; exact ⟨memO_iff, memS_iff, memS_iff⟩)
      have HG := hide (show ruleOk O S (x1, x2, x3) = (v1 && v3 && (decide (x2 = ⟨#[]⟩) || v2)) by rw [← hv1, ← hv2, ← hv3]; rfl)
      clear hv1 hv2 hv3
      have hse := str_empty x2
      go_wp2_with (first
        | (go_at_call 98; refine (opOf_any (x1, x2, x3) _).mono ?_; rintro e w3 ⟨rfl, d3⟩; have D3 := hide ((HC.out.alloc HC.out.size _).trans (d3.mono (Nat.le_trans HC.out.size (by simp)))); have HP3 := hide (And.intro (HM.out.1.grown D3.out) (HM.out.2.grown D3.out)); have c1 := (d3.cell (p := ⟨wr.heap.size, 1, none⟩) (by simp)).trans (cell_of (j := 1) (World.alloc_heap_new wr (.cells #[.string x1, .string x2, .string x3] 68)) rfl); have c2 := (d3.cell (p := ⟨wr.heap.size, 2, none⟩) (by simp)).trans (cell_of (j := 2) (World.alloc_heap_new wr (.cells #[.string x1, .string x2, .string x3] 68)) rfl))
        | (at_lookup; refine lookup_any (K := kOps) _ rfl _ _ 112 rfl Tryz.underlying112 W0.heap.size O (opR (x1, x2, x3)) HP3.out.1 HK.out.1 rfl rfl v1 HV.out.1 (fun c => ?_))
        | (at_lookup; refine lookup_any (K := kText) _ rfl _ _ 87 rfl Tryz.underlying87 wA.heap.size S x2 HP3.out.2 HK.out.2.1 rfl rfl v2 HV.out.2.1 (fun c => ?_))
        | (at_lookup; refine lookup_any (K := kText) _ rfl _ _ 87 rfl Tryz.underlying87 wA.heap.size S x3 HP3.out.2 HK.out.2.2 rfl rfl v3 HV.out.2.2 (fun c => ?_)))
      all_goals first
        | (have HF := hide (show R.all (ruleOk O S) = false from all_not hlt (by rw [HX.out, HG.out]; first | exact rk_op (by assumption) | exact rk_to (by assumption) | exact rk_from (by assumption) (by assumption)))
           go_ret
           exact ⟨by rw [HF.out]; rfl, HD.out.1.trans ((HB.out.trans (D3.out.mono HB.out.size)).mono HD.out.1.size)⟩)
        | (have HF := hide (all_next hlt HA.out (by rw [HX.out, HG.out]; first | exact rk_none (by assumption) (by assumption) (by assumption) | exact rk_yes (by assumption) (by assumption) (by assumption)))
           exact ⟨⟨k + 1, by omega, by go_num, HF, D3⟩, by simp [intOf]; omega⟩)
    · obtain rfl : k = R.length := by omega
      have i2 : ¬ (R.length : Int) < (R.length : Int) := by omega
      have HF := hide (show R.all (ruleOk O S) = true by have := HA.out; rwa [List.take_length] at this)
      go_wp2
      go_ret
      exact ⟨by rw [HF.out]; rfl, HD.out.1.trans (HE.out.mono HD.out.1.size)⟩
end Go.Proofs.YtmagchclmmphaabGreatDoor
