import Derived.Test.YtmagchclmmphaabGreatDoorVal
import Derived.Deep.RegionHeld3
import Derived.RangeFuncRecord
namespace Go.Proofs.YtmagchclmmphaabGreatDoor
open Go.RowKit Go.Maps
attribute [local go_sem] Oper.semAt_some

/-- Ops in a row, whatever their arities. -/
abbrev OpI := ByteArray × Int
def RdO (W : World) (ao : Option Addr) (L : List OpI) : Prop := ∀ (j : Nat) (h : j < L.length), ∃ g o, ao = some ⟨g, o, none⟩ ∧ W.cell? ⟨g, o + j * 2, none⟩ = some (.string L[j].1) ∧ W.cell? ⟨g, o + j * 2 + 1, none⟩ = some (.int .i64 L[j].2)
theorem RdO.on {W W' : World} {ao : Option Addr} {L : List OpI} (h : RdO W ao L) (d : Below W.heap.size W W') : RdO W' ao L := fun j hj => by
  obtain ⟨g, o, e, c, c1⟩ := h j hj
  exact ⟨g, o, e, (d.cell (p := ⟨g, o + j * 2, none⟩) (World.block_lt_of_cell? W _ c)).trans c, (d.cell (p := ⟨g, o + j * 2 + 1, none⟩) (World.block_lt_of_cell? W _ c1)).trans c1⟩
def opOk (x : OpI) : Bool := vld x.1 && decide (0 ≤ x.2) && decide (x.2 ≤ 1)
theorem opOk_neg {x : OpI} {a : Int} (h : x.2 = a) (h0 : a < 0) : opOk x = false := by
  unfold opOk; rw [h, decide_eq_false (show ¬ 0 ≤ a by omega)]; simp
theorem opOk_big {x : OpI} {a : Int} (h : x.2 = a) (h0 : 1 < a) : opOk x = false := by
  unfold opOk; rw [h, decide_eq_false (show ¬ a ≤ 1 by omega)]; simp
theorem opOk_nm {x : OpI} {s : ByteArray} (h : x.1 = s) (h0 : vld s = false) : opOk x = false := by
  unfold opOk; rw [h, h0]; simp
theorem opOk_yes {x : OpI} {s : ByteArray} {a : Int} (h : x.1 = s) (h' : x.2 = a) (h0 : vld s = true) (h1 : ¬ a < 0) (h2 : ¬ 1 < a) : opOk x = true := by
  unfold opOk; rw [h, h', h0, decide_eq_true (show 0 ≤ a by omega), decide_eq_true (show a ≤ 1 by omega)]; rfl
def namesOk (ti : ByteArray) (O : List OpI) (S : List ByteArray) : Bool := O.all opOk && S.all vld && vld ti
theorem all_next {α : Type} {p : α → Bool} {l : List α} {k : Nat} (hk : k < l.length) (h : (l.take k).all p = true) (h2 : p l[k] = true) : (l.take (k + 1)).all p = true := by
  rw [List.take_succ_eq_append_getElem hk, List.all_append, h]; simp [h2]
theorem all_not {α : Type} {p : α → Bool} {l : List α} {k : Nat} (hk : k < l.length) (h : p l[k] = false) : l.all p = false := by
  rw [List.all_eq_false]; exact ⟨l[k], List.getElem_mem hk, by simp [h]⟩
def fileV (ti : ByteArray) (ao : Option Addr) (no co : Nat) (asx : Option Addr) (ns cs : Nat) (af : Option Addr) (nf cf : Nat) (ar : Option Addr) (nr cr : Nat) : Value := .agg #[.string ti, .slice ao no co, .slice asx ns cs, .slice af nf cf, .slice ar nr cr]

set_option maxRecDepth 100000 in
set_option maxHeartbeats 2000000 in
theorem names_any (w : World) (ti : ByteArray) (ao asx : Option Addr) (co cs : Nat) (O : List OpI) (S : List ByteArray) (af ar : Option Addr) (nf cf nr cr : Nat) (hT : Hid (BytesAt w ∧ 1 < w.heap.size)) (hO : Hid (RdO w ao O)) (hS : Hid (ReadsS w asx S)) (hlo : O.length ≤ 4194304) (hls : S.length ≤ 4194304) :
    Calls Tryz.prog 67 #[.agg #[.string ti, .slice ao O.length co, .slice asx S.length cs, .slice af nf cf, .slice ar nr cr]] w fun e w' => e = .returned (.bool (namesOk ti O S)) ∧ Below w.heap.size w w' := by
  obtain ⟨W0, hW0⟩ : ∃ W0, w.alloc (.cells #[.string ti, .slice ao O.length co, .slice asx S.length cs, .slice af nf cf, .slice ar nr cr] 32) = W0 := ⟨_, rfl⟩
  have d0 : Below w.heap.size w W0 := by rw [← hW0]; exact (Below.refl _ _).alloc (Nat.le_refl _) _
  have b0 : W0.heap[w.heap.size]? = some (.cells #[.string ti, .slice ao O.length co, .slice asx S.length cs, .slice af nf cf, .slice ar nr cr] 32 (0, 0)) := by rw [← hW0]; exact World.alloc_heap_new _ _
  have z0 : w.heap.size < W0.heap.size := by rw [← hW0]; simp
  have HT : Hid (BytesAt W0 ∧ 1 < W0.heap.size) := hide ⟨hT.out.1.below d0 hT.out.2, Nat.lt_of_lt_of_le hT.out.2 d0.size⟩
  have HO := hide (hO.out.on d0)
  have HS := hide (hS.out.below d0)
  have HD := hide (And.intro d0 (And.intro b0 z0))
  clear hT hO hS d0
  have k1 : W0.cell? ⟨w.heap.size, 1, none⟩ = some (.slice ao O.length co) := cell_of b0 rfl
  clear b0 z0
  go_enter Tryz.func67, Tryz.ntmps67
  go_wp2_with fail
  go_loopw [10] (fun i wr => ∃ k : Nat, k ≤ O.length ∧ i = .int .i64 k ∧ Hid ((O.take k).all opOk = true) ∧ Hid (Below W0.heap.size W0 wr)) (fun i _ => O.length - (intOf i).toNat)
  case atStart => exact ⟨0, Nat.zero_le _, rfl, hide (by simp), hide (Below.refl _ _)⟩
  case round =>
    obtain ⟨k, hk, rfl, HA, HB⟩ := hrel
    clear k1
    by_cases hlt : k < O.length
    · obtain ⟨g, o, rfl, q0, q1⟩ := (HO.out.on HB.out) k hlt
      have i2 : (k : Int) < (O.length : Int) := by omega
      have i3 : (0 : Int) ≤ (k : Int) := by omega
      obtain ⟨s, hs⟩ : ∃ s, O[k].1 = s := ⟨_, rfl⟩
      obtain ⟨a, ha⟩ : ∃ a, O[k].2 = a := ⟨_, rfl⟩
      rw [hs] at q0
      rw [ha] at q1
      have HX := hide (And.intro hs ha)
      clear hs ha
      by_cases hv : vld s = true
      · by_cases h0 : a < 0
        · have HR := hide (show namesOk ti O S = false by unfold namesOk; rw [all_not hlt (opOk_neg HX.out.2 h0)]; rfl)
          go_wp2_with (go_at_call 31; refine (valid_any _ _ (HT.out.1.below (HB.out.alloc HB.out.size _) HT.out.2) (Nat.lt_of_lt_of_le HT.out.2 (Nat.le_trans HB.out.size (by simp)))).mono ?_; rintro e w' ⟨rfl, hb'⟩; rw [hv]; have q2 := (hb'.cell (p := ⟨wr.heap.size, 1, none⟩) (by simp)).trans (cell_of (j := 1) (World.alloc_heap_new wr (.cells #[.string s, .int .i64 a] 66)) rfl))
          go_ret
          exact ⟨by rw [HR.out]; rfl, HD.out.1.trans (((HB.out.alloc HB.out.size _).trans (hb'.mono (Nat.le_trans HB.out.size (by simp)))).mono HD.out.1.size)⟩
        · by_cases h1 : 1 < a
          · have h1' : a > 1 := h1
            have HR := hide (show namesOk ti O S = false by unfold namesOk; rw [all_not hlt (opOk_big HX.out.2 h1)]; rfl)
            go_wp2_with (go_at_call 31; refine (valid_any _ _ (HT.out.1.below (HB.out.alloc HB.out.size _) HT.out.2) (Nat.lt_of_lt_of_le HT.out.2 (Nat.le_trans HB.out.size (by simp)))).mono ?_; rintro e w' ⟨rfl, hb'⟩; rw [hv]; have q2 := (hb'.cell (p := ⟨wr.heap.size, 1, none⟩) (by simp)).trans (cell_of (j := 1) (World.alloc_heap_new wr (.cells #[.string s, .int .i64 a] 66)) rfl))
            go_ret
            exact ⟨by rw [HR.out]; rfl, HD.out.1.trans (((HB.out.alloc HB.out.size _).trans (hb'.mono (Nat.le_trans HB.out.size (by simp)))).mono HD.out.1.size)⟩
          · have h1' : ¬ a > 1 := h1
            have HN := hide (all_next hlt HA.out (opOk_yes HX.out.1 HX.out.2 hv h0 h1))
            go_wp2_with (go_at_call 31; refine (valid_any _ _ (HT.out.1.below (HB.out.alloc HB.out.size _) HT.out.2) (Nat.lt_of_lt_of_le HT.out.2 (Nat.le_trans HB.out.size (by simp)))).mono ?_; rintro e w' ⟨rfl, hb'⟩; rw [hv]; have q2 := (hb'.cell (p := ⟨wr.heap.size, 1, none⟩) (by simp)).trans (cell_of (j := 1) (World.alloc_heap_new wr (.cells #[.string s, .int .i64 a] 66)) rfl))
            go_roundw
            case rel => exact ⟨k + 1, by omega, by go_num, HN, hide ((HB.out.alloc HB.out.size _).trans (hb'.mono (Nat.le_trans HB.out.size (by simp))))⟩
            case measure => simp [intOf]; omega
      · have hv : vld s = false := by simpa using hv
        have HR := hide (show namesOk ti O S = false by unfold namesOk; rw [all_not hlt (opOk_nm HX.out.1 hv)]; rfl)
        go_wp2_with (go_at_call 31; refine (valid_any _ _ (HT.out.1.below (HB.out.alloc HB.out.size _) HT.out.2) (Nat.lt_of_lt_of_le HT.out.2 (Nat.le_trans HB.out.size (by simp)))).mono ?_; rintro e w' ⟨rfl, hb'⟩; rw [hv]; have q2 := (hb'.cell (p := ⟨wr.heap.size, 1, none⟩) (by simp)).trans (cell_of (j := 1) (World.alloc_heap_new wr (.cells #[.string s, .int .i64 a] 66)) rfl))
        go_ret
        exact ⟨by rw [HR.out]; rfl, HD.out.1.trans (((HB.out.alloc HB.out.size _).trans (hb'.mono (Nat.le_trans HB.out.size (by simp)))).mono HD.out.1.size)⟩
    · obtain rfl : k = O.length := by omega
      have hO : O.all opOk = true := by have := HA.out; rwa [List.take_length] at this
      have HAO := hide hO
      have k2 : wr.cell? ⟨w.heap.size, 2, none⟩ = some (.slice asx S.length cs) := (HB.out.cell (p := ⟨w.heap.size, 2, none⟩) HD.out.2.2).trans (cell_of HD.out.2.1 rfl)
      have k0 : wr.cell? ⟨w.heap.size, 0, none⟩ = some (.string ti) := (HB.out.cell (p := ⟨w.heap.size, 0, none⟩) HD.out.2.2).trans (cell_of HD.out.2.1 rfl)
      have i2 : ¬ (O.length : Int) < (O.length : Int) := by omega
      clear hO HA hlt hk
      obtain ⟨wm, rfl⟩ : ∃ wm, wm = wr := ⟨_, rfl⟩
      go_wp2_with fail
      go_loopw [32] (fun i wr => ∃ k : Nat, k ≤ S.length ∧ i = .int .i64 k ∧ Hid ((S.take k).all vld = true) ∧ Hid (Below wm.heap.size wm wr)) (fun i _ => S.length - (intOf i).toNat)
      case atStart => exact ⟨0, Nat.zero_le _, rfl, hide (by simp), hide (Below.refl _ _)⟩
      case round =>
        obtain ⟨k, hk, rfl, HA, HC⟩ := hrel
        have HE := hide (HB.out.trans (HC.out.mono HB.out.size))
        by_cases hlt : k < S.length
        · obtain ⟨g, o, rfl, q0⟩ := (HS.out.below HE.out) k hlt
          have j2 : (k : Int) < (S.length : Int) := by omega
          have j3 : (0 : Int) ≤ (k : Int) := by omega
          obtain ⟨s, hs⟩ : ∃ s, S[k] = s := ⟨_, rfl⟩
          rw [hs] at q0
          have HX := hide hs
          clear hs k2 k0
          by_cases hv : vld s = true
          · have HN := hide (all_next hlt HA.out (by rw [HX.out]; exact hv))
            go_wp2_with (go_at_call 31; refine (valid_any _ _ (HT.out.1.below HE.out HT.out.2) (Nat.lt_of_lt_of_le HT.out.2 HE.out.size)).mono ?_; rintro e w' ⟨rfl, hb'⟩; rw [hv])
            go_roundw
            case rel => exact ⟨k + 1, by omega, by go_num, HN, hide (HC.out.trans (hb'.mono HC.out.size))⟩
            case measure => simp [intOf]; omega
          · have hv : vld s = false := by simpa using hv
            have HR := hide (show namesOk ti O S = false by unfold namesOk; rw [all_not hlt (by rw [HX.out]; exact hv)]; simp)
            go_wp2_with (go_at_call 31; refine (valid_any _ _ (HT.out.1.below HE.out HT.out.2) (Nat.lt_of_lt_of_le HT.out.2 HE.out.size)).mono ?_; rintro e w' ⟨rfl, hb'⟩; rw [hv])
            go_ret
            exact ⟨by rw [HR.out]; rfl, HD.out.1.trans ((HE.out.trans (hb'.mono HE.out.size)).mono HD.out.1.size)⟩
        · obtain rfl : k = S.length := by omega
          have j2 : ¬ (S.length : Int) < (S.length : Int) := by omega
          have HR := hide (show namesOk ti O S = vld ti by
            have := HA.out
            rw [List.take_length] at this
            unfold namesOk; rw [HAO.out, this]; rfl)
          have m0 : wr.cell? ⟨w.heap.size, 0, none⟩ = some (.string ti) := (HC.out.cell (p := ⟨w.heap.size, 0, none⟩) (World.block_lt_of_cell? wm _ k0)).trans k0
          clear k2 k0
          go_wp2_with (go_at_call 31; refine (valid_any _ _ (HT.out.1.below HE.out HT.out.2) (Nat.lt_of_lt_of_le HT.out.2 HE.out.size)).mono ?_; rintro e w' ⟨rfl, hb'⟩)
          go_ret
          exact ⟨by rw [HR.out]; rfl, HD.out.1.trans ((HE.out.trans (hb'.mono HE.out.size)).mono HD.out.1.size)⟩
end Go.Proofs.YtmagchclmmphaabGreatDoor
