import Derived.Test.YtmagchclmmphaaaDoorPo
import Derived.Test.YtmagchclmmphaaaDoorLn
namespace Go.Proofs.YtmagchclmmphaaaDoor
open Go.RowKit Go.Maps
attribute [local go_sem] Oper.semAt_some

/-- Names whose places rise. -/
def riseOk (S : List ByteArray) : Int → List ByteArray → Bool
  | _, [] => true
  | z, x :: t => decide (posOf S x < S.length) && decide (z < (posOf S x : Int)) && riseOk S (posOf S x) t
theorem posOf_get {S : List ByteArray} {x : ByteArray} (h : x ∈ S) : ∃ hi : posOf S x < S.length, S[posOf S x] = x := by
  have hi : posOf S x < S.length := List.findIdx_lt_length_of_exists ⟨x, h, by simp⟩
  refine ⟨hi, ?_⟩
  have := List.findIdx_getElem (p := fun y => decide (y = x)) (w := hi)
  exact of_decide_eq_true this
theorem rise_drop {S F : List ByteArray} {k : Nat} (hk : k < F.length) (z : Int) : riseOk S z (F.drop k) = (decide (posOf S F[k] < S.length) && decide (z < (posOf S F[k] : Int)) && riseOk S (posOf S F[k]) (F.drop (k + 1))) := by
  rw [List.drop_eq_getElem_cons hk]; rfl

set_option maxRecDepth 100000 in
set_option maxHeartbeats 2000000 in
theorem final_any (w : World) (ti : ByteArray) (ao asx af ar : Option Addr) (no co cs cf nr cr : Nat) (S F : List ByteArray) (hS : Hid (ReadsS w asx S)) (hF : Hid (ReadsS w af F)) (hn : Hid S.Nodup) (hok : Hid ((∀ x ∈ S, kText.ok x) ∧ ∀ x ∈ F, kText.ok x)) (hls : S.length ≤ 4194304) (hlf : F.length ≤ 4194304) :
    Calls Tryd.prog 32 #[.agg #[.string ti, .slice ao no co, .slice asx S.length cs, .slice af F.length cf, .slice ar nr cr]] w fun e w' => e = .returned (.bool (riseOk S (-1) F)) ∧ Below w.heap.size w w' := by
  obtain ⟨W0, hW0⟩ : ∃ W0, w.alloc (.cells #[.string ti, .slice ao no co, .slice asx S.length cs, .slice af F.length cf, .slice ar nr cr] 28) = W0 := ⟨_, rfl⟩
  have d0 : Below w.heap.size w W0 := by rw [← hW0]; exact (Below.refl _ _).alloc (Nat.le_refl _) _
  have b0 : W0.heap[w.heap.size]? = some (.cells #[.string ti, .slice ao no co, .slice asx S.length cs, .slice af F.length cf, .slice ar nr cr] 28 (0, 0)) := by rw [← hW0]; exact World.alloc_heap_new _ _
  have z0 : w.heap.size < W0.heap.size := by rw [← hW0]; simp
  have HS := hide (hS.out.below d0)
  have HF := hide (hF.out.below d0)
  have k2 : W0.cell? ⟨w.heap.size, 2, none⟩ = some (.slice asx S.length cs) := cell_of b0 rfl
  have HD := hide (And.intro d0 (And.intro b0 z0))
  clear hS hF d0 b0 z0
  go_enter Tryd.func32, Tryd.ntmps32
  go_wp2_with fail
  refine (plTxt_any W0 asx cs S HS (hide hok.out.1) hls).mono ?_
  rintro e w1 ⟨rfl, hP, hb1⟩
  have k3 : w1.cell? ⟨w.heap.size, 3, none⟩ = some (.slice af F.length cf) := (hb1.cell (p := ⟨w.heap.size, 3, none⟩) HD.out.2.2).trans (cell_of HD.out.2.1 rfl)
  have HP := hide hP
  have HB1 := hide hb1
  clear hP hb1 k2
  go_wp2_with fail
  go_loopw [15, 4] (fun i l wr => ∃ (k : Nat) (z : Int), k ≤ F.length ∧ i = .int .i64 k ∧ l = .int .i64 z ∧ Hid (-1 ≤ z ∧ z ≤ 4194304) ∧ Hid (riseOk S (-1) F = riseOk S z (F.drop k)) ∧ wr = w1) (fun i _ _ => F.length - (intOf i).toNat)
  case atStart => exact ⟨0, -1, Nat.zero_le _, rfl, rfl, hide ⟨by omega, by omega⟩, hide rfl, rfl⟩
  case round =>
    obtain ⟨k, z, hk, rfl, rfl, HZ, HR, rfl⟩ := hrel
    obtain ⟨D, hD, hti, hhas, hsz, hpl⟩ := HP.out.own
    have hIs := hpl hn.out
    clear k3
    by_cases hlt : k < F.length
    · obtain ⟨g, o, rfl, q0⟩ := ((HF.out.below HB1.out)) k hlt
      have i2 : (k : Int) < (F.length : Int) := by omega
      have i3 : (0 : Int) ≤ (k : Int) := by omega
      have hx := hok.out.2 _ (List.getElem_mem hlt)
      have HN := hide (rise_drop (S := S) hlt z)
      obtain ⟨x, hxx⟩ : ∃ x, F[k] = x := ⟨_, rfl⟩
      rw [hxx] at q0 hx HN
      by_cases hm : x ∈ S
      · obtain ⟨hi, he⟩ := posOf_get hm
        obtain ⟨p, hp⟩ : ∃ p, posOf S x = p := ⟨_, rfl⟩
        simp only [hp] at hi he HN
        have hx' : kText.ok S[p] := by rw [he]; exact hx
        have HQ := hide (And.intro hi he)
        by_cases hz : z < (p : Int)
        · have hz' : ¬ (p : Int) ≤ z := by omega
          go_wp2_with (at_lookup; refine lookup_at (K := kText) _ rfl _ _ 66 rfl Tryd.underlying66 W0.heap.size S p HQ.out.1 D hD hIs hx' rfl (by rw [HQ.out.2]; rfl) ?_)
          refine ⟨⟨k + 1, p, by omega, by go_num, rfl, hide ⟨by omega, by omega⟩, hide ?_, trivial⟩, by simp [intOf]; omega⟩
          rw [HR.out, HN.out, decide_eq_true HQ.out.1, decide_eq_true hz]; rfl
        · have hz' : (p : Int) ≤ z := by omega
          have HE := hide (show riseOk S (-1) F = false by rw [HR.out, HN.out, decide_eq_false hz]; simp)
          go_wp2_with (at_lookup; refine lookup_at (K := kText) _ rfl _ _ 66 rfl Tryd.underlying66 W0.heap.size S p HQ.out.1 D hD hIs hx' rfl (by rw [HQ.out.2]; rfl) ?_)
          go_ret
          exact ⟨by rw [HE.out]; rfl, HD.out.1.trans (HB1.out.mono HD.out.1.size)⟩
      · have HE := hide (show riseOk S (-1) F = false by
          rw [HR.out, HN.out, decide_eq_false (fun h => hm (by
            have := List.findIdx_getElem (p := fun y => decide (y = x)) (w := h)
            have e := of_decide_eq_true this
            rw [← e]; exact List.getElem_mem _))]; simp)
        go_wp2_with (at_lookup; refine lookup_not (K := kText) _ rfl _ _ 66 rfl Tryd.underlying66 W0.heap.size S x hm D hD hIs hx rfl rfl (fun c => ?_))
        go_ret
        exact ⟨by rw [HE.out]; rfl, HD.out.1.trans (HB1.out.mono HD.out.1.size)⟩
    · obtain rfl : k = F.length := by omega
      have i2 : ¬ (F.length : Int) < (F.length : Int) := by omega
      have HE := hide (show riseOk S (-1) F = true by rw [HR.out, List.drop_length]; rfl)
      go_wp2
      go_ret
      exact ⟨by rw [HE.out]; rfl, HD.out.1.trans (HB1.out.mono HD.out.1.size)⟩
end Go.Proofs.YtmagchclmmphaaaDoor
