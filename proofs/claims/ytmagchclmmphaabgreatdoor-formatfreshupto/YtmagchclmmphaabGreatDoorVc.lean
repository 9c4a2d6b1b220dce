import Derived.Test.YtmagchclmmphaabGreatDoorVA
import Derived.Test.YtmagchclmmphaabGreatDoorQA
import Derived.Test.YtmagchclmmphaabGreatDoorCV
namespace Go.Proofs.YtmagchclmmphaabGreatDoor
open Go.RowKit Go.Maps
attribute [local go_sem] Oper.semAt_some

theorem nmF_vld (s : ByteArray) : rf.nmF (bts s) = vld s := by
  unfold rf.nmF vld
  rw [bts_len, ← Bool.and_assoc]
  congr 1
  unfold bts
  rw [List.all_map]
  congr 1
  funext c
  exact (nm_same c.toNat).symm
theorem plcF_neg {α : Type} [DecidableEq α] {l : List α} {s : α} : 0 ≤ plcF l s ↔ s ∈ l := by
  unfold plcF
  by_cases h : s ∈ l
  · rw [if_pos h]; exact ⟨fun _ => h, fun _ => by omega⟩
  · rw [if_neg h]; exact ⟨fun q => by omega, fun q => absurd q h⟩
theorem nodup_take {α : Type} {l : List α} {k : Nat} (hk : k < l.length) (h : (l.take k).Nodup) (hn : l[k] ∉ l.take k) : (l.take (k + 1)).Nodup := by
  rw [List.take_succ_eq_append_getElem hk, List.nodup_append]
  refine ⟨h, by simp, fun a ha b hb => ?_⟩
  rw [List.mem_singleton.1 hb]
  intro e
  exact hn (e ▸ ha)
theorem dup_take {α : Type} {l : List α} {k : Nat} (hk : k < l.length) (hn : l[k] ∈ l.take k) : ¬ l.Nodup := by
  intro h
  obtain ⟨j, hj, e⟩ := List.mem_take_iff_getElem.1 hn
  have := (List.pairwise_iff_getElem.1 h j k (by omega) hk (by omega))
  exact this e

set_option maxRecDepth 100000 in
set_option maxHeartbeats 2000000 in
/-- The document's: each a name, none twice. -/
theorem ronce_any (w : World) (ao : Option Addr) (cap : Nat) (l : List ByteArray) (hA : Hid (ReadsS w ao l)) (hl : l.length ≤ 4194304) (hc : Hid (l.length ≤ cap)) :
    Calls Tryz.prog 88 #[.slice ao l.length cap] w fun e w' => e = .returned (.bool (l.all vld && decide l.Nodup)) ∧ Below w.heap.size w w' := by
  go_enter Tryz.func88, Tryz.ntmps88
  go_wp2_with fail
  go_loopw [3] (fun i wr => ∃ k : Nat, k ≤ l.length ∧ i = .int .i64 k ∧ Hid (Below w.heap.size w wr ∧ (l.take k).all vld = true ∧ (l.take k).Nodup)) (fun i _ => l.length - (intOf i).toNat)
  case atStart => exact ⟨0, Nat.zero_le _, rfl, hide ⟨Below.refl _ _, by simp, by simp⟩⟩
  case round =>
    obtain ⟨k, hk, rfl, HN⟩ := hrel
    by_cases hlt : k < l.length
    · obtain ⟨g1, o1, rfl, q1⟩ := (hA.out.below HN.out.1) k hlt
      have i2 : (k : Int) < (l.length : Int) := by omega
      have i3 : (0 : Int) ≤ (k : Int) := by omega
      have i4 : (k : Int) ≤ (cap : Int) := by have := hc.out; omega
      obtain ⟨x, hx⟩ : ∃ x, l[k] = x := ⟨_, rfl⟩
      rw [hx] at q1
      have HX := hide hx
      clear hx
      have T1 := rf.name_any x wr
      rw [nmF_vld] at T1
      cases hv : vld x with
      | false =>
        rw [hv] at T1
        go_wp2_with (go_at_call 87; refine T1.mono ?_; rintro e w1 ⟨rfl, rfl⟩)
        go_quiet (fail)
        go_wp2_with fail
        go_ret
        refine ⟨?_, rf.below_drewN' HN.out.1 _⟩
        rw [all_not hlt (by rw [HX.out]; exact hv)]
        rfl
      | true =>
        rw [hv] at T1
        have hp : (l.take k).length = k := by rw [List.length_take]; omega
        have HP := hide (fun W (d : Below w.heap.size w W) => show Calls Tryz.prog 53 #[.slice (some ⟨g1, o1, none⟩) k cap, .string x] W _ by
          have q := rplace_any W (some ⟨g1, o1, none⟩) cap (l.take k) x (hide (fun j hj => by
            obtain ⟨g, o, e, c⟩ := (hA.out.below d) j (by omega)
            exact ⟨g, o, e, by rw [List.getElem_take]; exact c⟩)) (by omega)
          rw [hp] at q
          exact q)
        obtain ⟨z, hz⟩ : ∃ z, plcF (l.take k) x = z := ⟨_, rfl⟩
        rw [hz] at HP
        have HZ := hide hz
        clear hz
        by_cases hm : 0 ≤ z
        · have j2 : (0 : Int) ≤ z := hm
          go_wp2_with (go_at_call 87; refine T1.mono ?_; rintro e w1 ⟨rfl, rfl⟩)
          go_quiet ((go_at_call 53; refine Calls.quiet_of_same (HP.out _ ?_); exact rf.below_drewN' HN.out.1 _))
          go_wp2_with fail
          go_ret
          refine ⟨?_, rf.below_drewN' HN.out.1 _⟩
          rw [← HZ.out, plcF_neg] at hm
          rw [decide_eq_false (dup_take hlt (by rw [HX.out]; exact hm)), Bool.and_false]
          rfl
        · have j2 : ¬ (0 : Int) ≤ z := hm
          have HM : Hid (x ∉ l.take k) := hide fun q => by have := plcF_neg.2 q; rw [HZ.out] at this; omega
          go_wp2_with (go_at_call 87; refine T1.mono ?_; rintro e w1 ⟨rfl, rfl⟩)
          go_quiet ((go_at_call 53; refine Calls.quiet_of_same (HP.out _ ?_); exact rf.below_drewN' HN.out.1 _))
          go_wp2_with fail
          exact ⟨⟨k + 1, by omega, by go_num, hide ⟨rf.below_drewN' HN.out.1 _, all_next hlt HN.out.2.1 (by rw [HX.out]; exact hv), nodup_take hlt HN.out.2.2 (by rw [HX.out]; exact HM.out)⟩⟩, by simp [intOf]; omega⟩
    · obtain rfl : k = l.length := by omega
      have i2 : ¬ (l.length : Int) < (l.length : Int) := by omega
      go_wp2
      go_ret
      obtain ⟨a, b, c⟩ := HN.out
      rw [List.take_length] at b c
      exact ⟨by rw [b, decide_eq_true c]; rfl, a⟩
end Go.Proofs.YtmagchclmmphaabGreatDoor
