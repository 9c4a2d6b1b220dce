import Derived.Test.YtmagchclmmphaaaGreatDoorVA
import Derived.Test.YtmagchclmmphaaaGreatDoorQA
import Derived.Test.YtmagchclmmphaaaGreatDoorCV
namespace Go.Proofs.YtmagchclmmphaaaGreatDoor
open Go.RowKit Go.Maps
attribute [local go_sem] Oper.semAt_some

theorem nmF_vld (s : ByteArray) : rf.nmF (bts s) = vld s := by
  unfold rf.nmF vld
  rw [bts_len, ← Bool.and_assoc]
  congr 1
  unfold bts
  rw [List.all_map]
  congr 1
  funext c
  exact (nm_same c.toNat).symm
theorem plcF_neg {α : Type} [DecidableEq α] {l : List α} {s : α} : 0 ≤ plcF l s ↔ s ∈ l := by
  unfold plcF
  by_cases h : s ∈ l
  · rw [if_pos h]; exact ⟨fun _ => h, fun _ => by omega⟩
  · rw [if_neg h]; exact ⟨fun q => by omega, fun q => absurd q h⟩
theorem nodup_take {α : Type} {l : List α} {k : Nat} (hk : k < l.length) (h : (l.take k).Nodup) (hn : l[k] ∉ l.take k) : (l.take (k + 1)).Nodup := by
  rw [List.take_succ_eq_append_getElem hk, List.nodup_append]
  refine ⟨h, by simp, fun a ha b hb => ?_⟩
  rw [List.mem_singleton.1 hb]
  intro e
  exact hn (e ▸ ha)
theorem dup_take {α : Type} {l : List α} {k : Nat} (hk : k < l.length) (hn : l[k] ∈ l.take k) : ¬ l.Nodup := by
  intro h
  obtain ⟨j, hj, e⟩ := List.mem_take_iff_getElem.1 hn
  have := (List.pairwise_iff_getElem.1 h j k (by omega) hk (by omega))
  exact this e

set_option maxRecDepth 100000 in
set_option maxHeartbeats 2000000 in
/-- The document's: each a name, none twice. -/
theorem ronce_any (w : World) (ao : Option Addr) (cap : Nat) (l : List ByteArray) (hA : Hid (ReadsS w ao l)) (hl : l.length ≤ 4194304) (hc : Hid (l.length ≤ cap)) :
    Calls Tryz.prog 60 #[.slice ao l.length cap] w fun e w' => e = .returned (.bool (l.all vld && decide l.Nodup)) ∧ Below w.heap.size w w' := by
  go_enter Tryz.func60, Tryz.ntmps60
  go_wp2_with fail
  go_loopw [3] (fun i wr => ∃ k : Nat, k ≤ l.length ∧ i = .int .i64 k ∧ Hid (Below w.heap.size w wr ∧ (l.take k).all vld = true ∧ (l.take k).Nodup)) (fun i _ => l.length - (intOf i).toNat)
  case atStart => exact ⟨0, Nat.zero_le _, rfl, hide ⟨Below.refl _ _, by simp, by simp⟩⟩
  case round =>
    obtain ⟨k, hk, rfl, HN⟩ := hrel
    by_cases hlt : k < l.length
    · obtain ⟨g1, o1, rfl, q1⟩ := (hA.out.below HN.out.1) k hlt
      have i2 : (k : Int) < (l.length : Int) := by omega
      have i3 : (0 : Int) ≤ (k : Int) := by omega
      have i4 : (k : Int) ≤ (cap : Int) := by have := hc.out; omega
      obtain ⟨x, hx⟩ : ∃ x, l[k] = x := ⟨_, rfl⟩
      rw [hx] at q1
      have HX := hide hx
      clear hx
      have T1 := rf.name_any x wr
      rw [nmF_vld] at T1
      cases hv : vld x with
      | false =>
        rw [hv] at T1
        go_wp2_with (go_at_call 59; refine T1.mono ?_; rintro e w1 ⟨rfl, rfl⟩)
        go_quiet (fail)
        go_wp2_with fail
        go_ret
        refine ⟨?_, rf.below_drewN' HN.out.1 _⟩
        rw [all_not hlt (by rw [HX.out]; exact hv)]
        rfl
      | true =>
        rw [hv] at T1
        have hp : (l.take k).length = k := by rw [List.length_take]; omega
        have HP := hide (fun W (d : Below w.heap.size w W) => show Calls Tryz.prog 42 #[.slice (some ⟨g1, o1, none⟩) k cap, .string x] W _ by
          have q := rplace_any W (some ⟨g1, o1, none⟩) cap (l.take k) x (hide (fun j hj => by
            obtain ⟨g, o, e, c⟩ := (hA.out.below d) j (by omega)
            exact ⟨g, o, e, by rw [List.getElem_take]; exact c⟩)) (by omega)
          rw [hp] at q
          exact q)
        obtain ⟨z, hz⟩ : ∃ z, plcF (l.take k) x = z := ⟨_, rfl⟩
        rw [hz] at HP
        have HZ := hide hz
        clear hz
        by_cases hm : 0 ≤ z
        · have j2 : (0 : Int) ≤ z := hm
          go_wp2_with (go_at_call 59; refine T1.mono ?_; rintro e w1 ⟨rfl, rfl⟩)
          go_quiet ((go_at_call 42; refine Calls.quiet_of_same (HP.out _ ?_); exact rf.below_drewN' HN.out.1 _))
          go_wp2_with fail
          go_ret
          refine ⟨?_, rf.below_drewN' HN.out.1 _⟩
          rw [← HZ.out, plcF_neg] at hm
          rw [decide_eq_false (dup_take hlt (by rw [HX.out]; exact hm)), Bool.and_false]
          rfl
        · have j2 : ¬ (0 : Int) ≤ z := hm
          have HM : Hid (x ∉ l.take k) := hide fun q => by have := plcF_neg.2 q; rw [HZ.out] at this; omega
          go_wp2_with (go_at_call 59; refine T1.mono ?_; rintro e w1 ⟨rfl, rfl⟩)
          go_quiet ((go_at_call 42; refine Calls.quiet_of_same (HP.out _ ?_); exact rf.below_drewN' HN.out.1 _))
          go_wp2_with fail
          exact ⟨⟨k + 1, by omega, by go_num, hide ⟨rf.below_drewN' HN.out.1 _, all_next hlt HN.out.2.1 (by rw [HX.out]; exact hv), nodup_take hlt HN.out.2.2 (by rw [HX.out]; exact HM.out)⟩⟩, by simp [intOf]; omega⟩
    · obtain rfl : k = l.length := by omega
      have i2 : ¬ (l.length : Int) < (l.length : Int) := by omega
      go_wp2
      go_ret
      obtain ⟨a, b, c⟩ := HN.out
      rw [List.take_length] at b c
      exact ⟨by rw [b, decide_eq_true c]; rfl, a⟩
end Go.Proofs.YtmagchclmmphaaaGreatDoor
namespace Go.Proofs.YtmagchclmmphaaaGreatDoor
open Go.RowKit Go.Maps
attribute [local go_sem] Oper.semAt_some

/-- How many symbols there are. -/
def cntF (O : List OpI) : Nat := O.countP (fun x => x.2 == 1)
theorem cnt_next {O : List OpI} {k : Nat} (hk : k < O.length) : cntF (O.take (k + 1)) = cntF (O.take k) + (if O[k].2 = 1 then 1 else 0) := by
  unfold cntF
  rw [List.take_succ_eq_append_getElem hk, List.countP_append, List.countP_singleton]
  simp

set_option maxRecDepth 100000 in
set_option maxHeartbeats 2000000 in
theorem rcount_any (w : World) (ti : ByteArray) (ao asx af ar : Option Addr) (co ns cs nf cf nr cr : Nat) (O : List OpI) (hA : Hid (RdO w ao O)) (hl : O.length ≤ 4194304) :
    Calls Tryz.prog 27 #[.agg #[.string ti, .slice ao O.length co, .slice asx ns cs, .slice af nf cf, .slice ar nr cr]] w fun e w' => e = .returned (.tuple #[.int .i64 ns, .int .i64 (cntF O : Nat), .int .i64 nr]) ∧ Below w.heap.size w w' := by
  obtain ⟨W0, hW0⟩ : ∃ W0, w.alloc (.cells #[.string ti, .slice ao O.length co, .slice asx ns cs, .slice af nf cf, .slice ar nr cr] 26) = W0 := ⟨_, rfl⟩
  have d0 : Below w.heap.size w W0 := by rw [← hW0]; exact (Below.refl _ _).alloc (Nat.le_refl _) _
  have b0 : W0.heap[w.heap.size]? = some (.cells #[.string ti, .slice ao O.length co, .slice asx ns cs, .slice af nf cf, .slice ar nr cr] 26 (0, 0)) := by rw [← hW0]; exact World.alloc_heap_new _ _
  have HO := hide (hA.out.on d0)
  have c1 : W0.cell? ⟨w.heap.size, 1, none⟩ = some (.slice ao O.length co) := cell_of b0 rfl
  have c2 : W0.cell? ⟨w.heap.size, 2, none⟩ = some (.slice asx ns cs) := cell_of b0 rfl
  have c4 : W0.cell? ⟨w.heap.size, 4, none⟩ = some (.slice ar nr cr) := cell_of b0 rfl
  have HD := hide d0
  clear hA d0 b0
  go_enter Tryz.func27, Tryz.ntmps27
  go_wp2_with fail
  go_loopw [5, 6] (fun n i wr => ∃ k : Nat, k ≤ O.length ∧ i = .int .i64 k ∧ n = .int .i64 (cntF (O.take k) : Nat) ∧ wr = W0) (fun _ i _ => O.length - (intOf i).toNat)
  case atStart => exact ⟨0, Nat.zero_le _, rfl, rfl, rfl⟩
  case round =>
    obtain ⟨k, hk, rfl, rfl, rfl⟩ := hrel
    by_cases hlt : k < O.length
    · obtain ⟨g1, o1, rfl, q0, q1⟩ := HO.out k hlt
      have i2 : (k : Int) < (O.length : Int) := by omega
      have i3 : (0 : Int) ≤ (k : Int) := by omega
      have hn := cnt_next hlt
      obtain ⟨x, hx⟩ : ∃ x, O[k].2 = x := ⟨_, rfl⟩
      rw [hx] at q1 hn
      obtain ⟨m, hm⟩ : ∃ m, cntF (O.take k) = m := ⟨_, rfl⟩
      have hmb : m ≤ 4194304 := by
        rw [← hm]; unfold cntF
        have := List.countP_le_length (p := fun x : OpI => x.2 == 1) (l := O.take k)
        rw [List.length_take] at this
        omega
      rw [hm] at hn ⊢
      have HN := hide hn
      clear hn hx hm q0
      by_cases h1 : x = 1
      · subst h1
        go_wp2
        refine ⟨⟨k + 1, by omega, by go_num, ?_, trivial⟩, by simp [intOf]; omega⟩
        rw [HN.out]; simp
      · have e1 : (x == 1) = false := by rw [beq_eq_false_iff_ne]; exact h1
        go_wp2
        refine ⟨⟨k + 1, by omega, by go_num, ?_, trivial⟩, by simp [intOf]; omega⟩
        rw [HN.out, if_neg h1]; simp
    · obtain rfl : k = O.length := by omega
      have i2 : ¬ (O.length : Int) < (O.length : Int) := by omega
      rw [List.take_length]
      go_wp2_with fail
      go_quiet (fail)
      go_wp2_with fail
      go_ret3
      exact ⟨rfl, rf.below_drewN' HD.out _⟩
end Go.Proofs.YtmagchclmmphaaaGreatDoor
namespace Go.Proofs.YtmagchclmmphaaaGreatDoor
open Go.RowKit Go.Maps
attribute [local go_sem] Oper.semAt_some

set_option maxRecDepth 100000 in
set_option maxHeartbeats 2000000 in
/-- The document's line: a head and words behind it. -/
theorem rlisted_any (w : World) (h : ByteArray) (ao : Option Addr) (cap : Nat) (l : List ByteArray) (m : Nat) (hA : Hid (ReadsS w ao l)) (hl : l.length ≤ 1048576) (hh : h.size ≤ 1048576) (hm : m ≤ 32) (hs : Hid (∀ x ∈ l, x.size ≤ m)) :
    Calls Tryz.prog 58 #[.string h, .slice ao l.length cap] w fun e w' => e = .returned (.string (onT h l ++ ⟨#[10]⟩)) ∧ w' = w := by
  go_enter Tryz.func58, Tryz.ntmps58
  go_wp2_with fail
  go_loopw [5, 6] (fun s i wr => ∃ k : Nat, k ≤ l.length ∧ i = .int .i64 k ∧ s = .string (onT h (l.take k)) ∧ wr = w) (fun _ i _ => l.length - (intOf i).toNat)
  case atStart => exact ⟨0, Nat.zero_le _, rfl, rfl, rfl⟩
  case round =>
    obtain ⟨k, hk, rfl, rfl, rfl⟩ := hrel
    by_cases hlt : k < l.length
    · obtain ⟨g1, o1, rfl, q1⟩ := hA.out k hlt
      have i2 : (k : Int) < (l.length : Int) := by omega
      have i3 : (0 : Int) ≤ (k : Int) := by omega
      have hn : onT h (l.take (k + 1)) = onT h (l.take k) ++ ⟨#[32]⟩ ++ l[k] := by
        rw [onT_next hlt, ByteArray.append_assoc]; rfl
      have hb := onT_size h (l.take k) m (fun x hx => hs.out x (List.mem_of_mem_take hx))
      have hxs : l[k].size ≤ 32 := Nat.le_trans (hs.out _ (List.getElem_mem hlt)) hm
      obtain ⟨x, hx⟩ : ∃ x, l[k] = x := ⟨_, rfl⟩
      obtain ⟨t, ht⟩ : ∃ t, onT h (l.take k) = t := ⟨_, rfl⟩
      rw [hx] at q1 hn hxs
      rw [ht] at hn hb ⊢
      have hts : t.size ≤ 40000000 := by
        have h1 : (l.take k).length * (m + 1) ≤ 1048576 * 33 := Nat.mul_le_mul (by rw [List.length_take]; omega) (by omega)
        omega
      have HN := hide hn
      have hz : (t ++ (⟨#[32]⟩ : ByteArray)).size = t.size + 1 := by rw [ByteArray.size_append]; rfl
      clear hn hx ht hb
      go_wp2
      refine ⟨⟨k + 1, by omega, by go_num, ?_, trivial⟩, by simp [intOf]; omega⟩
      rw [HN.out]
    · obtain rfl : k = l.length := by omega
      have i2 : ¬ (l.length : Int) < (l.length : Int) := by omega
      rw [List.take_length]
      have hb := onT_size h l m hs.out
      obtain ⟨t, ht⟩ : ∃ t, onT h l = t := ⟨_, rfl⟩
      rw [ht] at hb ⊢
      have hts : t.size ≤ 40000000 := by
        have h1 : l.length * (m + 1) ≤ 1048576 * 33 := Nat.mul_le_mul (by omega) (by omega)
        omega
      have HT := hide ht
      clear hb ht
      go_wp2
      go_ret
      exact ⟨by rw [HT.out]; rfl, rfl⟩
end Go.Proofs.YtmagchclmmphaaaGreatDoor
