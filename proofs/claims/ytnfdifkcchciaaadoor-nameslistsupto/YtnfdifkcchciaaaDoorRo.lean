import Derived.Test.YtnfdifkcchciaaaDoorRl
import Derived.Test.YtnfdifkcchciaaaDoorMmath
namespace Go.Proofs.YtnfdifkcchciaaaDoor
open Go.RowKit Go.Maps

theorem bad_mem {l : List ByteArray} (h : ¬ l.all vld = true) : ∃ s ∈ l, vld s = false := by simpa using h
theorem good_mem {l : List ByteArray} (h : l.all vld = true) : ∀ s ∈ l, vld s = true := List.all_eq_true.1 h

theorem all_cases (v : Value) (l : List ByteArray) (w : World) (h : StrS w v l) (hs : l.length ≤ 4194304) :
    Calls Tryd.prog 51 #[v] w fun e w' => e = .returned (.int .i64 (if l.all vld = true then 0 else 20)) ∧ w' = w := by
  by_cases hv : l.all vld = true
  · rw [if_pos hv]; exact all_yes v l w h hs (hide (good_mem hv))
  · rw [if_neg hv]; exact all_no v l w h hs (hide (bad_mem hv))

set_option maxRecDepth 100000 in
set_option maxHeartbeats 1000000 in
/-- The reference's Merge of lists with one that is no name. -/
theorem rmerge_noname (va vb : Value) (a b : List ByteArray) (w : World) (ha : StrS w va a) (hb : StrS w vb b) (la : a.length ≤ 2097152) (lb : b.length ≤ 2097152) (h : ¬ (a.all vld = true ∧ b.all vld = true)) :
    Calls Tryd.prog 27 #[va, vb] w fun e w' => e = .returned (.tuple #[.slice none 0 0, .slice none 0 0, .slice none 0 0, .int .i64 20]) ∧ w' = w := by
  have HA := hide (And.intro ha hb)
  obtain ⟨x, hx⟩ : ∃ x : Int, (if a.all vld = true then 0 else 20) = x := ⟨_, rfl⟩
  obtain ⟨y, hy⟩ : ∃ y : Int, (if b.all vld = true then 0 else 20) = y := ⟨_, rfl⟩
  by_cases h1 : a.all vld = true
  · have h2 : ¬ b.all vld = true := fun e => h ⟨h1, e⟩
    rw [if_pos h1] at hx
    rw [if_neg h2] at hy
    have HV := hide (And.intro h1 h2)
    clear ha hb h h1 h2
    go_enter Tryd.func27, Tryd.ntmps27
    go_wp2_with fail
    refine (all_yes va a _ HA.out.1 (by omega) (hide (good_mem HV.out.1))).mono ?_
    rintro e w2 ⟨rfl, hw⟩
    obtain rfl := hw.symm
    clear hw
    go_wp2_with fail
    refine (all_no vb b _ HA.out.2 (by omega) (hide (bad_mem HV.out.2))).mono ?_
    rintro e w2 ⟨rfl, hw⟩
    obtain rfl := hw.symm
    clear hw
    go_wp2
    refine bodyPost_ret (results_tmp4 rfl _ _ _) rfl ?_
    exact ⟨rfl, rfl⟩
  · have HV := hide h1
    have HB := all_cases vb b w hb (by omega)
    rw [hy] at HB
    have HBh := hide HB
    clear ha hb h h1 HB hy hx
    go_enter Tryd.func27, Tryd.ntmps27
    go_wp2_with fail
    refine (all_no va a _ HA.out.1 (by omega) (hide (bad_mem HV.out))).mono ?_
    rintro e w2 ⟨rfl, hw⟩
    obtain rfl := hw.symm
    clear hw
    go_wp2_with fail
    refine HBh.out.mono ?_
    rintro e w2 ⟨rfl, hw⟩
    obtain rfl := hw.symm
    clear hw
    go_wp2
    refine bodyPost_ret (results_tmp4 rfl _ _ _) rfl ?_
    exact ⟨rfl, rfl⟩

set_option maxRecDepth 100000 in
set_option maxHeartbeats 1000000 in
/-- The reference's Merge of lists with a name that stands twice. -/
theorem rmerge_twice (va vb : Value) (a b : List ByteArray) (w : World) (ha : StrS w va a) (hb : StrS w vb b) (la : a.length ≤ 2097152) (lb : b.length ≤ 2097152) (h1 : a.all vld = true) (h2 : b.all vld = true) (h : ¬ (a.Nodup ∧ b.Nodup)) :
    Calls Tryd.prog 27 #[va, vb] w fun e w' => e = .returned (.tuple #[.slice none 0 0, .slice none 0 0, .slice none 0 0, .int .i64 21]) ∧ w' = w := by
  have HA := hide (And.intro ha hb)
  have HV := hide (And.intro h1 h2)
  by_cases n1 : a.Nodup
  · have n2 : ¬ b.Nodup := fun e => h ⟨n1, e⟩
    have HN := hide (And.intro n1 n2)
    clear ha hb h h1 h2 n1 n2
    go_enter Tryd.func27, Tryd.ntmps27
    go_wp2_with fail
    refine (all_yes va a _ HA.out.1 (by omega) (hide (good_mem HV.out.1))).mono ?_
    rintro e w2 ⟨rfl, hw⟩
    obtain rfl := hw.symm
    clear hw
    go_wp2_with fail
    refine (all_yes vb b _ HA.out.2 (by omega) (hide (good_mem HV.out.2))).mono ?_
    rintro e w2 ⟨rfl, hw⟩
    obtain rfl := hw.symm
    clear hw
    go_wp2_with fail
    refine (once_yes va a _ HA.out.1 (by omega) HN.out.1).mono ?_
    rintro e w2 ⟨rfl, hw⟩
    obtain rfl := hw.symm
    clear hw
    go_wp2_with fail
    refine (once_no vb b _ HA.out.2 (by omega) HN.out.2).mono ?_
    rintro e w2 ⟨rfl, hw⟩
    obtain rfl := hw.symm
    clear hw
    go_wp2
    refine bodyPost_ret (results_tmp4 rfl _ _ _) rfl ?_
    exact ⟨rfl, rfl⟩
  · have HN := hide n1
    have HB := once_any vb b w hb (by omega)
    obtain ⟨y, hy⟩ : ∃ y : Int, (if b.Nodup then 0 else 21) = y := ⟨_, rfl⟩
    rw [hy] at HB
    have HBh := hide HB
    clear ha hb h h1 h2 n1 HB hy
    go_enter Tryd.func27, Tryd.ntmps27
    go_wp2_with fail
    refine (all_yes va a _ HA.out.1 (by omega) (hide (good_mem HV.out.1))).mono ?_
    rintro e w2 ⟨rfl, hw⟩
    obtain rfl := hw.symm
    clear hw
    go_wp2_with fail
    refine (all_yes vb b _ HA.out.2 (by omega) (hide (good_mem HV.out.2))).mono ?_
    rintro e w2 ⟨rfl, hw⟩
    obtain rfl := hw.symm
    clear hw
    go_wp2_with fail
    refine (once_no va a _ HA.out.1 (by omega) HN.out).mono ?_
    rintro e w2 ⟨rfl, hw⟩
    obtain rfl := hw.symm
    clear hw
    go_wp2_with fail
    refine HBh.out.mono ?_
    rintro e w2 ⟨rfl, hw⟩
    obtain rfl := hw.symm
    clear hw
    go_wp2
    refine bodyPost_ret (results_tmp4 rfl _ _ _) rfl ?_
    exact ⟨rfl, rfl⟩

end Go.Proofs.YtnfdifkcchciaaaDoor
