import Derived.Test.YtfoahpideglghaaGreatDoorFill
namespace Go.Proofs.YtfoahpideglghaaGreatDoor
open Go.RowKit

/-- All numbers of a list are below the bound. -/
def okI (n : Nat) (l : List Int) : Bool := l.all fun i => decide (0 ≤ i ∧ i < (n : Int))
theorem okI_false {n : Nat} {l : List Int} {k : Nat} {x : Int} (hlt : k < l.length) (hx : l.getD k 0 = x) (hin : ¬ (0 ≤ x ∧ x < (n : Int))) : okI n l = false := by
  unfold okI
  rw [List.all_eq_false]
  refine ⟨x, ?_, by simpa using hin⟩
  rw [← hx, List.getD_eq_getElem?_getD, List.getElem?_eq_getElem hlt]
  exact List.getElem_mem hlt
set_option maxRecDepth 100000 in
theorem okI_take_one {n : Nat} {l : List Int} {k : Nat} {x : Int} (ht : l.take (k + 1) = l.take k ++ [x]) (h : okI n (l.take k) = true) (hin : 0 ≤ x ∧ x < (n : Int)) : okI n (l.take (k + 1)) = true := by
  unfold okI at h ⊢
  rw [ht, List.all_append, h]
  simpa using hin
set_option maxRecDepth 100000 in
set_option maxHeartbeats 1000000 in
theorem of81_any (ao : Option Addr) (cp n : Nat) (l : List Int) (w : World) (hn : n ≤ 8192) (hr : ReadsI w ao l) (hlen : l.length ≤ 9223372036854775807) :
    Calls Tryz.prog 69 #[.int .i64 n, .slice ao l.length cp] w fun e w' => (okI n l = true ∧ ∃ b g cap, e = .returned (.tuple #[.pointer (some ⟨b, 0, none⟩), .int .i64 0]) ∧ IsSet w' b g cap n (setI n l) ∧ w.heap.size ≤ b ∧ w.heap.size ≤ g ∧ b ≠ g ∧ Below w.heap.size w w') ∨ (okI n l = false ∧ e = .returned (.tuple #[.pointer none, .int .i64 10]) ∧ Below w.heap.size w w') := by
  go_enter Tryz.func69, Tryz.ntmps69
  go_wp2_with fail
  refine (new_ok n _ hn).mono ?_
  rintro e w1 ⟨b, g, cap, rfl, hs1, hb, hg, hbg, hb1⟩
  go_wp2
  go_loopw [21] (fun i wr => ∃ k : Nat, k ≤ l.length ∧ i = .int .i64 k ∧ IsSet wr b g cap n (setI n (l.take k)) ∧ Hid (okI n (l.take k) = true) ∧ Below w.heap.size w wr) (fun i _ => l.length - (intOf i).toNat)
  case atStart => exact ⟨0, Nat.zero_le _, rfl, hs1, rfl, hb1⟩
  case round =>
    obtain ⟨k, hk, rfl, hsr, HO, hbr⟩ := hrel
    clear hs1 hb1
    by_cases hlt : k < l.length
    · obtain ⟨ga, oa, rfl, hc⟩ := hr k hlt
      have hgl : ga < w.heap.size := World.block_lt_of_cell? w ⟨ga, oa + k, none⟩ hc
      have hc2 := (hbr.cell (p := ⟨ga, oa + k, none⟩) hgl).trans hc
      have ht := take_one l k hlt
      obtain ⟨x, hx⟩ : ∃ x, l.getD k 0 = x := ⟨_, rfl⟩
      rw [hx] at hc2 ht
      have HT := hide ht
      have HW := hide hr
      have HX := hide hx
      clear ht hx hr hc
      by_cases hin : 0 ≤ x ∧ x < (n : Int)
      · obtain ⟨j, rfl⟩ := Int.eq_ofNat_of_zero_le hin.1
        have hj : j < n := by omega
        go_wp2_with fail
        refine (add_in b g cap n _ j w.heap.size _ hsr hbg hj hg).mono ?_
        rintro e w2 ⟨rfl, hs2, hb2⟩
        have hc3 := (hb2.cell (p := ⟨ga, oa + k, none⟩) hgl).trans hc2
        have hb3 := hbr.trans hb2
        have HO2 := hide (okI_take_one HT.out HO.out hin)
        clear hsr hbr hb2 hc2
        go_wp2
        go_roundw
        case rel => exact ⟨k + 1, by omega, by go_num, by rw [HT.out, setI_snoc, if_pos hin]; exact hs2, HO2, hb3⟩
        case measure => simp [intOf]; omega
      · have HF := hide (okI_false hlt HX.out hin)
        have HB := hide hbr
        go_wp2_with fail
        refine (add_out b g cap n _ x _ hsr hin).mono ?_
        rintro e w2 ⟨rfl, rfl⟩
        clear hin hbr hsr
        go_wp2
        go_ret2
        exact .inr ⟨HF.out, rfl, HB.out⟩
    · obtain rfl : k = l.length := by omega
      have HS := hide hsr
      have HB := hide hbr
      have HN := hide (And.intro hb (And.intro hg hbg))
      rw [List.take_length] at HO HS
      clear hsr hbr hr hb hg hbg
      go_wp2
      go_ret2
      exact .inl ⟨HO.out, _, _, _, rfl, HS.out, HN.out.1, HN.out.2.1, HN.out.2.2, HB.out⟩
set_option maxRecDepth 100000 in
theorem of81_bad (n : Int) (v : Value) (w : World) (h : n < 0 ∨ 8192 < n) :
    Calls Tryz.prog 69 #[.int .i64 n, v] w fun e w' => e = .returned (.tuple #[.pointer none, .int .i64 1]) ∧ w' = w := by
  go_enter Tryz.func69, Tryz.ntmps69
  go_wp2_with fail
  refine (new_bad n _ h).mono ?_
  rintro e w1 ⟨rfl, rfl⟩
  clear h
  go_wp2
  go_ret2
  exact ⟨rfl, rfl⟩
end Go.Proofs.YtfoahpideglghaaGreatDoor
