import Derived.Test.YtchoopnjckcohaaGreatDoorQaf
import Derived.RangeFuncNested
import Derived.RangeFuncBound
import Derived.RangeFuncCalls
import Derived.RangeFuncLeaves
import Derived.RangeFuncBox
import Derived.Shelf.Abstract
import Derived.Shelf.RegionOpen
import Derived.OwnWalkIn
import Derived.TacticsInMore
import Derived.LoopNIn
import Derived.LoopIn
set_option maxRecDepth 100000
set_option maxHeartbeats 40000000
namespace Go.Proofs.YtchoopnjckcohaaGreatDoor
open Go.RowKit Go.Maps Go.Shelf
attribute [local go_sem] Oper.semAt_some
def symOk (m : Int) : Bool := decide (0 ≤ m ∧ m ≤ 128)
def badS (m x : Int) : Bool := decide (x < 0 ∨ m ≤ x)
theorem mayBe_any (w : World) (m : Int) : Calls Tryz.prog 54 #[.int .i64 m] w fun e w' => e = .returned (.bool (symOk m)) ∧ w' = w := by
 by_cases h0 : 0 ≤ m
 · by_cases h1 : m ≤ 128
   · have e : symOk m = true := decide_eq_true ⟨h0, h1⟩
     rw [e]
     clear e
     go_enter Tryz.func54, Tryz.ntmps54
     go_wp2_with fail
     go_ret
     exact ⟨rfl, rfl⟩
   · have e : symOk m = false := decide_eq_false (fun h => h1 h.2)
     rw [e]
     clear e
     go_enter Tryz.func54, Tryz.ntmps54
     go_wp2_with fail
     go_ret
     exact ⟨rfl, rfl⟩
 · have e : symOk m = false := decide_eq_false (fun h => h0 h.1)
   rw [e]
   clear e
   have h0' : m < 0 := by omega
   go_enter Tryz.func54, Tryz.ntmps54
   go_wp2_with fail
   go_ret
   exact ⟨rfl, rfl⟩
theorem clos53 (w : World) (b : Nat) (m x : Int) (hb : w.cell? ⟨b, 0, none⟩ = some (.int .i64 m)) : Calls Tryz.prog 53 #[.int .i64 x, .pointer (some ⟨b, 0, none⟩)] w fun e w' => e = .returned (.bool (badS m x)) ∧ Below w.heap.size w w' := by
 by_cases h0 : x < 0
 · have e : badS m x = true := decide_eq_true (.inl h0)
   rw [e]
   clear e
   go_enter Tryz.func53, Tryz.ntmps53
   go_wp2_with fail
   go_ret
   exact ⟨rfl, Below.refl _ _⟩
 · by_cases h1 : m ≤ x
   · have e : badS m x = true := decide_eq_true (.inr h1)
     rw [e]
     clear e
     have h0' : 0 ≤ x := by omega
     go_enter Tryz.func53, Tryz.ntmps53
     go_wp2_with fail
     go_ret
     exact ⟨rfl, Below.refl _ _⟩
   · have e : badS m x = false := decide_eq_false (fun h => h.elim h0 h1)
     rw [e]
     clear e
     have h0' : 0 ≤ x := by omega
     have h1' : x < m := by omega
     go_enter Tryz.func53, Tryz.ntmps53
     go_wp2_with fail
     go_ret
     exact ⟨rfl, Below.refl _ _⟩
theorem clos122 (w : World) (b gf N q : Nat) (f : Nat → Bool) (hb : w.cell? ⟨b, 0, none⟩ = some (.slice (some ⟨gf, 0, none⟩) N N)) (hM : Mrw w gf 4 N (fun c => .bool (f c)) N) (hq : q < N) : Calls Tryz.prog 122 #[.int .i64 (q : Int), .pointer (some ⟨b, 0, none⟩)] w fun e w' => e = .returned (.bool (f q)) ∧ Below w.heap.size w w' := by
 have q0 : (0 : Int) ≤ (q : Int) := by omega
 have q1 : (q : Int) < (N : Int) := by omega
 have c1 := hM.at q hq
 clear hM
 generalize f q = y at c1
 go_enter Tryz.func122, Tryz.ntmps122
 go_wp2_with fail
 go_ret
 exact ⟨rfl, Below.refl _ _⟩
theorem clos128 (w : World) (b gf N q : Nat) (f : Nat → Bool) (hb : w.cell? ⟨b, 0, none⟩ = some (.slice (some ⟨gf, 0, none⟩) N N)) (hM : Mrw w gf 4 N (fun c => .bool (f c)) N) (hq : q < N) : Calls Tryz.prog 128 #[.int .i64 (q : Int), .pointer (some ⟨b, 0, none⟩)] w fun e w' => e = .returned (.bool (f q)) ∧ Below w.heap.size w w' := by
 have q0 : (0 : Int) ≤ (q : Int) := by omega
 have q1 : (q : Int) < (N : Int) := by omega
 have c1 := hM.at q hq
 clear hM
 generalize f q = y at c1
 go_enter Tryz.func128, Tryz.ntmps128
 go_wp2_with fail
 go_ret
 exact ⟨rfl, Below.refl _ _⟩
theorem idx53 (w : World) (ao : Option Addr) (c : Nat) (L : List Int) (b : Nat) (m : Int) (hb : Hid (w.cell? ⟨b, 0, none⟩ = some (.int .i64 m))) (hr : Hid (RdN w ao L)) (hl : L.length ≤ 4194304) :
 Calls Tryz.prog 87 #[.slice ao L.length c, .func (.func 53) #[] #[.pointer (some ⟨b, 0, none⟩)]] w fun e w' => ∃ r : Int, e = .returned (.int .i64 r) ∧ decide (0 ≤ r) = L.any (badS m) ∧ Below w.heap.size w w' := by
 obtain ⟨n, en⟩ : ∃ n, L.length = n := ⟨_, rfl⟩
 rw [en]
 rw [en] at hl
 have HN := hide en
 clear en
 go_enter Tryz.func87, Tryz.ntmps87
 go_wp2_with fail
 go_loopw [8] (fun iv wr => ∃ i : Nat, i ≤ n ∧ iv = .int .i64 (i : Int) ∧ Hid ((∀ x ∈ L.take i, (badS m) x = false) ∧ Below w.heap.size w wr)) (fun iv _ => n - (intOf iv).toNat)
 case atStart => exact ⟨0, Nat.zero_le _, rfl, hide ⟨fun x hx => by simp at hx, Below.refl _ _⟩⟩
 case round =>
  obtain ⟨i, hi, rfl, HY⟩ := hrel
  by_cases hlt : i < n
  · have l0 : (i : Int) < (n : Int) := by omega
    have i0 : (0 : Int) ≤ (i : Int) := by omega
    have hil : i < L.length := by have := HN.out; omega
    obtain ⟨g, o, ea, ca⟩ := (hr.out.on HY.out.2) i hil
    subst ea
    have HX := hide (List.getElem_mem hil)
    have HT := hide (List.take_succ_eq_append_getElem hil)
    have HG := hide (show L[i] ∈ L from List.getElem_mem hil)
    obtain ⟨x, hx⟩ : ∃ x, L[i] = x := ⟨_, rfl⟩
    rw [hx] at ca HT HG
    clear hx HX
    have TC : Calls Tryz.prog 53 #[.int .i64 x, .pointer (some ⟨b, 0, none⟩)] wr fun e w' => e = .returned (.bool ((badS m) x)) ∧ Below wr.heap.size wr w' := clos53 wr b m x ((HY.out.2.cell (World.block_lt_of_cell? w _ hb.out)).trans hb.out)
    obtain ⟨y, hy⟩ : ∃ y, (badS m) x = y := ⟨_, rfl⟩
    rw [hy] at TC
    have HP := hide hy
    clear hy
    go_wp2_with fail
    refine TC.mono ?_
    rintro e w2 ⟨rfl, d2⟩
    have HD := hide (HY.out.2.trans (d2.mono HY.out.2.size))
    clear d2 TC
    cases y with
    | true =>
     go_wp2_with fail
     go_ret
     refine ⟨(i : Int), rfl, ?_, HD.out⟩
     rw [decide_eq_true i0, eq_comm, List.any_eq_true]
     exact ⟨x, HG.out, HP.out⟩
    | false =>
     go_wp2_with fail
     go_roundw
     case rel => exact ⟨i + 1, by omega, by go_num, hide ⟨fun z hz => by
      rw [HT.out] at hz
      rcases List.mem_append.1 hz with hz | hz
      · exact HY.out.1 z hz
      · rw [List.mem_singleton.1 hz]; exact HP.out, HD.out⟩⟩
     case measure => simp [intOf]; omega
  · have l0 : ¬ (i : Int) < (n : Int) := by omega
    have e : L.any (badS m) = false := by
     have hi2 : i = n := by omega
     have t := HY.out.1
     rw [hi2, List.take_of_length_le (by have := HN.out; omega)] at t
     rw [List.any_eq_false]
     intro x hx hc
     have t2 := t x hx
     rw [show (badS m) x = true from hc] at t2
     cases t2
    have HE := hide e
    clear e
    go_wp2_with fail
    go_ret
    exact ⟨-1, rfl, by rw [HE.out]; decide, HY.out.2⟩
theorem cont53 (w : World) (ao : Option Addr) (c : Nat) (L : List Int) (b : Nat) (m : Int) (hb : Hid (w.cell? ⟨b, 0, none⟩ = some (.int .i64 m))) (hr : Hid (RdN w ao L)) (hl : L.length ≤ 4194304) :
 Calls Tryz.prog 52 #[.slice ao L.length c, .func (.func 53) #[] #[.pointer (some ⟨b, 0, none⟩)]] w fun e w' => e = .returned (.bool (L.any (badS m))) ∧ Below w.heap.size w w' := by
 have T := idx53 w ao c L b m hb hr hl
 obtain ⟨y, hy⟩ : ∃ y, L.any (badS m) = y := ⟨_, rfl⟩
 rw [hy] at T ⊢
 generalize L.length = n at T
 clear hy
 go_enter Tryz.func52, Tryz.ntmps52
 go_wp2_with fail
 refine T.mono ?_
 rintro e w2 ⟨r, rfl, hr2, d2⟩
 have HR := hide (And.intro hr2 d2)
 clear hr2 d2 T
 go_wp2_with fail
 go_ret
 exact ⟨by rw [← HR.out.1]; rfl, HR.out.2⟩
theorem idx122 (w : World) (ao : Option Addr) (c : Nat) (L : List Int) (b gf N : Nat) (f : Nat → Bool) (hb : Hid (w.cell? ⟨b, 0, none⟩ = some (.slice (some ⟨gf, 0, none⟩) N N))) (hM : Hid (Mrw w gf 4 N (fun c => .bool (f c)) N)) (hin : Hid (∀ x ∈ L, ∃ q : Nat, q < N ∧ x = (q : Int))) (hr : Hid (RdN w ao L)) (hl : L.length ≤ 4194304) :
 Calls Tryz.prog 87 #[.slice ao L.length c, .func (.func 122) #[] #[.pointer (some ⟨b, 0, none⟩)]] w fun e w' => ∃ r : Int, e = .returned (.int .i64 r) ∧ decide (0 ≤ r) = L.any (fun x => f x.toNat) ∧ Below w.heap.size w w' := by
 obtain ⟨n, en⟩ : ∃ n, L.length = n := ⟨_, rfl⟩
 rw [en]
 rw [en] at hl
 have HN := hide en
 clear en
 go_enter Tryz.func87, Tryz.ntmps87
 go_wp2_with fail
 go_loopw [8] (fun iv wr => ∃ i : Nat, i ≤ n ∧ iv = .int .i64 (i : Int) ∧ Hid ((∀ x ∈ L.take i, (fun x => f x.toNat) x = false) ∧ Below w.heap.size w wr)) (fun iv _ => n - (intOf iv).toNat)
 case atStart => exact ⟨0, Nat.zero_le _, rfl, hide ⟨fun x hx => by simp at hx, Below.refl _ _⟩⟩
 case round =>
  obtain ⟨i, hi, rfl, HY⟩ := hrel
  by_cases hlt : i < n
  · have l0 : (i : Int) < (n : Int) := by omega
    have i0 : (0 : Int) ≤ (i : Int) := by omega
    have hil : i < L.length := by have := HN.out; omega
    obtain ⟨g, o, ea, ca⟩ := (hr.out.on HY.out.2) i hil
    subst ea
    have HX := hide (List.getElem_mem hil)
    have HT := hide (List.take_succ_eq_append_getElem hil)
    have HG := hide (show L[i] ∈ L from List.getElem_mem hil)
    obtain ⟨x, hx⟩ : ∃ x, L[i] = x := ⟨_, rfl⟩
    rw [hx] at ca HT HG
    clear hx HX
    have TC : Calls Tryz.prog 122 #[.int .i64 x, .pointer (some ⟨b, 0, none⟩)] wr fun e w' => e = .returned (.bool ((fun x => f x.toNat) x)) ∧ Below wr.heap.size wr w' := (by
     obtain ⟨q, hq, e⟩ := hin.out x HG.out
     have t := clos122 wr b gf N q f ((HY.out.2.cell (World.block_lt_of_cell? w _ hb.out)).trans hb.out) (hM.out.below HY.out.2 hM.out.lt) hq
     subst e
     exact t)
    obtain ⟨y, hy⟩ : ∃ y, (fun x => f x.toNat) x = y := ⟨_, rfl⟩
    rw [hy] at TC
    have HP := hide hy
    clear hy
    go_wp2_with fail
    refine TC.mono ?_
    rintro e w2 ⟨rfl, d2⟩
    have HD := hide (HY.out.2.trans (d2.mono HY.out.2.size))
    clear d2 TC
    cases y with
    | true =>
     go_wp2_with fail
     go_ret
     refine ⟨(i : Int), rfl, ?_, HD.out⟩
     rw [decide_eq_true i0, eq_comm, List.any_eq_true]
     exact ⟨x, HG.out, HP.out⟩
    | false =>
     go_wp2_with fail
     go_roundw
     case rel => exact ⟨i + 1, by omega, by go_num, hide ⟨fun z hz => by
      rw [HT.out] at hz
      rcases List.mem_append.1 hz with hz | hz
      · exact HY.out.1 z hz
      · rw [List.mem_singleton.1 hz]; exact HP.out, HD.out⟩⟩
     case measure => simp [intOf]; omega
  · have l0 : ¬ (i : Int) < (n : Int) := by omega
    have e : L.any (fun x => f x.toNat) = false := by
     have hi2 : i = n := by omega
     have t := HY.out.1
     rw [hi2, List.take_of_length_le (by have := HN.out; omega)] at t
     rw [List.any_eq_false]
     intro x hx hc
     have t2 := t x hx
     rw [show (fun x => f x.toNat) x = true from hc] at t2
     cases t2
    have HE := hide e
    clear e
    go_wp2_with fail
    go_ret
    exact ⟨-1, rfl, by rw [HE.out]; decide, HY.out.2⟩
theorem cont122 (w : World) (ao : Option Addr) (c : Nat) (L : List Int) (b gf N : Nat) (f : Nat → Bool) (hb : Hid (w.cell? ⟨b, 0, none⟩ = some (.slice (some ⟨gf, 0, none⟩) N N))) (hM : Hid (Mrw w gf 4 N (fun c => .bool (f c)) N)) (hin : Hid (∀ x ∈ L, ∃ q : Nat, q < N ∧ x = (q : Int))) (hr : Hid (RdN w ao L)) (hl : L.length ≤ 4194304) :
 Calls Tryz.prog 52 #[.slice ao L.length c, .func (.func 122) #[] #[.pointer (some ⟨b, 0, none⟩)]] w fun e w' => e = .returned (.bool (L.any (fun x => f x.toNat))) ∧ Below w.heap.size w w' := by
 have T := idx122 w ao c L b gf N f hb hM hin hr hl
 obtain ⟨y, hy⟩ : ∃ y, L.any (fun x => f x.toNat) = y := ⟨_, rfl⟩
 rw [hy] at T ⊢
 generalize L.length = n at T
 clear hy
 go_enter Tryz.func52, Tryz.ntmps52
 go_wp2_with fail
 refine T.mono ?_
 rintro e w2 ⟨r, rfl, hr2, d2⟩
 have HR := hide (And.intro hr2 d2)
 clear hr2 d2 T
 go_wp2_with fail
 go_ret
 exact ⟨by rw [← HR.out.1]; rfl, HR.out.2⟩
theorem idx128 (w : World) (ao : Option Addr) (c : Nat) (L : List Int) (b gf N : Nat) (f : Nat → Bool) (hb : Hid (w.cell? ⟨b, 0, none⟩ = some (.slice (some ⟨gf, 0, none⟩) N N))) (hM : Hid (Mrw w gf 4 N (fun c => .bool (f c)) N)) (hin : Hid (∀ x ∈ L, ∃ q : Nat, q < N ∧ x = (q : Int))) (hr : Hid (RdN w ao L)) (hl : L.length ≤ 4194304) :
 Calls Tryz.prog 87 #[.slice ao L.length c, .func (.func 128) #[] #[.pointer (some ⟨b, 0, none⟩)]] w fun e w' => ∃ r : Int, e = .returned (.int .i64 r) ∧ decide (0 ≤ r) = L.any (fun x => f x.toNat) ∧ Below w.heap.size w w' := by
 obtain ⟨n, en⟩ : ∃ n, L.length = n := ⟨_, rfl⟩
 rw [en]
 rw [en] at hl
 have HN := hide en
 clear en
 go_enter Tryz.func87, Tryz.ntmps87
 go_wp2_with fail
 go_loopw [8] (fun iv wr => ∃ i : Nat, i ≤ n ∧ iv = .int .i64 (i : Int) ∧ Hid ((∀ x ∈ L.take i, (fun x => f x.toNat) x = false) ∧ Below w.heap.size w wr)) (fun iv _ => n - (intOf iv).toNat)
 case atStart => exact ⟨0, Nat.zero_le _, rfl, hide ⟨fun x hx => by simp at hx, Below.refl _ _⟩⟩
 case round =>
  obtain ⟨i, hi, rfl, HY⟩ := hrel
  by_cases hlt : i < n
  · have l0 : (i : Int) < (n : Int) := by omega
    have i0 : (0 : Int) ≤ (i : Int) := by omega
    have hil : i < L.length := by have := HN.out; omega
    obtain ⟨g, o, ea, ca⟩ := (hr.out.on HY.out.2) i hil
    subst ea
    have HX := hide (List.getElem_mem hil)
    have HT := hide (List.take_succ_eq_append_getElem hil)
    have HG := hide (show L[i] ∈ L from List.getElem_mem hil)
    obtain ⟨x, hx⟩ : ∃ x, L[i] = x := ⟨_, rfl⟩
    rw [hx] at ca HT HG
    clear hx HX
    have TC : Calls Tryz.prog 128 #[.int .i64 x, .pointer (some ⟨b, 0, none⟩)] wr fun e w' => e = .returned (.bool ((fun x => f x.toNat) x)) ∧ Below wr.heap.size wr w' := (by
     obtain ⟨q, hq, e⟩ := hin.out x HG.out
     have t := clos128 wr b gf N q f ((HY.out.2.cell (World.block_lt_of_cell? w _ hb.out)).trans hb.out) (hM.out.below HY.out.2 hM.out.lt) hq
     subst e
     exact t)
    obtain ⟨y, hy⟩ : ∃ y, (fun x => f x.toNat) x = y := ⟨_, rfl⟩
    rw [hy] at TC
    have HP := hide hy
    clear hy
    go_wp2_with fail
    refine TC.mono ?_
    rintro e w2 ⟨rfl, d2⟩
    have HD := hide (HY.out.2.trans (d2.mono HY.out.2.size))
    clear d2 TC
    cases y with
    | true =>
     go_wp2_with fail
     go_ret
     refine ⟨(i : Int), rfl, ?_, HD.out⟩
     rw [decide_eq_true i0, eq_comm, List.any_eq_true]
     exact ⟨x, HG.out, HP.out⟩
    | false =>
     go_wp2_with fail
     go_roundw
     case rel => exact ⟨i + 1, by omega, by go_num, hide ⟨fun z hz => by
      rw [HT.out] at hz
      rcases List.mem_append.1 hz with hz | hz
      · exact HY.out.1 z hz
      · rw [List.mem_singleton.1 hz]; exact HP.out, HD.out⟩⟩
     case measure => simp [intOf]; omega
  · have l0 : ¬ (i : Int) < (n : Int) := by omega
    have e : L.any (fun x => f x.toNat) = false := by
     have hi2 : i = n := by omega
     have t := HY.out.1
     rw [hi2, List.take_of_length_le (by have := HN.out; omega)] at t
     rw [List.any_eq_false]
     intro x hx hc
     have t2 := t x hx
     rw [show (fun x => f x.toNat) x = true from hc] at t2
     cases t2
    have HE := hide e
    clear e
    go_wp2_with fail
    go_ret
    exact ⟨-1, rfl, by rw [HE.out]; decide, HY.out.2⟩
theorem cont128 (w : World) (ao : Option Addr) (c : Nat) (L : List Int) (b gf N : Nat) (f : Nat → Bool) (hb : Hid (w.cell? ⟨b, 0, none⟩ = some (.slice (some ⟨gf, 0, none⟩) N N))) (hM : Hid (Mrw w gf 4 N (fun c => .bool (f c)) N)) (hin : Hid (∀ x ∈ L, ∃ q : Nat, q < N ∧ x = (q : Int))) (hr : Hid (RdN w ao L)) (hl : L.length ≤ 4194304) :
 Calls Tryz.prog 52 #[.slice ao L.length c, .func (.func 128) #[] #[.pointer (some ⟨b, 0, none⟩)]] w fun e w' => e = .returned (.bool (L.any (fun x => f x.toNat))) ∧ Below w.heap.size w w' := by
 have T := idx128 w ao c L b gf N f hb hM hin hr hl
 obtain ⟨y, hy⟩ : ∃ y, L.any (fun x => f x.toNat) = y := ⟨_, rfl⟩
 rw [hy] at T ⊢
 generalize L.length = n at T
 clear hy
 go_enter Tryz.func52, Tryz.ntmps52
 go_wp2_with fail
 refine T.mono ?_
 rintro e w2 ⟨r, rfl, hr2, d2⟩
 have HR := hide (And.intro hr2 d2)
 clear hr2 d2 T
 go_wp2_with fail
 go_ret
 exact ⟨by rw [← HR.out.1]; rfl, HR.out.2⟩
def finB (Fi : List Int) (q : Nat) : Bool := decide ((q : Int) ∈ Fi)
theorem finB_next {Fi : List Int} {i f : Nat} (hi : i < Fi.length) (ef : Fi[i] = (f : Int)) (c : Nat) : finB (Fi.take (i + 1)) c = if c = f then true else finB (Fi.take i) c := by
 unfold finB
 rw [List.take_succ_eq_append_getElem hi, ef]
 by_cases e : c = f
 · subst e
   rw [if_pos rfl]
   exact decide_eq_true (by simp)
 · rw [if_neg e]
   refine decide_eq_decide.2 ?_
   rw [List.mem_append, List.mem_singleton]
   constructor
   · rintro (h | h)
     · exact h
     · exact absurd (Int.ofNat.inj h) e
   · exact .inl
theorem finals_any (w : World) (N : Nat) (mv : Int) (a1 a2 a3 : Option Addr) (c1 c2 c3 n1 n3 : Nat) (Fi : List Int) (hf : Hid (RdN w a2 Fi)) (hin : Hid (∀ x ∈ Fi, ∃ q : Nat, q < N ∧ x = (q : Int))) (hl : Fi.length ≤ 4194304) (hN : N ≤ 8192) :
 Calls Tryz.prog 93 #[.agg #[.int .i64 (N : Int), .int .i64 mv, .slice a1 n1 c1, .slice a2 Fi.length c2, .slice a3 n3 c3]] w fun e w' => ∃ gf, e = .returned (.slice (some ⟨gf, 0, none⟩) N N) ∧ Hid (Mrw w' gf 4 N (fun c => .bool (finB Fi c)) N ∧ w.heap.size ≤ gf) ∧ Below w.heap.size w w' := by
 obtain ⟨n2, e2⟩ : ∃ n, Fi.length = n := ⟨_, rfl⟩
 rw [e2]
 rw [e2] at hl
 have HE := hide e2
 clear e2
 obtain ⟨W0, hW0⟩ : ∃ W0, w.alloc (.cells #[.int .i64 (N : Int), .int .i64 mv, .slice a1 n1 c1, .slice a2 n2 c2, .slice a3 n3 c3] 25) = W0 := ⟨_, rfl⟩
 have HB : Hid (W0.heap[w.heap.size]? = some (.cells #[.int .i64 (N : Int), .int .i64 mv, .slice a1 n1 c1, .slice a2 n2 c2, .slice a3 n3 c3] 25 (0, 0)) ∧ Below w.heap.size w W0) := hide (by rw [← hW0]; exact ⟨World.alloc_heap_new _ _, (Below.refl _ _).alloc (Nat.le_refl _) _⟩)
 have q0 : W0.cell? ⟨w.heap.size, 0, none⟩ = some (.int .i64 (N : Int)) := cell_of HB.out.1 rfl
 obtain ⟨i4, hi4, hz40, hz41, hz42⟩ := info_parts info4
 go_enter Tryz.func93, Tryz.ntmps93
 go_upto_region 2 with (at_make; refine wpList_make_full _ rfl _ _ 77 rfl W0.heap.size 4 i4 (.bool false) 1 Tryz.underlying77 hi4 hz40 hz41 _ _ _ _ N rfl rfl (by go_num) (by go_num) (by rw [hz42]; omega) (by unfold maxLen; omega) (Nat.le_refl _) ?_; intro w6 ho hg)
 have D6 : Below W0.heap.size W0 w6 := (Below.refl _ _).grown hg (Nat.le_refl _) (by intro k hk; cases hk)
 have M6 : Mrw w6 W0.heap.size 4 N (fun c => .bool (finB (Fi.take 0) c)) N := by
  have t := ho
  rw [Nat.mul_one] at t
  exact (mask_made t).2.congr (fun c _ => by simp [finB])
 have H6 := hide (And.intro M6 D6)
 have B1 := blk_on HB.out.1 D6
 have q3 : w6.cell? ⟨w.heap.size, 3, none⟩ = some (.slice a2 n2 c2) := cell_of B1 rfl
 clear ho hg D6 M6 q0 hW0 B1
 go_wp2_with fail
 go_loopw [12] (fun iv wr => ∃ i : Nat, i ≤ n2 ∧ iv = .int .i64 (i : Int) ∧ Hid (Mrw wr W0.heap.size 4 N (fun c => .bool (finB (Fi.take i) c)) N ∧ Below W0.heap.size W0 wr)) (fun iv _ => n2 - (intOf iv).toNat)
 case atStart => exact ⟨0, Nat.zero_le _, rfl, H6⟩
 case round =>
  obtain ⟨i, hi, rfl, HY⟩ := hrel
  clear H6
  by_cases hlt : i < n2
  · have l0 : (i : Int) < (n2 : Int) := by omega
    have i0 : (0 : Int) ≤ (i : Int) := by omega
    have hil : i < Fi.length := by have := HE.out; omega
    obtain ⟨g, o, ea, ca⟩ := (hf.out.on (HB.out.2.trans (HY.out.2.mono HB.out.2.size))) i hil
    subst ea
    obtain ⟨f, hf2, ef⟩ := hin.out _ (List.getElem_mem hil)
    have HN := hide (finB_next hil ef)
    rw [ef] at ca
    have f0 : (0 : Int) ≤ (f : Int) := by omega
    have f1 : (f : Int) < (N : Int) := by omega
    have cu := HY.out.1.at f hf2
    have zu : wr.frozen? ⟨W0.heap.size, f, none⟩ = false := HY.out.1.fz f
    have J : Hid (Mrw (wr.setCell ⟨W0.heap.size, f, none⟩ (.bool true)) W0.heap.size 4 N (fun c => .bool (finB (Fi.take (i + 1)) c)) N ∧ Below W0.heap.size W0 (wr.setCell ⟨W0.heap.size, f, none⟩ (.bool true))) := hide ⟨(HY.out.1.upd f (.bool true)).congr (fun c _ => by rw [HN.out c]; by_cases e : c = f <;> simp [e]), HY.out.2.setCell (Nat.le_refl _) _⟩
    clear HY ef
    go_wp2_with fail
    go_roundw
    case rel => exact ⟨i + 1, by omega, by go_num, J⟩
    case measure => simp [intOf]; omega
  · have l0 : ¬ (i : Int) < (n2 : Int) := by omega
    have J : Hid (Mrw wr W0.heap.size 4 N (fun c => .bool (finB Fi c)) N ∧ Below w.heap.size w wr) := hide (by
     have t := HY.out.1
     rw [List.take_of_length_le (by have := HE.out; omega)] at t
     exact ⟨t, HB.out.2.trans (HY.out.2.mono HB.out.2.size)⟩)
    have hs := HB.out.2.size
    clear HY
    go_wp2_with fail
    go_ret
    exact ⟨_, rfl, hide ⟨J.out.1, hs⟩, J.out.2⟩
def emptB (St Fi : List Int) : Bool := St.any fun x => finB Fi x.toNat
theorem takesEmpty_any (w : World) (N : Nat) (mv : Int) (a1 a2 a3 : Option Addr) (c1 c2 c3 n3 : Nat) (St Fi : List Int) (hs : Hid (RdN w a1 St)) (hf : Hid (RdN w a2 Fi)) (hins : Hid (∀ x ∈ St, ∃ q : Nat, q < N ∧ x = (q : Int))) (hinf : Hid (∀ x ∈ Fi, ∃ q : Nat, q < N ∧ x = (q : Int))) (h1 : St.length ≤ 4194304) (hl : Fi.length ≤ 4194304) (hN : N ≤ 8192) :
 Calls Tryz.prog 88 #[.agg #[.int .i64 (N : Int), .int .i64 mv, .slice a1 St.length c1, .slice a2 Fi.length c2, .slice a3 n3 c3]] w fun e w' => e = .returned (.bool (emptB St Fi)) ∧ Below w.heap.size w w' := by
 obtain ⟨W0, hW0⟩ : ∃ W0, w.alloc (.cells #[.int .i64 (N : Int), .int .i64 mv, .slice a1 St.length c1, .slice a2 Fi.length c2, .slice a3 n3 c3] 25) = W0 := ⟨_, rfl⟩
 have HB : Hid (W0.heap[w.heap.size]? = some (.cells #[.int .i64 (N : Int), .int .i64 mv, .slice a1 St.length c1, .slice a2 Fi.length c2, .slice a3 n3 c3] 25 (0, 0)) ∧ Below w.heap.size w W0) := hide (by rw [← hW0]; exact ⟨World.alloc_heap_new _ _, (Below.refl _ _).alloc (Nat.le_refl _) _⟩)
 obtain ⟨y, hy⟩ : ∃ y, emptB St Fi = y := ⟨_, rfl⟩
 rw [hy]
 have HYY := hide hy
 clear hy
 have T93 := finals_any W0 N mv a1 a2 a3 c1 c2 c3 St.length n3 Fi (hide (hf.out.on HB.out.2)) hinf hl hN
 obtain ⟨q0, q1, q2, q3, q4⟩ := zd5 HB.out.1 rfl rfl rfl rfl rfl
 go_enter Tryz.func88, Tryz.ntmps88
 go_upto_region 2 with (go_at_call 93; refine T93.mono ?_; rintro e w1 ⟨gf, rfl, HM, d1⟩)
 obtain ⟨b, hb⟩ : ∃ k, w1.heap.size = k := ⟨_, rfl⟩
 rw [hb]
 obtain ⟨w2, hw2⟩ : ∃ W, w1.alloc (.cells #[.slice (some ⟨gf, 0, none⟩) N N] 77) = W := ⟨_, rfl⟩
 rw [hw2]
 have H2 : Hid (w2.cell? ⟨b, 0, none⟩ = some (.slice (some ⟨gf, 0, none⟩) N N) ∧ Mrw w2 gf 4 N (fun c => .bool (finB Fi c)) N ∧ w2.heap[w.heap.size]? = some (.cells #[.int .i64 (N : Int), .int .i64 mv, .slice a1 St.length c1, .slice a2 Fi.length c2, .slice a3 n3 c3] 25 (0, 0)) ∧ Below w.heap.size w w2) := hide (by
  have d : Below w1.heap.size w1 w2 := by rw [← hw2]; exact (Below.refl _ _).alloc (Nat.le_refl _) _
  have dd := d1.trans (d.mono d1.size)
  exact ⟨by rw [← hw2, ← hb]; exact cell_of (World.alloc_heap_new _ _) rfl, HM.out.1.below d HM.out.1.lt, blk_on HB.out.1 dd, HB.out.2.trans (dd.mono HB.out.2.size)⟩)
 clear T93 d1 HM hw2 hb q0 q1 q2 q3 q4 hW0
 have T52 := cont128 w2 a1 c1 St b gf N (finB Fi) (hide H2.out.1) (hide H2.out.2.1) hins (hide (hs.out.on H2.out.2.2.2)) h1
 have q2 : w2.cell? ⟨w.heap.size, 2, none⟩ = some (.slice a1 St.length c1) := cell_of H2.out.2.2.1 rfl
 rw [show (St.any fun x => finB Fi x.toNat) = emptB St Fi from rfl, HYY.out] at T52
 go_wp2_with fail
 refine T52.mono ?_
 rintro e w3 ⟨rfl, d3⟩
 have HZ := hide (H2.out.2.2.2.trans (d3.mono H2.out.2.2.2.size))
 clear d3 T52 q2
 go_wp2_with fail
 go_ret
 exact ⟨rfl, HZ.out⟩
theorem box4 (w : World) (o1 o2 o3 o4 : Obj) : Below w.heap.size w ((((w.alloc o1).alloc o2).alloc o3).alloc o4) ∧ ((((w.alloc o1).alloc o2).alloc o3).alloc o4).heap[w.heap.size]? = some o1 ∧ ((((w.alloc o1).alloc o2).alloc o3).alloc o4).heap[w.heap.size + 1]? = some o2 ∧ ((((w.alloc o1).alloc o2).alloc o3).alloc o4).heap[w.heap.size + 1 + 1]? = some o3 ∧ ((((w.alloc o1).alloc o2).alloc o3).alloc o4).heap[w.heap.size + 1 + 1 + 1]? = some o4 := by
 refine ⟨((((Below.refl _ _).alloc (Nat.le_refl _) _).alloc (by simp) _).alloc (by simp <;> omega) _).alloc (by simp <;> omega) _, ?_, ?_, ?_, ?_⟩
 · exact (Below.heap_alloc _ _ _ (by simp <;> omega)).trans ((Below.heap_alloc _ _ _ (by simp <;> omega)).trans ((Below.heap_alloc _ _ _ (by simp)).trans (World.alloc_heap_new _ _)))
 · have := World.alloc_heap_new (w.alloc o1) o2
   rw [World.size_alloc] at this
   exact (Below.heap_alloc _ _ _ (by simp <;> omega)).trans ((Below.heap_alloc _ _ _ (by simp)).trans this)
 · have := World.alloc_heap_new ((w.alloc o1).alloc o2) o3
   rw [World.size_alloc, World.size_alloc] at this
   exact (Below.heap_alloc _ _ _ (by simp)).trans this
 · have := World.alloc_heap_new (((w.alloc o1).alloc o2).alloc o3) o4
   rw [World.size_alloc, World.size_alloc, World.size_alloc] at this
   exact this
end Go.Proofs.YtchoopnjckcohaaGreatDoor
namespace Go.Proofs.YtchoopnjckcohaaGreatDoor
open Go.RowKit
def SeqP (n gf : Nat) (lb : Array Value) (E : List Value) (Kp : World → World → Prop) (w : World) : Prop :=
 ∀ (l : Nat) (J : Nat → World → Prop) (W : World), Below w.heap.size w W → (∀ k A A', J k A → Below A.heap.size A A' → J k A') →
  (∀ (k : Nat) (W1 : World) (hk : k < E.length), J k W1 → YieldAt Fence.wide (n - 1) Tryz.prog l #[E[k]] W1 fun e W' => e = .returned (.bool true) ∧ J (k + 1) W' ∧ Kp W1 W') →
  J 0 W → CallsIn Fence.wide n Tryz.prog gf (#[.func (.yield l) #[] #[]] ++ lb) W fun e W' => (∃ v, e = .returned v) ∧ J E.length W'
def goesOn (L : Nat) (Kp : World → World → Prop) (I : Nat → World → Prop) (k : Nat) (W : World) : Exit → Act → World → Prop
 | .normal, _, W' => (W'.heap[L]? = W.heap[L]? ∧ W'.heap[L + 1]? = W.heap[L + 1]?) ∧ Kp W W' ∧ I k W'
 | _, _, _ => False
theorem range_in_order {n : Nat} {g : Operand} {t : Tmp} {assign body : Code} {Q : Exit → Act → World → Prop} {a : Act} {w w0 : World} {gf : Nat} {lb : Array Value} {E : List Value} {Kp : World → World → Prop}
 (h1 : 1 ≤ n) (hg : a.eval g = .func (.func gf) #[] lb) (eg : ∀ args w, (callFunc gf args).run Tryz.prog w = .ok (.enter gf args) w) (hseq : SeqP (n - 1) gf lb E Kp w0)
 (hKt : ∀ {A B C : World}, Kp A B → Kp B C → Kp A C) (hKb : ∀ (W : World) (r r' : Loop), W.heap[w.heap.size + 1]? = some (.loop r) → Kp W (W.putObj (w.heap.size + 1) (.loop r'))) (hb0 : Below w0.heap.size w0 w)
 (I : Nat → World → Prop) (hI : ∀ k A A', I k A → Below A.heap.size A A' → I k A') (hIp : ∀ k (A : World) (r r' : Loop), I k A → A.heap[w.heap.size + 1]? = some (.loop r) → I k (A.putObj (w.heap.size + 1) (.loop r'))) (h0 : I 0 w) (a₁ : Value → Act)
 (hassign : ∀ (l : Nat) (x : Value) (W : World) (K : Act → World → Prop), K (a₁ x) W → assign.wpIn (Fence.wide.inRound l) (n - 1 - 1) Tryz.prog (Exit.then K (fun _ _ _ => False)) { tmps := (#[t].zip #[x]).foldl (fun t (p, v) => t.setIfInBounds p v) a.tmps, defers := [] } W)
 (hbody : ∀ (l k : Nat) (W : World) (hk : k < E.length), I k W → W.heap[w.heap.size]? = some (.deferred (some [])) → (∃ r, W.heap[w.heap.size + 1]? = some (.loop r)) → body.wpIn (Fence.wide.inRound l) (n - 1 - 1) Tryz.prog (goesOn w.heap.size Kp I (k + 1) W) (a₁ E[k]) W)
 (hdone : ∀ (D : Nat) (W : World), w.heap.size ≤ D → I E.length W → W.heap[D]? = some (.deferred (some [])) → Q .normal { a with defers := { target := .collected D, args := #[] } :: a.defers } W) :
 (Code.rangeFunc g #[t] assign body).wpIn Fence.wide n Tryz.prog Q a w := by
 refine wpIn_rangeFunc fun fn hfn => ?_
 obtain ⟨rec, hrec⟩ : ∃ rec : LoopState → Option Code → Loop, rec = fun st pe => { state := st, pending := pe, fn, tmps := a.tmps, params := #[t], assign, body, defers := w.heap.size } := ⟨_, rfl⟩
 obtain ⟨Wl, hWl⟩ : ∃ Wl, (w.alloc (.deferred (some []))).alloc (.loop (rec .ready none)) = Wl := ⟨_, rfl⟩
 have hLl : Wl.heap[w.heap.size + 1]? = some (.loop (rec .ready none)) := by
  rw [← hWl]; have := World.alloc_heap_new (w.alloc (.deferred (some []))) (.loop (rec .ready none)); rwa [World.size_alloc] at this
 have hDl : Wl.heap[w.heap.size]? = some (.deferred (some [])) := by
  rw [← hWl]; exact (Below.heap_alloc _ _ _ (by simp)).trans (World.alloc_heap_new w _)
 have hIl : I 0 Wl := by rw [← hWl]; exact hI _ _ _ (hI _ _ _ h0 ((Below.refl _ _).alloc (Nat.le_refl _) _)) ((Below.refl _ _).alloc (Nat.le_refl _) _)
 have hzl : Wl.heap.size = w.heap.size + 1 + 1 := by rw [← hWl]; simp
 have hbl : Below w0.heap.size w0 Wl := by
  rw [← hWl]; exact hb0.trans ((((Below.refl _ w).alloc (Nat.le_refl _) _).alloc (by simp) _).mono hb0.size)
 refine ⟨w.heap.size + 1, [{ target := .collected w.heap.size, args := #[] }], Wl, { target := .fn (.func gf) lb, args := #[.func (.yield (w.heap.size + 1)) #[] #[]] }, Wl, gf,
  #[.func (.yield (w.heap.size + 1)) #[] #[]] ++ lb, Wl, by rw [← hWl, hrec]; exact run_enterLoop_outer _ _ _ _ _, by simp only [resolve, hg]; simp [go_sem], fun f' hf' => trivial, by simp [invoke, go_sem, eg], fun _ => h1, ?_⟩
 refine (hseq (w.heap.size + 1) (fun k W => I k W ∧ W.heap[w.heap.size + 1]? = some (.loop (rec .ready none)) ∧ W.heap[w.heap.size]? = some (.deferred (some []))) Wl hbl ?_ ?_ ⟨hIl, hLl, hDl⟩).mono ?_
 · rintro k A A' ⟨hi, hl, hd⟩ hb
   exact ⟨hI _ _ _ hi hb, (hb.block _ (Array.getElem?_eq_some_iff.1 hl).1).trans hl, (hb.block _ (Array.getElem?_eq_some_iff.1 hd).1).trans hd⟩
 · rintro k W hk ⟨hi, hl, hd⟩
   have hlt : w.heap.size + 1 < W.heap.size := (Array.getElem?_eq_some_iff.1 hl).1
   have hy := run_yield (P := Tryz.prog) (args := #[E[k]]) hl (by rw [hrec]; rfl)
   rw [hrec] at hy
   refine ⟨fn, _, assign, body, hy, roundIn_of_wpIn hfn (hassign _ E[k] W _ ⟨_, run_beginRound hl (by rw [hrec]), ?_⟩)⟩
   obtain ⟨busy, hbusy⟩ : ∃ busy : Loop, busy = { rec .ready none with state := .busy } := ⟨_, rfl⟩
   have hl2 : (W.putObj (w.heap.size + 1) (.loop busy)).heap[w.heap.size + 1]? = some (.loop busy) := World.putObj_heap_same hlt
   have hd2 : (W.putObj (w.heap.size + 1) (.loop busy)).heap[w.heap.size]? = some (.deferred (some [])) := (World.putObj_heap_other (by omega)).trans hd
   have hkp : Kp W (W.putObj (w.heap.size + 1) (.loop busy)) := hKb _ _ _ hl
   rw [← hbusy]
   refine wpIn_mono (hbody _ k _ hk (hIp _ _ _ _ hi hl) hd2 ⟨_, hl2⟩) ?_
   rintro e a3 W3 hp
   cases e with
   | normal =>
    obtain ⟨hk3, hkp3, hi3⟩ := hp
    have hl3 := hk3.2.trans hl2
    have hr3 := run_endRound (P := Tryz.prog) none hl3
    rw [hbusy, hrec] at hr3
    refine ⟨_, _, hr3, rfl, ⟨hIp _ _ _ _ hi3 hl3, ?_, (World.putObj_heap_other (by omega)).trans (hk3.1.trans hd2)⟩, hKt (hKt hkp hkp3) (hKb _ _ _ hl3)⟩
    rw [hrec]
    exact World.putObj_heap_same (Array.getElem?_eq_some_iff.1 hl3).1
   | ret => exact hp.elim
   | exit id => exact hp.elim
   | goto t => exact hp.elim
   | panic ch => exact hp.elim
   | outgrown => exact hp.elim
 · rintro e W2 ⟨⟨v, rfl⟩, hi, hl, hd⟩
   exact ⟨none, _, by have := run_endLoop (P := Tryz.prog) hl (by rw [hrec]; simp); rw [hrec] at this; exact this, hdone _ _ (Nat.le_refl _) (hIp _ _ _ _ hi hl) ((World.putObj_heap_other (by omega)).trans hd)⟩
end Go.Proofs.YtchoopnjckcohaaGreatDoor
namespace Go.Proofs.YtchoopnjckcohaaGreatDoor
open Go.RowKit Go.Shelf
attribute [local go_sem] Oper.semAt_some
structure KpU (B : Nat) (W W' : World) : Prop where
 size : W.heap.size ≤ W'.heap.size
 tab : W'.heap[0]? = W.heap[0]?
 words : ∀ (b : Nat) (cs : Array Value) (fr : Nat × Nat), B ≤ b → W.heap[b]? = some (.cells cs 143 fr) → W'.heap[b]? = some (.cells cs 143 fr)
theorem KpU.refl (B : Nat) (W : World) : KpU B W W := ⟨Nat.le_refl _, rfl, fun _ _ _ _ h => h⟩
theorem KpU.trans {B : Nat} {W1 W2 W3 : World} (h : KpU B W1 W2) (k : KpU B W2 W3) : KpU B W1 W3 :=
 ⟨Nat.le_trans h.size k.size, k.tab.trans h.tab, fun b cs fr hb hc => k.words b cs fr hb (h.words b cs fr hb hc)⟩
theorem TabAt.kp {B : Nat} {W W' : World} (h : TabAt W) (k : KpU B W W') : TabAt W' := fun j hj => (World.cell?_of_block (a := ⟨0, j, none⟩) k.tab).trans (h j hj)
theorem elems_pre (X m : Nat) : ∀ k, k ≤ m → elems (64 * k) X <+: elems (64 * m) X := by
 intro k hk
 induction m with
 | zero => obtain rfl : k = 0 := by omega
           exact List.prefix_refl _
 | succ m ih =>
  by_cases h : k = m + 1
  · subst h; exact List.prefix_refl _
  · rw [elems_succ]; exact (ih (by omega)).trans (List.prefix_append _ _)
theorem round_any {m : Nat} (m' : Nat) {l : Nat} {f : FuncId} {tmps : Array Value} {assign body : Code} {w : World} {R : Ending → World → Prop}
 (h : RoundIn Fence.wide m Tryz.prog l f tmps assign body w R) : RoundIn Fence.wide m' Tryz.prog l f tmps assign body w R := ⟨h.1, fun c cs _ => h.2 c cs (room_wide _)⟩
theorem pre_at {E p s : List Nat} {x : Nat} (h : p ++ [x] ++ s = E) : ∃ hc : p.length < E.length, E[p.length] = x := by
 subst h
 exact ⟨by simp, by simp⟩
theorem walk_in (n l B g cap m X : Nat) (E : List Nat) (hE : Hid (elems (64 * m) X = E)) (J : Nat → World → Prop)
 (hY : ∀ (k c : Nat) (W1 : World) (hc : c < E.length), J c W1 → YieldAt Fence.wide k Tryz.prog l #[.int .i64 (E[c] : Int)] W1 fun e W' => e = .returned (.bool true) ∧ J (c + 1) W' ∧ KpU B W1 W')
 (W : World) (hT : TabAt W) (hblk : ∃ cs fr, W.heap[g]? = some (.cells cs 143 fr)) (hword : ∀ k, k < m → W.cell? ⟨g, k, none⟩ = some (.int .u64 (wordAt X k))) (hBg : B ≤ g) (hm : m ≤ 128) (h0 : J 0 W) :
 CallsIn Fence.wide n Tryz.prog 117 #[.slice (some ⟨g, 0, none⟩) m cap, .func (.yield l) #[] #[]] W fun e W' => (∃ v, e = .returned v) ∧ J E.length W' := by
 have hwk : ∀ wr k, KpU B W wr → k < m → wr.cell? ⟨g, k, none⟩ = some (.int .u64 (wordAt X k)) := by
  intro wr k hk hlt
  obtain ⟨cs, fr, hc⟩ := hblk
  exact (World.cell?_of_block (a := ⟨g, k, none⟩) ((hk.words g cs fr hBg hc).trans hc.symm)).trans (hword k hlt)
 have HW := hide hwk
 clear hwk hword hblk
 refine callsIn_of_wp Tryz.func117 rfl trivial ?_ rfl
 simp only [Tryz.ntmps117, List.size_toArray, List.length_cons, List.length_nil, Nat.reduceAdd, Nat.reduceSub, Array.replicate_succ, Array.replicate_zero, List.push_toArray, List.append_toArray, List.nil_append, List.cons_append]
 gi_wp2
 gi_loopw [8] (fun i wr => ∃ (k : Nat), k ≤ m ∧ i = .int .i64 k ∧ KpU B W wr ∧ J (elems (64 * k) X).length wr) (fun i _ => m - (intOf i).toNat)
 case atStart => exact ⟨0, Nat.zero_le _, rfl, KpU.refl _ _, by simpa [elems] using h0⟩
 case round =>
  obtain ⟨k, hk, rfl, hkp, hJ⟩ := hrel
  by_cases hlt : k < m
  · have hcw : wr.cell? ⟨g, k, none⟩ = some (.int .u64 (wordAt X k)) := HW.out wr k hkp hlt
    have hwl := wordAt_lt X k
    gi_wp2
    gi_loopw [5] (fun yy wi => ∃ (y : Nat) (pre : List Nat), yy = .int .u64 y ∧ y < 18446744073709551616 ∧ KpU B W wi ∧ J pre.length wi ∧ pre ++ (elems 64 y).map (64 * k + ·) = elems (64 * (k + 1)) X) (fun yy _ => (intOf yy).toNat)
    case atStart => exact ⟨_, elems (64 * k) X, rfl, hwl, hkp, hJ, (elems_succ X k).symm⟩
    case round =>
     clear hkp hJ hcw
     obtain ⟨y, pre, rfl, hy, hkp, hJ, hacc⟩ := hrel
     have HA := hide hacc
     clear hacc
     by_cases h0 : y = 0
     · have hyb : ((y : Int) != 0) = false := by simp [h0]
       have HY := hide h0
       clear h0
       gi_wp2
       go_roundw
       case rel =>
        have e := HA.out
        rw [HY.out, elems_zero] at e
        simp at e
        rw [e] at hJ
        exact ⟨k + 1, by omega, by go_num, hkp, hJ⟩
       case measure => simp [intOf]; omega
     · have hyb : ((y : Int) != 0) = true := by simp [h0]
       have hT2 : TabAt wr := hT.kp hkp
       have hc64 : Lib.ctz 64 y < 64 := by obtain ⟨_, _, h⟩ := ctz_spec y h0 hy; exact h
       have hstep : Hid (pre ++ [64 * k + Lib.ctz 64 y] ++ (elems 64 (y &&& (y - 1))).map (64 * k + ·) = elems (64 * (k + 1)) X) := by
        rw [← HA.out, elems_step y h0 hy]
        show _ = _
        simp
       obtain ⟨hc, hv⟩ : ∃ hc : pre.length < E.length, E[pre.length] = 64 * k + Lib.ctz 64 y := by
        obtain ⟨t, ht⟩ := elems_pre X m (k + 1) (by omega)
        rw [hE.out, ← hstep.out] at ht
        exact pre_at (s := (elems 64 (y &&& (y - 1))).map (64 * k + ·) ++ t) (by rw [← ht]; simp)
       have hyp := and_pred_u64 y h0 hy
       have hlt2 := and_pred_lt y h0
       obtain ⟨fn, tmps, assign, body, hyy, hR⟩ := hY (n - 1) pre.length wr hc hJ
       rw [hv] at hyy
       clear hv
       rw [show ((64 * k + Lib.ctz 64 y : Nat) : Int) = (k : Int) * 64 + (Lib.ctz 64 y : Int) by omega] at hyy
       gi_wp2
       refine ⟨trivial, (fun h => by cases h), (callsIn_wide.2 (tz_any y hy h0 _ hT2)).mono ?_⟩
       rintro e w' ⟨rfl, hw⟩
       obtain rfl := hw.symm
       clear hw
       gi_wp2
       refine ⟨(fun h => by cases h), hR.mono ?_⟩
       rintro e W3 ⟨rfl, hJ3, hk3⟩
       gi_wp2
       go_roundw
       case rel => exact ⟨y &&& (y - 1), pre ++ [64 * k + Lib.ctz 64 y], rfl, by omega, hkp.trans hk3, by simpa using hJ3, by simpa using hstep.out⟩
       case measure => simp [intOf]; omega
  · gi_wp2
    go_end0
    have hke : k = m := by omega
    subst hke
    rw [hE.out] at hJ
    exact ⟨⟨_, rfl⟩, hJ⟩
theorem own_words {W : World} {B g cap n X : Nat} (h : W.ownsRow B 143 1 (.slice (some ⟨g, 0, none⟩) (nw n) cap) (nw n) (wordVals n X)) :
 B ≤ g ∧ (∃ cs fr, W.heap[g]? = some (.cells cs 143 fr)) ∧ ∀ k, k < nw n → W.cell? ⟨g, k, none⟩ = some (.int .u64 (wordAt X k)) := by
 refine ⟨(h.lt g rfl).1, ?_, fun k hk => ?_⟩
 · rcases h.2 with ⟨h1, _⟩ | ⟨g', cap', cur, hv, _, hg, _⟩
   · cases h1
   · cases hv
     exact ⟨_, _, hg⟩
 · have := h.cells (g := g) rfl k _ (wordVals_get n X k hk)
   rw [Addr.add_lit] at this
   simpa using this
theorem info99 : (Tryz.prog.info? 143).map (fun i => (i.zero, i.size, i.bytes)) = some (some (.int .u64 0), 1, 8) := by kernel_rfl
theorem words_one (n X : Nat) : ∀ u ∈ wordVals n X, u.oneCell' = true := by
 intro u hu
 obtain ⟨k, _, rfl⟩ := List.mem_map.1 hu
 rfl
theorem new_cells {w : World} {g : Nat} {vs : List Value} (hg : g < w.heap.size) (h : ∀ (j : Nat) (u : Value), vs[j]? = some u → w.cell? ((⟨g, 0, none⟩ : Addr).add j) = some u) (o : Obj) :
 ∀ (j : Nat) (u : Value), vs[j]? = some u → (w.alloc o).cell? ((⟨g, 0, none⟩ : Addr).add j) = some u := fun j u hu => by
 have := h j u hu
 rw [Addr.add_lit] at this ⊢
 rw [World.cell?_of_block (w := w) (Below.heap_alloc w o g hg)]
 exact this
theorem clone_any (g cap n X : Nat) (w : World) (hn : n ≤ 8192) (hown : w.ownsRow 0 143 1 (.slice (some ⟨g, 0, none⟩) (nw n) cap) (nw n) (wordVals n X)) :
 Calls Tryz.prog 164 #[.slice (some ⟨g, 0, none⟩) (nw n) cap] w fun e w' => ∃ g' cap', e = .returned (.slice (some ⟨g', 0, none⟩) (nw n) cap') ∧ w'.ownsRow w.heap.size 143 1 (.slice (some ⟨g', 0, none⟩) (nw n) cap') (nw n) (wordVals n X) ∧ Below w.heap.size w w' := by
 obtain ⟨i0, hi, hz0, hz1, hz2⟩ := info_parts info99
 have hnw := nw_le hn
 have hglt := (hown.lt g rfl).2
 have hcells := hown.cells (g := g) rfl
 have heq : ∀ W : World, (binOp .eql 118 (.slice (some ⟨g, 0, none⟩) (nw n) cap) (.slice none 0 0)).run Tryz.prog W = .ok (.bool false) W := fun W => by
  have := Lib.run_eql_slice_nil (P := Tryz.prog) W 118 143 (some ⟨g, 0, none⟩) (nw n) cap 0 0 Tryz.underlying118
  simpa using this
 have hlen := wordVals_length n X
 have HL := hide hlen
 have HC := hide hcells
 clear hlen hcells
 go_enter Tryz.func164, Tryz.ntmps164
 go_wp2_with (at_builtin; refine wpList_append_own _ rfl _ _ _ rfl w.heap.size 143 i0 _ 1 8 Tryz.underlying118 hi hz0 hz1 hz2 rfl (by omega) (.slice (some ⟨w.heap.size, 0, none⟩) 0 0) 0 [] rfl (World.ownsRow_made w #[] 0 (Nat.le_refl _) (Nat.zero_le _) rfl) ⟨g, 0, none⟩ (nw n) cap (wordVals n X) rfl (by rw [HL.out, Nat.mul_one]) (new_cells hglt HC.out _) (words_one n X) (by unfold maxLen; omega) (by omega) (by simp) ?_)
 intro v' w1 ho hgr hnil
 have hv : ∃ g' cap', v' = .slice (some ⟨g', 0, none⟩) (nw n) cap' := by
  rcases ho.2 with ⟨hv, _⟩ | ⟨g', cap', cur, hv, _⟩
  · exact absurd hv hnil
  · exact ⟨g', cap', hv⟩
 obtain ⟨g', cap', rfl⟩ := hv
 have hb : Below w.heap.size w w1 := ((Below.refl _ _).alloc (Nat.le_refl _) _).grown hgr (by simp) (by intro k hk; simp [Value.ownBlock] at hk; omega)
 clear hgr hnil HC hown heq
 go_wp2
 go_ret
 exact ⟨g', cap', rfl, ho, hb⟩
theorem all_any (p : Option Addr) (w : World) :
 Calls Tryz.prog 151 #[.pointer p] w fun e w' => e = .returned (.func (.func 163) #[] #[.pointer (some ⟨w.heap.size, 0, none⟩)]) ∧ w' = w.alloc (.cells #[.pointer p] 81) := by
 go_enter Tryz.func151, Tryz.ntmps151
 go_wp2
 go_ret
 exact ⟨rfl, rfl⟩
theorem all_seq (n Bs b g cap m X : Nat) (w : World) (hbx : Boxed w Bs 81 (.pointer (some ⟨b, 0, none⟩))) (hs : IsSet w b g cap m X) (hT : TabAt w) :
 SeqP n 163 #[.pointer (some ⟨Bs, 0, none⟩)] (intV (elems m X)) (KpU w.heap.size) w := by
 intro l J W hW hJ hY h0
 have hpos : 0 < w.heap.size := Nat.lt_of_le_of_lt (Nat.zero_le _) hs.blt
 have hs1 := hs.below hW
 have hT1 := hT.below hW hpos
 have hb1 : Boxed W Bs 81 (.pointer (some ⟨b, 0, none⟩)) := (hW.block Bs hbx.lt).trans hbx
 have hc0 := hb1.cell
 have hc1 := hs1.c1
 have hn := hs.hn
 have hsz := hW.size
 have hfull := elems_full m (64 * nw m) X hs.hX (by unfold nw; omega)
 have HF : Hid (elems (64 * nw m) X = elems m X) := hfull
 have HO := hide hs1.own
 have HJ := hide hJ
 have HY := hide hY
 clear hfull hs1 hs hbx hW hb1 hJ hY
 refine callsIn_of_wp Tryz.func163 rfl trivial ?_ rfl
 simp only [Tryz.ntmps163, List.size_toArray, List.length_cons, List.length_nil, Nat.reduceAdd, Nat.reduceSub, Array.replicate_succ, Array.replicate_zero, List.push_toArray, List.append_toArray, List.nil_append, List.cons_append]
 gi_wp2
 refine ⟨trivial, (fun h => by cases h), (callsIn_wide.2 (clone_any g cap m X _ hn HO.out)).mono ?_⟩
 rintro e W2 ⟨g', cap', rfl, ho, hb2⟩
 obtain ⟨hg1, hblk, hword⟩ := own_words ho
 have hT2 := hT1.below hb2 (by omega)
 have hJ2 : J 0 W2 := HJ.out 0 W W2 h0 hb2
 clear ho hc0 hc1 HO
 gi_wp2
 refine ⟨trivial, (fun h => by cases h), (walk_in _ l w.heap.size g' cap' (nw m) X (elems m X) HF J (fun k c W1 hc hj => ?_) W2 hT2 hblk hword (by omega) (nw_le hn) hJ2).mono ?_⟩
 · obtain ⟨fn, tmps, assign, body, hy, hR⟩ := HY.out c W1 (by simpa [intV] using hc) hj
   have hv : (intV (elems m X))[c]'(by simpa [intV] using hc) = .int .i64 ((elems m X)[c] : Int) := by simp [intV]
   rw [hv] at hy
   exact ⟨fn, tmps, assign, body, hy, round_any k hR⟩
 · rintro e W3 ⟨⟨v, rfl⟩, hr⟩
   gi_wp2
   go_end0
   exact ⟨⟨_, rfl⟩, by simpa [intV] using hr⟩
end Go.Proofs.YtchoopnjckcohaaGreatDoor
