import Derived.Test.YtgifamdoolcemaaDoorCw
import Derived.Deep.RegionWith
namespace Go.Proofs.YtgifamdoolcemaaDoor
open Go.RowKit Go.Maps

/-- How far a text goes. -/
def endF (s : ByteArray) : Nat × Nat := (goF (1, 0) (bts s)).1
def lenF (s : ByteArray) : Nat := (goF (1, 0) (bts s)).2
def errF (s : ByteArray) : Nat := if lenF s < s.size ∨ isF (endF s) = false then 30 else 0
theorem end_ok (s : ByteArray) : okS (endF s) = true := goF_ok (by decide) _
theorem len_le (s : ByteArray) : lenF s ≤ s.size := by
  have := goF_le (1, 0) (bts s)
  rw [bts_len] at this
  exact this

set_option maxRecDepth 100000 in
set_option maxHeartbeats 1000000 in
theorem check_any (s : ByteArray) (w : World) (hT : RowsAt w) (hw0 : 0 < w.heap.size) (hsz : s.size ≤ 4194304) :
    Calls Tryd.prog 8 #[.string s] w fun e w' => e = .returned (.tuple #[.int .i64 (lenF s : Nat), .int .i64 (errF s : Nat)]) ∧ Below w.heap.size w w' := by
  have hwk := walk_any s w hT hw0 hsz
  have HT := hide hT
  have HE : Hid (errF s = if lenF s < s.size ∨ isF (endF s) = false then 30 else 0) := hide rfl
  have hok := end_ok s
  have hle := len_le s
  have e1 : (goF (1, 0) (bts s)).1 = endF s := rfl
  have e2 : (goF (1, 0) (bts s)).2 = lenF s := rfl
  rw [e1, e2] at hwk
  clear e1 e2 hT
  generalize endF s = q at *
  generalize lenF s = n at *
  have hfile := fun W h1 h2 => isF_any q W h1 h2 hok
  generalize isF q = f at *
  obtain ⟨p, r⟩ := q
  unfold spV at hwk hfile
  simp only at hwk hfile
  go_enter Tryd.func8, Tryd.ntmps8
  go_wp2_with fail
  refine hwk.mono ?_
  rintro e w1 ⟨rfl, d⟩
  have HD := hide d
  have H1 := hide (Nat.lt_of_lt_of_le hw0 d.size)
  clear hwk d
  by_cases hlt : n < s.size
  · have i1 : (n : Int) < (s.size : Int) := by omega
    have i1d : decide ((n : Int) < (s.size : Int)) = true := decide_eq_true i1
    have HL := hide hlt
    clear hlt
    go_wp2
    go_ret2
    exact ⟨by rw [HE.out, if_pos (.inl HL.out)]; rfl, HD.out.alloc HD.out.size _⟩
  · have i1 : ¬ (n : Int) < (s.size : Int) := by omega
    have HL := hide hlt
    clear hlt
    go_wp2_with fail
    refine (hfile _ (HT.out.below (HD.out.alloc HD.out.size _) hw0) (by simp)).mono ?_
    rintro e w2 ⟨rfl, d2⟩
    have HD2 := hide ((HD.out.alloc HD.out.size _).trans (d2.mono (Nat.le_trans HD.out.size (by simp))))
    clear d2 hfile
    cases f
    · go_wp2
      go_ret2
      exact ⟨by rw [HE.out, if_pos (by simp)]; rfl, HD2.out⟩
    · go_wp2
      go_ret2
      exact ⟨by rw [HE.out, if_neg (by have := HL.out; simp; omega)]; rfl, HD2.out⟩

/-- What Complete answers. -/
def cmpB (s : ByteArray) : ByteArray := if lenF s < s.size then ByteArray.empty else strB (compF (endF s))
def cerF (s : ByteArray) : Nat := if lenF s < s.size then 30 else 0

set_option maxRecDepth 100000 in
set_option maxHeartbeats 1000000 in
theorem complete_any (s : ByteArray) (w : World) (hT : RowsAt w) (hw0 : 0 < w.heap.size) (hsz : s.size ≤ 4194304) :
    Calls Tryd.prog 9 #[.string s] w fun e w' => e = .returned (.tuple #[.string (cmpB s), .int .i64 (cerF s : Nat)]) ∧ Below w.heap.size w w' := by
  have hwk := walk_any s w hT hw0 hsz
  have HT := hide hT
  have HE : Hid (cmpB s = (if lenF s < s.size then ByteArray.empty else strB (compF (endF s))) ∧ cerF s = if lenF s < s.size then 30 else 0) := hide ⟨rfl, rfl⟩
  have hok := end_ok s
  have e1 : (goF (1, 0) (bts s)).1 = endF s := rfl
  have e2 : (goF (1, 0) (bts s)).2 = lenF s := rfl
  have hle := len_le s
  rw [e1, e2] at hwk
  clear e1 e2 hT
  generalize endF s = q at *
  generalize lenF s = n at *
  have hcp := fun W h1 h2 => completion_any q W h1 h2 hok
  generalize compF q = f at *
  obtain ⟨p, r⟩ := q
  unfold spV at hwk hcp
  simp only at hwk hcp
  go_enter Tryd.func9, Tryd.ntmps9
  go_wp2_with fail
  refine hwk.mono ?_
  rintro e w1 ⟨rfl, d⟩
  have HD := hide d
  clear hwk d
  by_cases hlt : n < s.size
  · have i1 : (n : Int) < (s.size : Int) := by omega
    have HL := hide hlt
    clear hlt
    go_wp2
    go_ret2
    exact ⟨by rw [HE.out.1, HE.out.2, if_pos HL.out, if_pos HL.out]; rfl, HD.out.alloc HD.out.size _⟩
  · have i1 : ¬ (n : Int) < (s.size : Int) := by omega
    have HL := hide hlt
    clear hlt
    go_wp2_with fail
    refine (hcp _ (HT.out.below (HD.out.alloc HD.out.size _) hw0) (by simp)).mono ?_
    rintro e w2 ⟨rfl, d2⟩
    have HD2 := hide ((HD.out.alloc HD.out.size _).trans (d2.mono (Nat.le_trans HD.out.size (by simp))))
    clear d2 hcp
    go_wp2
    go_ret2
    exact ⟨by rw [HE.out.1, HE.out.2, if_neg HL.out, if_neg HL.out]; rfl, HD2.out⟩

/-- What Follow answers. -/
def folB (s : ByteArray) : ByteArray := if lenF s < s.size then ByteArray.empty else strB (folF (endF s))
def folI (s : ByteArray) : Bool := if lenF s < s.size then false else isF (endF s)

set_option maxRecDepth 100000 in
set_option maxHeartbeats 1000000 in
theorem follow_any (s : ByteArray) (w : World) (hT : RowsAt w) (hw0 : 0 < w.heap.size) (hsz : s.size ≤ 4194304) :
    Calls Tryd.prog 10 #[.string s] w fun e w' => e = .returned (.tuple #[.string (folB s), .bool (folI s), .int .i64 (cerF s : Nat)]) ∧ Below w.heap.size w w' := by
  have hwk := walk_any s w hT hw0 hsz
  have HT := hide hT
  have HE : Hid ((folB s = if lenF s < s.size then ByteArray.empty else strB (folF (endF s))) ∧ (folI s = if lenF s < s.size then false else isF (endF s)) ∧ cerF s = if lenF s < s.size then 30 else 0) := hide ⟨rfl, rfl, rfl⟩
  have hok := end_ok s
  have e1 : (goF (1, 0) (bts s)).1 = endF s := rfl
  have e2 : (goF (1, 0) (bts s)).2 = lenF s := rfl
  have hle := len_le s
  rw [e1, e2] at hwk
  clear e1 e2 hT
  generalize endF s = q at *
  generalize lenF s = n at *
  have hfol := fun W h1 h2 => fol_any q W h1 h2 hok
  have hfile := fun W h1 h2 => isF_any q W h1 h2 hok
  have H256 : Hid (∀ b ∈ folF q, b < 256) := hide (fun b hb => step_lt (mem_fol.1 hb))
  generalize isF q = f at *
  generalize folF q = fl at *
  obtain ⟨p, r⟩ := q
  unfold spV at hwk hfol hfile
  simp only at hwk hfol hfile
  go_enter Tryd.func10, Tryd.ntmps10
  go_wp2_with fail
  refine hwk.mono ?_
  rintro e w1 ⟨rfl, d⟩
  have HD := hide d
  clear hwk d
  by_cases hlt : n < s.size
  · have i1 : (n : Int) < (s.size : Int) := by omega
    have HL := hide hlt
    clear hlt
    go_wp2
    go_ret3
    exact ⟨by rw [HE.out.1, HE.out.2.1, HE.out.2.2, if_pos HL.out, if_pos HL.out, if_pos HL.out]; rfl, HD.out.alloc HD.out.size _⟩
  · have i1 : ¬ (n : Int) < (s.size : Int) := by omega
    have HL := hide hlt
    clear hlt
    have HB := hide ((HD.out.alloc HD.out.size (.cells #[.int .u8 (p : Nat), .int .i64 (r : Nat)] 37)).drew)
    have HN : Hid (0 < (w1.alloc (.cells #[.int .u8 (p : Nat), .int .i64 (r : Nat)] 37)).drew.heap.size) := hide (by simp [World.drew])
    have HC : Hid (SpotAt (w1.alloc (.cells #[.int .u8 (p : Nat), .int .i64 (r : Nat)] 37)).drew w1.heap.size (p, r)) := hide (spot_alloc w1 p r)
    go_wp2_with fail
    go_region_with (first
      | (go_at_call 18; refine (hfol _ (HT.out.below HB.out hw0) HN.out).mono ?_; rintro e w2 ⟨v, rfl, ho, d2⟩; have hcv := back_reads ho.reads H256.out; obtain ⟨c0, c1, -, -⟩ := (HC.out.below d2 HC.out.lt).facts; simp only at c0 c1)
      | (go_at_call 16; refine (hfile _ (HT.out.below (HB.out.trans (d2.mono HB.out.size)) hw0) (Nat.lt_of_lt_of_le HN.out d2.size)).mono ?_; rintro e w3 ⟨rfl, d3⟩; have hcv3 := back_reads (ho.reads.below d3) H256.out))
    all_goals go_wp2
    all_goals go_ret3
    all_goals exact ⟨by rw [HE.out.1, HE.out.2.1, HE.out.2.2, if_neg HL.out, if_neg HL.out, if_neg HL.out]; rfl, (HB.out.trans (d2.mono HB.out.size)).trans (d3.mono (Nat.le_trans HB.out.size d2.size))⟩
end Go.Proofs.YtgifamdoolcemaaDoor
