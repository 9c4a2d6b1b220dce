import Derived.Test.YtmagchclmmphaabGreatDoorWk
import Derived.Deep.RegionWith
namespace Go.Proofs.YtmagchclmmphaabGreatDoor
open Go.RowKit Go.Maps

/-- How far a text goes. -/
def endF (s : ByteArray) : Nat × Nat := (goF (1, 0) (bts s)).1
def lenF (s : ByteArray) : Nat := (goF (1, 0) (bts s)).2
def errF (s : ByteArray) : Nat := if lenF s < s.size ∨ isF (endF s) = false then 30 else 0
theorem end_ok (s : ByteArray) : okS (endF s) = true := goF_ok (by decide) _
theorem len_le (s : ByteArray) : lenF s ≤ s.size := by
  have := goF_le (1, 0) (bts s)
  rw [bts_len] at this
  exact this

set_option maxRecDepth 100000 in
set_option maxHeartbeats 1000000 in
theorem check_any (s : ByteArray) (w : World) (hT : RowsAt w) (hw0 : 1 < w.heap.size) (hsz : s.size ≤ 134217728) :
    Calls Tryz.prog 42 #[.string s] w fun e w' => e = .returned (.tuple #[.int .i64 (lenF s : Nat), .int .i64 (errF s : Nat)]) ∧ Below w.heap.size w w' := by
  have hwk := walk_any s w hT hw0 hsz
  have HT := hide hT
  have HE : Hid (errF s = if lenF s < s.size ∨ isF (endF s) = false then 30 else 0) := hide rfl
  have hok := end_ok s
  have hle := len_le s
  have e1 : (goF (1, 0) (bts s)).1 = endF s := rfl
  have e2 : (goF (1, 0) (bts s)).2 = lenF s := rfl
  rw [e1, e2] at hwk
  clear e1 e2 hT
  generalize endF s = q at *
  generalize lenF s = n at *
  have hfile := fun W h1 h2 => isF_any q W h1 h2 hok
  generalize isF q = f at *
  obtain ⟨p, r⟩ := q
  unfold spV at hwk hfile
  simp only at hwk hfile
  go_enter Tryz.func42, Tryz.ntmps42
  go_wp2_with fail
  refine hwk.mono ?_
  rintro e w1 ⟨rfl, d⟩
  have HD := hide d
  have H1 := hide (Nat.lt_of_lt_of_le hw0 d.size)
  clear hwk d
  by_cases hlt : n < s.size
  · have i1 : (n : Int) < (s.size : Int) := by omega
    have i1d : decide ((n : Int) < (s.size : Int)) = true := decide_eq_true i1
    have HL := hide hlt
    clear hlt
    go_wp2
    go_ret2
    exact ⟨by rw [HE.out, if_pos (.inl HL.out)]; rfl, HD.out.alloc HD.out.size _⟩
  · have i1 : ¬ (n : Int) < (s.size : Int) := by omega
    have HL := hide hlt
    clear hlt
    go_wp2_with fail
    refine (hfile _ (HT.out.below (HD.out.alloc HD.out.size _) hw0) (by have := HD.out.size; simp; omega)).mono ?_
    rintro e w2 ⟨rfl, d2⟩
    have HD2 := hide ((HD.out.alloc HD.out.size _).trans (d2.mono (Nat.le_trans HD.out.size (by simp))))
    clear d2 hfile
    cases f
    · go_wp2
      go_ret2
      exact ⟨by rw [HE.out, if_pos (by simp)]; rfl, HD2.out⟩
    · go_wp2
      go_ret2
      exact ⟨by rw [HE.out, if_neg (by have := HL.out; simp; omega)]; rfl, HD2.out⟩

/-- What Complete answers. -/
def cmpB (s : ByteArray) : ByteArray := if lenF s < s.size then ByteArray.empty else strB (compF (endF s))
def cerF (s : ByteArray) : Nat := if lenF s < s.size then 30 else 0
end Go.Proofs.YtmagchclmmphaabGreatDoor
