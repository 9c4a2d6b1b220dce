import Derived.Test.YtdgmokelmocejabDoorPlB
namespace Go.Proofs.YtdgmokelmocejabDoor
open Go.RowKit

/-- A set's key as a text. -/
def keyStr (n X : Nat) : ByteArray := ⟨(keyPre n X ((n + 7) / 8)).toArray⟩

theorem keyStr_size (n X : Nat) : (keyStr n X).size = 2 + (n + 7) / 8 := by
  show (keyPre n X ((n + 7) / 8)).toArray.size = _
  rw [List.size_toArray, keyPre_length]

theorem keyStr_list (n X : Nat) : (keyStr n X).data.toList = keyPre n X ((n + 7) / 8) := rfl

theorem keyStr_N (n X : Nat) (hn : n ≤ 8192) : keyN (keyStr n X) = n := by
  unfold keyN
  rw [keyStr_list]
  simp [keyPre]
  omega

theorem keyStr_Y (n X : Nat) (hX : X < 2 ^ n) : keyY (keyStr n X) = X := by
  have hlt : keyY (keyStr n X) < 2 ^ (8 * ((n + 7) / 8)) := by have := keyY_lt (keyStr n X); rw [keyStr_size] at this; simpa using this
  have hX8 : X < 2 ^ (8 * ((n + 7) / 8)) := Nat.lt_of_lt_of_le hX (Nat.pow_le_pow_right (by decide) (by omega))
  apply Nat.eq_of_testBit_eq
  intro i
  by_cases hi : i / 8 < (n + 7) / 8
  · have hk : 2 + i / 8 < (keyStr n X).size := by rw [keyStr_size]; omega
    have h1 := keyY_byte (keyStr n X) (i / 8) hk
    have h2 : (keyStr n X)[2 + i / 8].toNat = X / 2 ^ (8 * (i / 8)) % 256 := by
      rw [byte_at]
      have e : (keyStr n X).data.toList[2 + i / 8]? = some (UInt8.ofNat (X / 2 ^ (8 * (i / 8)))) := by
        rw [keyStr_list, show 2 + i / 8 = i / 8 + 1 + 1 by omega, keyPre, List.getElem?_cons_succ, List.getElem?_cons_succ]
        simp [hi]
      have e2 := List.getElem?_eq_some_iff.1 e
      obtain ⟨h3, h4⟩ := e2
      rw [h4, UInt8.toNat_ofNat']
    rw [byte_bit (keyY (keyStr n X)) i, byte_bit X i, ← h1, ← h2]
  · have h8 : 8 * ((n + 7) / 8) ≤ i := by omega
    rw [Nat.testBit_lt_two_pow (Nat.lt_of_lt_of_le hlt (Nat.pow_le_pow_right (by decide) h8)), Nat.testBit_lt_two_pow (Nat.lt_of_lt_of_le hX8 (Nat.pow_le_pow_right (by decide) h8))]

theorem keyStr_good (n X : Nat) (hn : n ≤ 8192) (hX : X < 2 ^ n) : Good (keyStr n X) := by
  refine ⟨by rw [keyStr_size]; omega, ?_, ?_, ?_⟩
  · rw [keyStr_N n X hn]; exact hn
  · rw [keyStr_N n X hn, keyStr_size]
  · rw [keyStr_N n X hn, keyStr_Y n X hX]; exact hX

theorem good_eq (s : ByteArray) (h : Good s) : s = keyStr (keyN s) (keyY s) := by
  have e := keyPre_ext _ _ s h.1 rfl h.2.2.1 (fun _ _ => rfl)
  unfold keyStr
  rw [e]

theorem keyStr_inj (n X m Y : Nat) (hn : n ≤ 8192) (hm : m ≤ 8192) (hX : X < 2 ^ n) (hY : Y < 2 ^ m) : keyStr n X = keyStr m Y ↔ (n = m ∧ X = Y) := by
  constructor
  · intro h
    have h1 := congrArg keyN h
    have h2 := congrArg keyY h
    rw [keyStr_N n X hn, keyStr_N m Y hm] at h1
    rw [keyStr_Y n X hX, keyStr_Y m Y hY] at h2
    exact ⟨h1, h2⟩
  · rintro ⟨rfl, rfl⟩; rfl

theorem fk_key (n X : Nat) (w : World) (hn : n ≤ 8192) (hX : X < 2 ^ n) :
    Calls Tryd.prog 67 #[.string (keyStr n X)] w fun e w' => ∃ b g cap, e = .returned (.tuple #[.pointer (some ⟨b, 0, none⟩), .int .i64 0]) ∧ IsSet w' b g cap n X ∧ w.heap.size ≤ b ∧ w.heap.size ≤ g ∧ b ≠ g ∧ Below w.heap.size w w' := by
  have := fk_good (keyStr n X) w (keyStr_good n X hn hX)
  rwa [keyStr_N n X hn, keyStr_Y n X hX] at this


theorem rfk_key (n X : Nat) (w : World) (hn : n ≤ 8192) (hX : X < 2 ^ n) :
    Calls Tryd.prog 68 #[.string (keyStr n X)] w fun e w' => ∃ ao cap, e = .returned (.tuple #[.agg #[.int .i64 n, .slice ao (elems n X).length cap], .int .i64 0]) ∧ Row3 w' ao (elems n X) ∧ Below w.heap.size w w' := by
  refine (rfk_good (keyStr n X) w (keyStr_good n X hn hX)).mono ?_
  rintro e w' ⟨v, rfl, ho, hb⟩
  rw [keyStr_N n X hn, keyStr_Y n X hX] at ho
  rw [keyStr_N n X hn]
  obtain ⟨ao, cap, rfl, hr⟩ := row3_own ho
  exact ⟨ao, cap, rfl, hr, hb⟩
theorem rfk_ok (s : ByteArray) (w : World) (h : Good s) :
    Calls Tryd.prog 68 #[.string s] w fun e w' => ∃ ao cap, e = .returned (.tuple #[.agg #[.int .i64 (keyN s), .slice ao (elems (keyN s) (keyY s)).length cap], .int .i64 0]) ∧ Row3 w' ao (elems (keyN s) (keyY s)) ∧ Below w.heap.size w w' := by
  refine (rfk_good s w h).mono ?_
  rintro e w' ⟨v, rfl, ho, hb⟩
  obtain ⟨ao, cap, rfl, hr⟩ := row3_own ho
  exact ⟨ao, cap, rfl, hr, hb⟩
theorem key_str (b g cap n X : Nat) (w : World) (hs : IsSet w b g cap n X) :
    Calls Tryd.prog 7 #[.pointer (some ⟨b, 0, none⟩)] w fun e w' => e = .returned (.string (keyStr n X)) ∧ Below w.heap.size w w' := key_any b g cap n X w hs
theorem rkey_str (n X : Nat) (ao : Option Addr) (c : Nat) (w : World) (hn : n ≤ 8192) (hX : X < 2 ^ n) (hr : Row3 w ao (elems n X)) :
    Calls Tryd.prog 56 #[.agg #[.int .i64 n, .slice ao (elems n X).length c]] w fun e w' => e = .returned (.string (keyStr n X)) ∧ Below w.heap.size w w' := by
  have hl := cnt_le n X
  unfold cnt at hl
  have := rkey_any ao c n (elems n X) w hr.reads hn (by omega) (elems_sorted n X) (fun e he => (mem_elems.1 he).1)
  rw [setOf_elems, Nat.mod_eq_of_lt hX] at this
  exact this
theorem rnew_r (n : Nat) (w : World) (h : n ≤ 8192) :
    Calls Tryd.prog 19 #[.int .i64 n] w fun e w' => ∃ ao cap, e = .returned (.tuple #[.agg #[.int .i64 n, .slice ao (elems n 0).length cap], .int .i64 0]) ∧ Row3 w' ao (elems n 0) ∧ Below w.heap.size w w' := by
  refine (rnew_ok n w (by omega) (by omega)).mono ?_
  rintro e w' ⟨rfl, hb⟩
  rw [elems_nil]
  exact ⟨none, 0, rfl, row3_nil _ _, hb⟩
theorem ok_up1 {p : Nat → Sl} {a : Nat} {s : Sl} (h : Ok4 p) (hs : s.y = s.X) : Ok4 (upd p a s) := by
  intro k hk
  by_cases e : k = a
  · subst e; rw [upd_same]; exact hs
  · rw [upd_ne _ _ e]; exact h k hk
end Go.Proofs.YtdgmokelmocejabDoor
