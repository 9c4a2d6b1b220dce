import Derived.Test.YtdgmokelmocejabDoorRfrom2
namespace Go.Proofs.YtdgmokelmocejabDoor
open Go.RowKit

/-- Bytes as one number, the lowest first. -/
def leNat : List UInt8 → Nat
  | [] => 0
  | c :: l => c.toNat + 256 * leNat l

theorem leNat_lt (l : List UInt8) : leNat l < 2 ^ (8 * l.length) := by
  induction l with
  | nil => simp [leNat]
  | cons c l ih =>
    have hc := c.toNat_lt
    have e : 2 ^ (8 * (c :: l).length) = 256 * 2 ^ (8 * l.length) := by
      rw [List.length_cons, show 8 * (l.length + 1) = 8 + 8 * l.length by omega, Nat.pow_add]
    rw [e, leNat]
    omega

theorem leNat_byte (l : List UInt8) (k : Nat) (h : k < l.length) : l[k].toNat = leNat l / 2 ^ (8 * k) % 256 := by
  induction l generalizing k with
  | nil => simp at h
  | cons c l ih =>
    have hc : c.toNat < 256 := c.toNat_lt
    cases k with
    | zero =>
      simp only [List.getElem_cons_zero, leNat, Nat.mul_zero, Nat.pow_zero, Nat.div_one]
      omega
    | succ k =>
      simp only [List.getElem_cons_succ]
      rw [ih k (by simpa using h), leNat, show 8 * (k + 1) = 8 + 8 * k by omega, Nat.pow_add, ← Nat.div_div_eq_div_mul]
      congr 2
      have : (2:Nat) ^ 8 = 256 := rfl
      rw [this]; omega

theorem toList_eq (s : ByteArray) : s.toList = s.data.toList := ByteArray.toList_eq s
theorem size_eq (s : ByteArray) : s.data.toList.length = s.size := rfl

/-- What decides whether a text is a key. -/
def keyN (s : ByteArray) : Nat := (s.data.toList.getD 0 0).toNat * 256 + (s.data.toList.getD 1 0).toNat
def keyY (s : ByteArray) : Nat := leNat (s.data.toList.drop 2)

theorem byte_at (s : ByteArray) (k : Nat) (h : k < s.size) : s[k] = s.data.toList[k]'h := rfl

theorem keyY_byte (s : ByteArray) (k : Nat) (hk : 2 + k < s.size) : s[2 + k].toNat = keyY s / 2 ^ (8 * k) % 256 := by
  have hl : k < (s.data.toList.drop 2).length := by rw [List.length_drop, size_eq]; omega
  have := leNat_byte (s.data.toList.drop 2) k hl
  rw [List.getElem_drop] at this
  rw [byte_at, this]; rfl

theorem keyY_lt (s : ByteArray) : keyY s < 2 ^ (8 * (s.size - 2)) := by
  have := leNat_lt (s.data.toList.drop 2)
  rw [List.length_drop, size_eq] at this
  exact this

theorem keyN_eq (s : ByteArray) (h : 2 ≤ s.size) : keyN s = s[0].toNat * 256 + s[1].toNat := by
  unfold keyN
  rw [byte_at s 0 (by omega), byte_at s 1 (by omega)]
  have h0 : 0 < s.data.toList.length := by rw [size_eq]; omega
  have h1 : 1 < s.data.toList.length := by rw [size_eq]; omega
  rw [List.getD_eq_getElem?_getD, List.getD_eq_getElem?_getD, List.getElem?_eq_getElem h0, List.getElem?_eq_getElem h1]
  rfl

/-- The text's last byte has nothing above the bound. -/
theorem last_lt (n Y m : Nat) (hm : m = (n + 7) / 8) (hu : n % 8 ≠ 0) (hY : Y < 2 ^ (8 * m)) : (Y / 2 ^ (8 * (m - 1)) % 256 / 2 ^ (n % 8) = 0) ↔ Y < 2 ^ n := by
  have e1 : 8 * (m - 1) + n % 8 = n := by omega
  have e2 : 8 * m = 8 * (m - 1) + 8 := by omega
  have hlt : Y / 2 ^ (8 * (m - 1)) < 256 := by
    rw [Nat.div_lt_iff_lt_mul (Nat.two_pow_pos _)]
    rw [e2, Nat.pow_add] at hY
    omega
  rw [Nat.mod_eq_of_lt hlt, Nat.div_div_eq_div_mul, ← Nat.pow_add, e1]
  rw [Nat.div_eq_zero_iff]
  have := Nat.two_pow_pos n
  omega

theorem keyPre_ext (n Y : Nat) (s : ByteArray) (h2 : 2 ≤ s.size) (hn : n = keyN s) (hsz : s.size = 2 + (n + 7) / 8) (hY : ∀ k, 2 + k < s.size → Y / 2 ^ (8 * k) % 256 = keyY s / 2 ^ (8 * k) % 256) : keyPre n Y ((n + 7) / 8) = s.data.toList := by
  have hl : (keyPre n Y ((n + 7) / 8)).length = s.data.toList.length := by rw [keyPre_length, size_eq, hsz]
  have hk := keyN_eq s h2
  have b0 := s[0].toNat_lt
  have b1 := s[1].toNat_lt
  apply List.ext_getElem hl
  intro i h1 h3
  match i, h1, h3 with
  | 0, h1, h3 =>
    apply UInt8.toNat_inj.1
    simp only [keyPre, List.getElem_cons_zero, UInt8.toNat_ofNat']
    rw [← byte_at s 0 (by omega)]
    omega
  | 1, h1, h3 =>
    apply UInt8.toNat_inj.1
    simp only [keyPre, List.getElem_cons_succ, List.getElem_cons_zero, UInt8.toNat_ofNat']
    rw [← byte_at s 1 (by omega)]
    omega
  | i + 2, h1, h3 =>
    apply UInt8.toNat_inj.1
    have h4 : 2 + i < s.size := by rw [size_eq] at h3; omega
    simp only [keyPre, List.getElem_cons_succ, List.getElem_map, List.getElem_range, UInt8.toNat_ofNat']
    rw [hY i h4, ← keyY_byte s i h4, byte_at]
    congr 2; omega

/-- A key: its bound, its numbers. -/
def Good (s : ByteArray) : Prop := 2 ≤ s.size ∧ keyN s ≤ 8192 ∧ s.size = 2 + (keyN s + 7) / 8 ∧ keyY s < 2 ^ keyN s

theorem idx0 (s : ByteArray) (h : 2 ≤ s.size) (W : World) : (Instr.index 9 (.string s) (.int .i64 0)).run Tryd.prog W = .ok (.int .u8 ((s[0].toNat : Nat) : Int)) W := idx_at s 0 W (by omega)
theorem idx1 (s : ByteArray) (h : 2 ≤ s.size) (W : World) : (Instr.index 9 (.string s) (.int .i64 1)).run Tryd.prog W = .ok (.int .u8 ((s[1].toNat : Nat) : Int)) W := idx_at s 1 W (by omega)

theorem last_byte (s : ByteArray) (n : Nat) (h2 : 2 ≤ s.size) (hsz : s.size = 2 + (n + 7) / 8) (hu : n % 8 ≠ 0) (hl : s.size - 1 < s.size) : s[s.size - 1].toNat = keyY s / 2 ^ (8 * ((n + 7) / 8 - 1)) % 256 := by
  have h3 : 2 + ((n + 7) / 8 - 1) < s.size := by omega
  have := keyY_byte s ((n + 7) / 8 - 1) h3
  rw [← this]
  congr 2
  omega

theorem fk_good (s : ByteArray) (w : World) (h : Good s) :
    Calls Tryd.prog 67 #[.string s] w fun e w' => ∃ b g cap, e = .returned (.tuple #[.pointer (some ⟨b, 0, none⟩), .int .i64 0]) ∧ IsSet w' b g cap (keyN s) (keyY s) ∧ w.heap.size ≤ b ∧ w.heap.size ≤ g ∧ b ≠ g ∧ Below w.heap.size w w' := by
  obtain ⟨h2, hn, hsz, hY⟩ := h
  refine from_ok1 s (keyN s) (keyY s) w h2 (by omega) (by omega) (by rw [head_num, keyN_eq s h2]) hn hsz (by omega) ?_ hY (fun k hk => keyY_byte s k hk)
  by_cases hu : keyN s % 8 = 0
  · left; rw [bne_eq_false_iff_eq]; omega
  · right
    refine ⟨by rw [bne_iff_ne]; omega, ?_⟩
    rw [bne_eq_false_iff_eq, last_byte s (keyN s) h2 hsz hu (by omega)]
    have := (last_lt (keyN s) (keyY s) _ rfl hu (by have := keyY_lt s; rw [hsz] at this; simpa using this)).2 hY
    have e : ((keyY s / 2 ^ (8 * ((keyN s + 7) / 8 - 1)) % 256 : Nat) : Int) / 2 ^ (keyN s % 8) = ((keyY s / 2 ^ (8 * ((keyN s + 7) / 8 - 1)) % 256 / 2 ^ (keyN s % 8) : Nat) : Int) := by simp
    rw [e, this]; rfl

theorem fk_bad (s : ByteArray) (w : World) (h : ¬ Good s) :
    Calls Tryd.prog 67 #[.string s] w fun e w' => e = .returned (.tuple #[.pointer none, .int .i64 11]) ∧ Below w.heap.size w w' := by
  by_cases h2 : 2 ≤ s.size
  · have hN := head_num s[0] s[1]
    rw [← keyN_eq s h2] at hN
    have b0 := s[0].toNat_lt
    have b1 := s[1].toNat_lt
    have hk := keyN_eq s h2
    by_cases hn : keyN s ≤ 8192
    · by_cases hsz : s.size = 2 + (keyN s + 7) / 8
      · have hYn : ¬ keyY s < 2 ^ keyN s := fun hY => h ⟨h2, hn, hsz, hY⟩
        have hYl : keyY s < 2 ^ (8 * ((keyN s + 7) / 8)) := by have := keyY_lt s; rw [hsz] at this; simpa using this
        have hu : keyN s % 8 ≠ 0 := by
          intro hu
          apply hYn
          rwa [show 8 * ((keyN s + 7) / 8) = keyN s by omega] at hYl
        refine from_used s (keyN s) w h2 (by omega) (by omega) hN hn hsz hu (by omega) ?_
        rw [last_byte s (keyN s) h2 hsz hu (by omega), bne_iff_ne]
        intro h0
        apply hYn
        apply (last_lt (keyN s) (keyY s) _ rfl hu hYl).1
        have e : ((keyY s / 2 ^ (8 * ((keyN s + 7) / 8 - 1)) % 256 : Nat) : Int) / 2 ^ (keyN s % 8) = ((keyY s / 2 ^ (8 * ((keyN s + 7) / 8 - 1)) % 256 / 2 ^ (keyN s % 8) : Nat) : Int) := by simp
        rw [e] at h0
        exact_mod_cast h0
      · exact from_len s (keyN s) w h2 (by omega) (by omega) hN hn hsz
    · refine (from_big s (keyN s) w h2 (by omega) (by omega) hN (by omega) (by omega)).mono ?_
      rintro e w' ⟨rfl, q, rfl⟩
      exact ⟨rfl, ⟨rfl, rfl, rfl, Nat.le_refl _, fun _ _ => rfl⟩⟩
  · refine (from_short s w (by omega)).mono ?_
    rintro e w' ⟨rfl, rfl⟩
    exact ⟨rfl, Below.refl _ _⟩

theorem rfk_good (s : ByteArray) (w : World) (h : Good s) :
    Calls Tryd.prog 68 #[.string s] w fun e w' => ∃ v, e = .returned (.tuple #[.agg #[.int .i64 (keyN s), v], .int .i64 0]) ∧ w'.ownsRow w.heap.size 3 1 v (elems (keyN s) (keyY s)).length (intV (elems (keyN s) (keyY s))) ∧ Below w.heap.size w w' := by
  obtain ⟨h2, hn, hsz, hY⟩ := h
  have hN := head_num2 s[0] s[1]
  rw [← keyN_eq s h2] at hN
  have hmin : min (keyN s) (8 * (s.size - 2)) = keyN s := by omega
  refine (rfrom_main s (keyN s) _ _ (keyY s) w h2 (idx0 s h2) (idx1 s h2) hN hn (fun k hk => keyY_byte s k hk)).mono ?_
  rintro e w' (⟨v, hk, he, ho, hb⟩ | ⟨hk, _⟩)
  · rw [hmin] at ho; exact ⟨v, he, ho, hb⟩
  · exfalso
    apply hk
    rw [hmin, setOf_elems, Nat.mod_eq_of_lt hY, toList_eq]
    exact keyPre_ext _ _ s h2 rfl hsz (fun _ _ => rfl)

theorem rfk_bad (s : ByteArray) (w : World) (h : ¬ Good s) :
    Calls Tryd.prog 68 #[.string s] w fun e w' => e = .returned (.tuple #[.agg #[.int .i64 0, .slice none 0 0], .int .i64 11]) ∧ Below w.heap.size w w' := by
  by_cases h2 : 2 ≤ s.size
  · have hN := head_num2 s[0] s[1]
    rw [← keyN_eq s h2] at hN
    by_cases hn : keyN s ≤ 8192
    · refine (rfrom_main s (keyN s) _ _ (keyY s) w h2 (idx0 s h2) (idx1 s h2) hN hn (fun k hk => keyY_byte s k hk)).mono ?_
      rintro e w' (⟨v, hk, he, ho, hb⟩ | ⟨_, hk⟩)
      · exfalso
        rw [toList_eq, setOf_elems] at hk
        have hsz : s.size = 2 + (keyN s + 7) / 8 := by
          have := congrArg List.length hk
          rw [keyPre_length, size_eq] at this
          omega
        apply h
        refine ⟨h2, hn, hsz, ?_⟩
        have hmin : min (keyN s) (8 * (s.size - 2)) = keyN s := by omega
        rw [hmin] at hk
        have hYl : keyY s < 2 ^ (8 * ((keyN s + 7) / 8)) := by have := keyY_lt s; rw [hsz] at this; simpa using this
        by_cases hu : keyN s % 8 = 0
        · rwa [show 8 * ((keyN s + 7) / 8) = keyN s by omega] at hYl
        · apply (last_lt (keyN s) (keyY s) _ rfl hu hYl).1
          have hmodl : keyY s % 2 ^ keyN s < 2 ^ keyN s := Nat.mod_lt _ (Nat.two_pow_pos _)
          have e1 := (last_lt (keyN s) (keyY s % 2 ^ keyN s) _ rfl hu (Nat.lt_of_lt_of_le hmodl (Nat.pow_le_pow_right (by decide) (by omega)))).2 hmodl
          have h3 : 2 + ((keyN s + 7) / 8 - 1) < s.size := by omega
          have e2 := keyY_byte s ((keyN s + 7) / 8 - 1) h3
          rw [byte_at] at e2
          have e3 : (keyPre (keyN s) (keyY s % 2 ^ keyN s) ((keyN s + 7) / 8))[2 + ((keyN s + 7) / 8 - 1)]? = s.data.toList[2 + ((keyN s + 7) / 8 - 1)]? := by rw [hk]
          rw [List.getElem?_eq_getElem (l := s.data.toList) (by rw [size_eq]; exact h3)] at e3
          have e4 : (keyPre (keyN s) (keyY s % 2 ^ keyN s) ((keyN s + 7) / 8))[2 + ((keyN s + 7) / 8 - 1)]? = some (UInt8.ofNat (keyY s % 2 ^ keyN s / 2 ^ (8 * ((keyN s + 7) / 8 - 1)))) := by
            have e5 : 2 + ((keyN s + 7) / 8 - 1) = ((keyN s + 7) / 8 - 1) + 1 + 1 := by omega
            rw [e5, keyPre, List.getElem?_cons_succ, List.getElem?_cons_succ]
            have h6 : (keyN s + 7) / 8 - 1 < (keyN s + 7) / 8 := by omega
            simp [h6]
          rw [e4] at e3
          have e6 := Option.some.inj e3
          rw [← e6, UInt8.toNat_ofNat'] at e2
          rw [← e2]
          exact e1
      · exact hk
    · exact rfrom_big s (keyN s) _ _ w h2 (idx0 s h2) (idx1 s h2) hN (by omega)
  · exact rfrom_short s w (by omega)
end Go.Proofs.YtdgmokelmocejabDoor
