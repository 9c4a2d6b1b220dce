import Derived.Test.YtmagchclmmphaabGreatDoorByt
namespace Go.Proofs.YtmagchclmmphaabGreatDoor
open Go.RowKit Go.Maps

theorem str_beq (a b : ByteArray) : (a.toList == b.toList) = decide (a = b) := by
  rw [Bool.eq_iff_iff, beq_iff_eq, decide_eq_true_iff, ByteArray.toList_eq, ByteArray.toList_eq]
  constructor
  · intro h
    cases a; cases b
    simp at h
    rw [h]
  · rintro rfl; rfl

/-- What a name is. -/
def vld (s : ByteArray) : Bool := decide (1 ≤ s.size) && decide (s.size ≤ 16) && s.data.toList.all fun c => nameC c.toNat

theorem idx_at (s : ByteArray) (k : Nat) (W : World) (h : k < s.size) : (Instr.index 9 (.string s) (.int .i64 (k : Int))).run Tryz.prog W = .ok (.int .u8 (s[k].toNat : Int)) W := by
  rw [run_index_string W 9 s .i64 _ Tryz.underlying9, dif_pos (by omega)]
  simp only [Int.toNat_natCast]

/-- The first k bytes are such as a name may hold. -/
def okTo (s : ByteArray) (k : Nat) : Prop := ∀ j, (h : j < s.size) → j < k → nameC s[j].toNat = true

theorem vld_full (s : ByteArray) (h1 : 1 ≤ s.size) (h2 : s.size ≤ 16) (h : okTo s s.size) : vld s = true := by
  unfold vld
  rw [decide_eq_true h1, decide_eq_true h2, Bool.true_and, Bool.true_and, List.all_eq_true]
  intro c hc
  obtain ⟨j, hj, rfl⟩ := List.getElem_of_mem hc
  have hj' : j < s.size := by simpa using hj
  have := h j hj' hj'
  simpa [ByteArray.getElem_eq_getElem_data] using this
theorem vld_not (s : ByteArray) (k : Nat) (hk : k < s.size) (h : nameC s[k].toNat = false) : vld s = false := by
  unfold vld
  have : (s.data.toList.all fun c => nameC c.toNat) = false := by
    rw [List.all_eq_false]
    exact ⟨s[k], by rw [ByteArray.getElem_eq_getElem_data]; simp, by simpa using h⟩
  rw [this, Bool.and_false]
theorem vld_len (s : ByteArray) (h : ¬ (1 ≤ s.size ∧ s.size ≤ 16)) : vld s = false := by
  unfold vld
  by_cases h1 : 1 ≤ s.size
  · rw [decide_eq_false (p := s.size ≤ 16) (by omega)]; simp
  · rw [decide_eq_false h1]; simp

set_option maxRecDepth 100000 in
set_option maxHeartbeats 1000000 in
theorem valid_any (s : ByteArray) (w : World) (hT : BytesAt w) (hw0 : 1 < w.heap.size) :
    Calls Tryz.prog 31 #[.string s] w fun e w' => e = .returned (.bool (vld s)) ∧ Below w.heap.size w w' := by
  by_cases h0 : s.size < 1
  · have e := vld_len s (by omega)
    have i0 : (s.size : Int) < 1 := by omega
    go_enter Tryz.func31, Tryz.ntmps31
    go_wp2
    go_ret
    exact ⟨by first | (rw [e]; rfl) | rfl, Below.refl _ _⟩
  · by_cases h1 : 16 < s.size
    · have e := vld_len s (by omega)
      have i0 : ¬ (s.size : Int) < 1 := by omega
      have i1 : (s.size : Int) > 16 := by omega
      go_enter Tryz.func31, Tryz.ntmps31
      go_wp2
      go_ret
      exact ⟨by first | (rw [e]; rfl) | rfl, Below.refl _ _⟩
    · have i0 : ¬ (s.size : Int) < 1 := by omega
      have i1 : ¬ (s.size : Int) > 16 := by omega
      have HT := hide hT
      clear hT
      go_enter Tryz.func31, Tryz.ntmps31
      go_wp2
      go_loopw [14] (fun i wr => ∃ k : Nat, k ≤ s.size ∧ i = .int .i64 k ∧ Hid (okTo s k) ∧ Below w.heap.size w wr) (fun i _ => s.size - (intOf i).toNat)
      case atStart => exact ⟨0, Nat.zero_le _, rfl, hide (fun j _ hj => absurd hj (Nat.not_lt_zero _)), Below.refl _ _⟩
      case round =>
        obtain ⟨k, hk, rfl, hok, hb⟩ := hrel
        by_cases hlt : k < s.size
        · have hix := fun W => idx_at s k W hlt
          have i2 : (k : Int) < (s.size : Int) := by omega
          by_cases hc : nameC s[k].toNat = true
          · go_wp2_with (go_at_call 56; refine (mayHold_any _ _ (HT.out.below hb hw0)).mono ?_; rintro e w' ⟨rfl, hb'⟩; rw [hc])
            go_roundw
            case rel => exact ⟨k + 1, by omega, by go_num, hide (fun j hj hjk => if e : j = k then by subst e; exact hc else hok.out j hj (by omega)), hb.trans (hb'.mono hb.size)⟩
            case measure => simp [intOf]; omega
          · have hc' : nameC s[k].toNat = false := by simpa using hc
            have e := vld_not s k hlt hc'
            clear hc
            go_wp2_with (go_at_call 56; refine (mayHold_any _ _ (HT.out.below hb hw0)).mono ?_; rintro e w' ⟨rfl, hb'⟩; rw [hc'])
            go_ret
            exact ⟨by first | (rw [e]; rfl) | rfl, hb.trans (hb'.mono hb.size)⟩
        · have i2 : ¬ (k : Int) < (s.size : Int) := by omega
          have hke : k = s.size := by omega
          have e := vld_full s (by omega) (by omega) (by rw [← hke]; exact hok.out)
          clear hke
          go_wp2
          go_ret
          exact ⟨by first | (rw [e]; rfl) | rfl, hb⟩

/-- A list of texts as it lies at an address. -/
def ReadsS (w : World) (ao : Option Addr) (l : List ByteArray) : Prop := ∀ k (hk : k < l.length), ∃ g o, ao = some ⟨g, o, none⟩ ∧ w.cell? ⟨g, o + k, none⟩ = some (.string l[k])
/-- A value that is a slice of these texts. -/
def StrS (w : World) (v : Value) (l : List ByteArray) : Prop := ∃ ao cap, v = .slice ao l.length cap ∧ ReadsS w ao l
theorem ReadsS.below {w w' : World} {ao : Option Addr} {l : List ByteArray} (h : ReadsS w ao l) (hb : Below w.heap.size w w') : ReadsS w' ao l := fun k hk => by
  obtain ⟨g, o, rfl, hc⟩ := h k hk
  exact ⟨g, o, rfl, (hb.cell (p := ⟨g, o + k, none⟩) (World.block_lt_of_cell? w _ hc)).trans hc⟩
theorem StrS.below {w w' : World} {v : Value} {l : List ByteArray} (h : StrS w v l) (hb : Below w.heap.size w w') : StrS w' v l := by
  obtain ⟨ao, cap, rfl, hr⟩ := h
  exact ⟨ao, cap, rfl, hr.below hb⟩

/-- A list that must not be too long. -/
def Sml (l : List ByteArray) : Prop := l.length ≤ 4194304 ∧ ∀ s ∈ l, s.size ≤ 1048576

end Go.Proofs.YtmagchclmmphaabGreatDoor
