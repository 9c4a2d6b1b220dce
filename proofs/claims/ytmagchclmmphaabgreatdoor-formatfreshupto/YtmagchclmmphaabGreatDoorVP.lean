import Derived.Test.YtmagchclmmphaabGreatDoorVN
namespace Go.Proofs.YtmagchclmmphaabGreatDoor
open Go.RowKit Go.Maps

/-! ### Lists turned round in their places -/
/-- Which item stands at a place when so many have been turned. -/
def swI (n i j : Nat) : Nat := if j < i ∨ n - i ≤ j then n - 1 - j else j
/-- Which cell. -/
def swC (z n i c : Nat) : Nat := if c / z < n then z * swI n i (c / z) + c % z else c
theorem Mrw.upd {W : World} {H : Nat} {t : TypeId} {N : Nat} {f : Nat → Value} (h : Mrw W H t N f N) (j : Nat) (u : Value) : Mrw (W.setCell ⟨H, j, none⟩ u) H t N (fun c => if c = j then u else f c) N := by
  obtain ⟨cur, h1, h2, h3⟩ := h
  refine ⟨_, heap_setCell_same W H j cur t u h1, by simpa using h2, fun i hi => ?_⟩
  by_cases e : i = j
  · subst e
    rw [Array.getElem?_setIfInBounds_self_of_lt (by omega)]
    simp
  · rw [Array.getElem?_setIfInBounds_ne (by omega), h3 i hi]
    simp [e]
theorem Mrw.congr {W : World} {H : Nat} {t : TypeId} {N : Nat} {f g : Nat → Value} (h : Mrw W H t N f N) (e : ∀ c, c < N → f c = g c) : Mrw W H t N g N := by
  obtain ⟨cur, h1, h2, h3⟩ := h
  exact ⟨cur, h1, h2, fun j hj => by rw [h3 j hj, e j hj]⟩
theorem Mrw.drew {W : World} {H : Nat} {t : TypeId} {N : Nat} {f : Nat → Value} (h : Mrw W H t N f N) : Mrw W.drew H t N f N := h
theorem Mrw.alloc {W : World} {H : Nat} {t : TypeId} {N : Nat} {f : Nat → Value} (h : Mrw W H t N f N) (o : Obj) : Mrw (W.alloc o) H t N f N := h.below ((Below.refl _ _).alloc (Nat.le_refl _) _) h.lt
theorem Mrw.far {W : World} {H : Nat} {t : TypeId} {N : Nat} {f : Nat → Value} (h : Mrw W H t N f N) {g : Nat} (hg : H ≠ g) (j : Nat) (u : Value) : Mrw (W.setCell ⟨g, j, none⟩ u) H t N f N := by
  obtain ⟨cur, h1, h2, h3⟩ := h
  exact ⟨cur, (Below.heap_setCell _ _ _ _ hg).trans h1, h2, h3⟩
theorem Mrw.only {W W' : World} {H : Nat} {t : TypeId} {N : Nat} {f : Nat → Value} {P : Nat → Prop} (h : Mrw W H t N f N) (o : Only W W' P) (hP : ¬ P H) : Mrw W' H t N f N := by
  have hl := h.lt
  obtain ⟨cur, h1, h2, h3⟩ := h
  exact ⟨cur, (o.block H hl hP).trans h1, h2, h3⟩
theorem Mrw.ne {W : World} {H K : Nat} {t u : TypeId} {N M : Nat} {f g : Nat → Value} {a b : Nat} (h : Mrw W H t N f a) (k : Mrw W K u M g b) (htu : t ≠ u) : H ≠ K := by
  rintro rfl
  obtain ⟨c, h1, _⟩ := h
  obtain ⟨d, k1, _⟩ := k
  rw [h1] at k1
  simp only [Option.some.injEq, Obj.cells.injEq] at k1
  exact htu k1.2.1
theorem swI_zero (n j : Nat) (h : j < n) : swI n 0 j = j := by
  unfold swI; rw [if_neg (by omega)]
theorem swC_zero (z n c : Nat) (_hz : 0 < z) : swC z n 0 c = c := by
  unfold swC
  split
  · rename_i h
    rw [swI_zero n _ h]; exact Nat.div_add_mod c z
  · rfl
theorem swI_at {n i : Nat} (h : 2 * i + 1 < n) : swI n i i = i ∧ swI n i (n - 1 - i) = n - 1 - i := by
  unfold swI
  rw [if_neg (by omega), if_neg (by omega)]
  exact ⟨rfl, rfl⟩
theorem swI_next {n i j : Nat} (h : 2 * i + 1 < n) (hj : j < n) : swI n (i + 1) j = if j = i then n - 1 - i else if j = n - 1 - i then i else swI n i j := by
  unfold swI
  split
  · split
    · omega
    · split
      · omega
      · rw [if_pos (by omega)]
  · rw [if_neg (by omega), if_neg (by omega), if_neg (by omega)]
theorem swI_end {n i j : Nat} (h : ¬ 2 * i + 1 < n) (hj : j < n) (hi : i ≤ n) : swI n i j = n - 1 - j := by
  unfold swI
  split
  · rfl
  · omega
/-- One place. -/
theorem sw1 {n i N : Nat} (f : Nat → Value) (h : 2 * i + 1 < n) (_hN : n ≤ N) (c : Nat) (_hc : c < N) :
    (if c = n - 1 - i then f i else if c = i then f (n - 1 - i) else f (swC 1 n i c)) = f (swC 1 n (i + 1) c) := by
  unfold swC
  rw [Nat.div_one, Nat.mod_one]
  by_cases hcn : c < n
  · rw [if_pos hcn, if_pos hcn, swI_next h hcn]
    by_cases e1 : c = i
    · subst e1; rw [if_neg (by omega), if_pos rfl, if_pos rfl]; simp
    · by_cases e2 : c = n - 1 - i
      · rw [if_pos e2, if_neg e1, if_pos e2]; simp
      · rw [if_neg e2, if_neg e1, if_neg e1, if_neg e2]
  · rw [if_neg hcn, if_neg hcn, if_neg (by omega), if_neg (by omega)]
/-- Two cells. -/
theorem sw2 {n i N : Nat} (f : Nat → Value) (h : 2 * i + 1 < n) (_hN : n * 2 ≤ N) (c : Nat) (_hc : c < N) :
    (if c = (n - 1 - i) * 2 + 1 then f (i * 2 + 1) else if c = (n - 1 - i) * 2 then f (i * 2) else if c = i * 2 + 1 then f ((n - 1 - i) * 2 + 1) else if c = i * 2 then f ((n - 1 - i) * 2) else f (swC 2 n i c)) = f (swC 2 n (i + 1) c) := by
  obtain ⟨k, hk⟩ : ∃ k, n - 1 - i = k := ⟨_, rfl⟩
  rw [hk]
  unfold swC
  by_cases hcn : c / 2 < n
  · rw [if_pos hcn, if_pos hcn, swI_next h hcn, hk]
    by_cases e1 : c / 2 = i
    · rw [if_pos e1]
      by_cases e3 : c % 2 = 0
      · rw [if_neg (by omega), if_neg (by omega), if_neg (by omega), if_pos (by omega), e3, Nat.mul_comm]; rfl
      · rw [if_neg (by omega), if_neg (by omega), if_pos (by omega), show c % 2 = 1 by omega, Nat.mul_comm]
    · rw [if_neg e1]
      by_cases e2 : c / 2 = k
      · rw [if_pos e2]
        by_cases e3 : c % 2 = 0
        · rw [if_neg (by omega), if_pos (by omega), e3, Nat.mul_comm]; rfl
        · rw [if_pos (by omega), show c % 2 = 1 by omega, Nat.mul_comm]
      · rw [if_neg e2, if_neg (by omega), if_neg (by omega), if_neg (by omega), if_neg (by omega)]
  · rw [if_neg hcn, if_neg hcn, if_neg (by omega), if_neg (by omega), if_neg (by omega), if_neg (by omega)]
/-- Three cells. -/
theorem sw3 {n i N : Nat} (f : Nat → Value) (h : 2 * i + 1 < n) (_hN : n * 3 ≤ N) (c : Nat) (_hc : c < N) :
    (if c = (n - 1 - i) * 3 + 2 then f (i * 3 + 2) else if c = (n - 1 - i) * 3 + 1 then f (i * 3 + 1) else if c = (n - 1 - i) * 3 then f (i * 3) else if c = i * 3 + 2 then f ((n - 1 - i) * 3 + 2) else if c = i * 3 + 1 then f ((n - 1 - i) * 3 + 1) else if c = i * 3 then f ((n - 1 - i) * 3) else f (swC 3 n i c)) = f (swC 3 n (i + 1) c) := by
  obtain ⟨k, hk⟩ : ∃ k, n - 1 - i = k := ⟨_, rfl⟩
  rw [hk]
  unfold swC
  by_cases hcn : c / 3 < n
  · rw [if_pos hcn, if_pos hcn, swI_next h hcn, hk]
    by_cases e1 : c / 3 = i
    · rw [if_pos e1]
      by_cases e3 : c % 3 = 0
      · rw [if_neg (by omega), if_neg (by omega), if_neg (by omega), if_neg (by omega), if_neg (by omega), if_pos (by omega), e3, Nat.mul_comm]; rfl
      · by_cases e4 : c % 3 = 1
        · rw [if_neg (by omega), if_neg (by omega), if_neg (by omega), if_neg (by omega), if_pos (by omega), e4, Nat.mul_comm]
        · rw [if_neg (by omega), if_neg (by omega), if_neg (by omega), if_pos (by omega), show c % 3 = 2 by omega, Nat.mul_comm]
    · rw [if_neg e1]
      by_cases e2 : c / 3 = k
      · rw [if_pos e2]
        by_cases e3 : c % 3 = 0
        · rw [if_neg (by omega), if_neg (by omega), if_pos (by omega), e3, Nat.mul_comm]; rfl
        · by_cases e4 : c % 3 = 1
          · rw [if_neg (by omega), if_pos (by omega), e4, Nat.mul_comm]
          · rw [if_pos (by omega), show c % 3 = 2 by omega, Nat.mul_comm]
      · rw [if_neg e2, if_neg (by omega), if_neg (by omega), if_neg (by omega), if_neg (by omega), if_neg (by omega), if_neg (by omega)]
  · rw [if_neg hcn, if_neg hcn, if_neg (by omega), if_neg (by omega), if_neg (by omega), if_neg (by omega), if_neg (by omega), if_neg (by omega)]
/-- All are turned. -/
theorem padV_rev {l : List ByteArray} {i : Nat} (h : ¬ 2 * i + 1 < l.length) (hi : i ≤ l.length) (c : Nat) : padV l (swC 1 l.length i c) = padV l.reverse c := by
  unfold swC padV
  rw [Nat.div_one, Nat.mod_one]
  by_cases hc : c < l.length
  · rw [if_pos hc, swI_end h hc hi]
    have h1 : 1 * (l.length - 1 - c) + 0 < l.length := by omega
    rw [dif_pos h1, dif_pos (by rw [List.length_reverse]; exact hc)]
    simp [List.getElem_reverse]
  · rw [if_neg hc, dif_neg hc, dif_neg (by rw [List.length_reverse]; exact hc)]
theorem opPad_rev {O : List OpI} {i : Nat} (h : ¬ 2 * i + 1 < O.length) (hi : i ≤ O.length) (c : Nat) : opPad O (swC 2 O.length i c) = opPad O.reverse c := by
  unfold swC opPad
  by_cases hc : c / 2 < O.length
  · rw [if_pos hc, swI_end h hc hi]
    have e1 : (2 * (O.length - 1 - c / 2) + c % 2) / 2 = O.length - 1 - c / 2 := by omega
    have e2 : (2 * (O.length - 1 - c / 2) + c % 2) % 2 = c % 2 := by omega
    rw [dif_pos (by rw [e1]; omega), dif_pos (by rw [List.length_reverse]; exact hc)]
    simp only [e1, e2, List.getElem_reverse]
  · rw [if_neg hc, dif_neg hc, dif_neg (by rw [List.length_reverse]; exact hc)]
theorem ruPad_rev {R : List RuT} {i : Nat} (h : ¬ 2 * i + 1 < R.length) (hi : i ≤ R.length) (c : Nat) : ruPad R (swC 3 R.length i c) = ruPad R.reverse c := by
  unfold swC ruPad
  by_cases hc : c / 3 < R.length
  · rw [if_pos hc, swI_end h hc hi]
    have e1 : (3 * (R.length - 1 - c / 3) + c % 3) / 3 = R.length - 1 - c / 3 := by omega
    have e2 : (3 * (R.length - 1 - c / 3) + c % 3) % 3 = c % 3 := by omega
    rw [dif_pos (by rw [e1]; omega), dif_pos (by rw [List.length_reverse]; exact hc)]
    simp only [e1, e2, List.getElem_reverse]
  · rw [if_neg hc, dif_neg hc, dif_neg (by rw [List.length_reverse]; exact hc)]
end Go.Proofs.YtmagchclmmphaabGreatDoor
namespace Go.Proofs.YtmagchclmmphaabGreatDoor
open Go.RowKit Go.Maps
attribute [local go_sem] Oper.semAt_some

theorem swC_item {z n i j r : Nat} (hz : 0 < z) (hr : r < z) (hj : j < n) (e : swI n i j = j) : swC z n i (j * z + r) = j * z + r := by
  unfold swC
  have h1 : (j * z + r) / z = j := by rw [Nat.mul_comm, Nat.mul_add_div hz, Nat.div_eq_of_lt hr, Nat.add_zero]
  have h2 : (j * z + r) % z = r := by rw [Nat.mul_comm, Nat.mul_add_mod, Nat.mod_eq_of_lt hr]
  rw [h1, if_pos hj, e, h2, Nat.mul_comm]
theorem only_alloc {w W : World} {P : Nat → Prop} (h : Only w W P) (o : Obj) : Only w (W.alloc o) P := h.trans (Only.ofBelow ((Below.refl _ _).alloc (Nat.le_refl _) _))
theorem only_setc {w W : World} {g j : Nat} {u : Value} (h : Only w W (fun k => k = g)) : Only w (W.setCell ⟨g, j, none⟩ u) (fun k => k = g) := h.trans (only_set W g j u)
theorem only_drew {w W : World} {P : Nat → Prop} (h : Only w W P) : Only w W.drew P := ⟨h.os, h.tape, h.output, h.size, h.block⟩

set_option maxRecDepth 100000 in
set_option maxHeartbeats 2000000 in
/-- Texts turned round in their places. -/
theorem turned_any (w : World) (H : Nat) (l : List ByteArray) (hM : Hid (Mrw w H 9 (l.length + 64) (padV l) (l.length + 64))) (hl : l.length ≤ 1048576) :
    Calls Tryz.prog 26 #[.slice (some ⟨H, 0, none⟩) l.length (l.length + 64)] w fun e w' => ∃ v, e = .returned v ∧ Mrw w' H 9 (l.length + 64) (padV l.reverse) (l.length + 64) ∧ Only w w' (fun k => k = H) := by
  obtain ⟨n, hn⟩ : ∃ n, l.length = n := ⟨_, rfl⟩
  obtain ⟨M, hMn⟩ : ∃ M, n + 64 = M := ⟨_, rfl⟩
  have HL := hide (And.intro hn hMn)
  rw [hn, hMn] at hM
  rw [hn] at hl
  rw [hn, hMn]
  have hnM : n ≤ M := by omega
  clear hn hMn
  go_enter Tryz.func26, Tryz.ntmps26
  go_wp2_with fail
  go_loopw [3] (fun i wr => ∃ k : Nat, k ≤ n ∧ i = .int .i64 k ∧ Hid (Mrw wr H 9 M (fun c => padV l (swC 1 n k c)) M ∧ Only w wr (fun k => k = H))) (fun i _ => n - (intOf i).toNat)
  case atStart => exact ⟨0, Nat.zero_le _, rfl, hide ⟨hM.out.congr (fun c _ => by rw [swC_zero 1 n c (by omega)]), Only.ofBelow (Below.refl _ _)⟩⟩
  case round =>
    obtain ⟨i, hi, rfl, HN⟩ := hrel
    by_cases hlt : 2 * i + 1 < n
    · have i1 : 2 * (i : Int) + 1 < (n : Int) := by omega
      obtain ⟨k, hk⟩ : ∃ k, n - 1 - i = k := ⟨_, rfl⟩
      have e1 : (n : Int) - 1 - (i : Int) = (k : Int) := by omega
      have i0 : (0 : Int) ≤ (i : Int) := by omega
      have i2 : (i : Int) < (n : Int) := by omega
      have i3 : (0 : Int) ≤ (k : Int) := by omega
      have i4 : (k : Int) < (n : Int) := by omega
      have hnl := HL.out.1
      have q0 : wr.cell? ⟨H, i, none⟩ = some (.string (l[i]'(by omega))) := by
        rw [HN.out.1.at i (by omega)]
        have := swC_item (z := 1) (n := n) (i := i) (j := i) (r := 0) (by omega) (by omega) (by omega) (swI_at hlt).1
        simp only [Nat.mul_one, Nat.add_zero] at this
        simp only [this]
        simp [padV, show i < l.length by omega]
      have q1 : wr.cell? ⟨H, k, none⟩ = some (.string (l[k]'(by omega))) := by
        rw [HN.out.1.at k (by omega)]
        have := swC_item (z := 1) (n := n) (i := i) (j := k) (r := 0) (by omega) (by omega) (by omega) (by rw [← hk]; exact (swI_at hlt).2)
        simp only [Nat.mul_one, Nat.add_zero] at this
        simp only [this]
        simp [padV, show k < l.length by omega]
      have HA : Hid (padV l i = .string (l[i]'(by omega)) ∧ padV l k = .string (l[k]'(by omega))) := hide ⟨by simp [padV, show i < l.length by omega], by simp [padV, show k < l.length by omega]⟩
      obtain ⟨a, ha⟩ : ∃ a, l[i]'(by omega) = a := ⟨_, rfl⟩
      obtain ⟨b, hb⟩ : ∃ b, l[k]'(by omega) = b := ⟨_, rfl⟩
      rw [ha] at q0 HA
      rw [hb] at q1 HA
      have f0 := HN.out.1.fz i
      have f1 := HN.out.1.fz k
      have hik : i ≠ k := by omega
      have HK := hide hk
      clear ha hb hnl hk
      go_wp2_with fail
      go_wp2
      go_roundw
      case rel =>
        refine ⟨i + 1, by omega, by go_num, hide ⟨?_, only_setc (only_setc HN.out.2)⟩⟩
        refine ((HN.out.1.upd i (.string b)).upd k (.string a)).congr (fun c hc => ?_)
        rw [← sw1 (padV l) hlt hnM c hc, HK.out, HA.out.1, HA.out.2]
      case measure => simp [intOf]; omega
    · have i1 : ¬ 2 * (i : Int) + 1 < (n : Int) := by omega
      have HM2 : Hid (Mrw wr H 9 M (padV l.reverse) M) := hide (HN.out.1.congr (fun c _ => by
        have := padV_rev (l := l) (i := i) (by rw [HL.out.1]; exact hlt) (by rw [HL.out.1]; exact hi) c
        rw [HL.out.1] at this
        exact this))
      have T1 := texts_any (some ⟨H, 0, none⟩) M l.reverse wr (hide (padV_reads (by rw [List.length_reverse, HL.out.1, HL.out.2]; exact HM2.out))) (by rw [List.length_reverse, HL.out.1]; omega)
      rw [List.length_reverse, HL.out.1] at T1
      go_wp2_with fail
      refine T1.mono ?_
      rintro e w2 ⟨rfl, h2, d2⟩
      go_wp2_with fail
      go_ret
      exact ⟨_, rfl, HM2.out.below d2 HM2.out.lt, HN.out.2.trans (Only.ofBelow d2)⟩
end Go.Proofs.YtmagchclmmphaabGreatDoor
