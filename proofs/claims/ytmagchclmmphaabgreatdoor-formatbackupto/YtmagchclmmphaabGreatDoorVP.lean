import Derived.Test.YtmagchclmmphaabGreatDoorVN
namespace Go.Proofs.YtmagchclmmphaabGreatDoor
open Go.RowKit Go.Maps

/-! ### Lists turned round in their places -/
/-- Which item stands at a place when so many have been turned. -/
def swI (n i j : Nat) : Nat := if j < i ∨ n - i ≤ j then n - 1 - j else j
/-- Which cell. -/
def swC (z n i c : Nat) : Nat := if c / z < n then z * swI n i (c / z) + c % z else c
theorem Mrw.upd {W : World} {H : Nat} {t : TypeId} {N : Nat} {f : Nat → Value} (h : Mrw W H t N f N) (j : Nat) (u : Value) : Mrw (W.setCell ⟨H, j, none⟩ u) H t N (fun c => if c = j then u else f c) N := by
  obtain ⟨cur, h1, h2, h3⟩ := h
  refine ⟨_, heap_setCell_same W H j cur t u h1, by simpa using h2, fun i hi => ?_⟩
  by_cases e : i = j
  · subst e
    rw [Array.getElem?_setIfInBounds_self_of_lt (by omega)]
    simp
  · rw [Array.getElem?_setIfInBounds_ne (by omega), h3 i hi]
    simp [e]
theorem Mrw.congr {W : World} {H : Nat} {t : TypeId} {N : Nat} {f g : Nat → Value} (h : Mrw W H t N f N) (e : ∀ c, c < N → f c = g c) : Mrw W H t N g N := by
  obtain ⟨cur, h1, h2, h3⟩ := h
  exact ⟨cur, h1, h2, fun j hj => by rw [h3 j hj, e j hj]⟩
theorem Mrw.drew {W : World} {H : Nat} {t : TypeId} {N : Nat} {f : Nat → Value} (h : Mrw W H t N f N) : Mrw W.drew H t N f N := h
theorem Mrw.alloc {W : World} {H : Nat} {t : TypeId} {N : Nat} {f : Nat → Value} (h : Mrw W H t N f N) (o : Obj) : Mrw (W.alloc o) H t N f N := h.below ((Below.refl _ _).alloc (Nat.le_refl _) _) h.lt
theorem Mrw.far {W : World} {H : Nat} {t : TypeId} {N : Nat} {f : Nat → Value} (h : Mrw W H t N f N) {g : Nat} (hg : H ≠ g) (j : Nat) (u : Value) : Mrw (W.setCell ⟨g, j, none⟩ u) H t N f N := by
  obtain ⟨cur, h1, h2, h3⟩ := h
  exact ⟨cur, (Below.heap_setCell _ _ _ _ hg).trans h1, h2, h3⟩
theorem Mrw.only {W W' : World} {H : Nat} {t : TypeId} {N : Nat} {f : Nat → Value} {P : Nat → Prop} (h : Mrw W H t N f N) (o : Only W W' P) (hP : ¬ P H) : Mrw W' H t N f N := by
  have hl := h.lt
  obtain ⟨cur, h1, h2, h3⟩ := h
  exact ⟨cur, (o.block H hl hP).trans h1, h2, h3⟩
theorem Mrw.ne {W : World} {H K : Nat} {t u : TypeId} {N M : Nat} {f g : Nat → Value} {a b : Nat} (h : Mrw W H t N f a) (k : Mrw W K u M g b) (htu : t ≠ u) : H ≠ K := by
  rintro rfl
  obtain ⟨c, h1, _⟩ := h
  obtain ⟨d, k1, _⟩ := k
  rw [h1] at k1
  simp only [Option.some.injEq, Obj.cells.injEq] at k1
  exact htu k1.2.1
theorem swI_zero (n j : Nat) (h : j < n) : swI n 0 j = j := by
  unfold swI; rw [if_neg (by omega)]
theorem swC_zero (z n c : Nat) (_hz : 0 < z) : swC z n 0 c = c := by
  unfold swC
  split
  · rename_i h
    rw [swI_zero n _ h]; exact Nat.div_add_mod c z
  · rfl
theorem swI_at {n i : Nat} (h : 2 * i + 1 < n) : swI n i i = i ∧ swI n i (n - 1 - i) = n - 1 - i := by
  unfold swI
  rw [if_neg (by omega), if_neg (by omega)]
  exact ⟨rfl, rfl⟩
theorem swI_next {n i j : Nat} (h : 2 * i + 1 < n) (hj : j < n) : swI n (i + 1) j = if j = i then n - 1 - i else if j = n - 1 - i then i else swI n i j := by
  unfold swI
  split
  · split
    · omega
    · split
      · omega
      · rw [if_pos (by omega)]
  · rw [if_neg (by omega), if_neg (by omega), if_neg (by omega)]
theorem swI_end {n i j : Nat} (h : ¬ 2 * i + 1 < n) (hj : j < n) (hi : i ≤ n) : swI n i j = n - 1 - j := by
  unfold swI
  split
  · rfl
  · omega
/-- One place. -/
theorem sw1 {n i N : Nat} (f : Nat → Value) (h : 2 * i + 1 < n) (_hN : n ≤ N) (c : Nat) (_hc : c < N) :
    (if c = n - 1 - i then f i else if c = i then f (n - 1 - i) else f (swC 1 n i c)) = f (swC 1 n (i + 1) c) := by
  unfold swC
  rw [Nat.div_one, Nat.mod_one]
  by_cases hcn : c < n
  · rw [if_pos hcn, if_pos hcn, swI_next h hcn]
    by_cases e1 : c = i
    · subst e1; rw [if_neg (by omega), if_pos rfl, if_pos rfl]; simp
    · by_cases e2 : c = n - 1 - i
      · rw [if_pos e2, if_neg e1, if_pos e2]; simp
      · rw [if_neg e2, if_neg e1, if_neg e1, if_neg e2]
  · rw [if_neg hcn, if_neg hcn, if_neg (by omega), if_neg (by omega)]
/-- Two cells. -/
theorem sw2 {n i N : Nat} (f : Nat → Value) (h : 2 * i + 1 < n) (_hN : n * 2 ≤ N) (c : Nat) (_hc : c < N) :
    (if c = (n - 1 - i) * 2 + 1 then f (i * 2 + 1) else if c = (n - 1 - i) * 2 then f (i * 2) else if c = i * 2 + 1 then f ((n - 1 - i) * 2 + 1) else if c = i * 2 then f ((n - 1 - i) * 2) else f (swC 2 n i c)) = f (swC 2 n (i + 1) c) := by
  obtain ⟨k, hk⟩ : ∃ k, n - 1 - i = k := ⟨_, rfl⟩
  rw [hk]
  unfold swC
  by_cases hcn : c / 2 < n
  · rw [if_pos hcn, if_pos hcn, swI_next h hcn, hk]
    by_cases e1 : c / 2 = i
    · rw [if_pos e1]
      by_cases e3 : c % 2 = 0
      · rw [if_neg (by omega), if_neg (by omega), if_neg (by omega), if_pos (by omega), e3, Nat.mul_comm]; rfl
      · rw [if_neg (by omega), if_neg (by omega), if_pos (by omega), show c % 2 = 1 by omega, Nat.mul_comm]
    · rw [if_neg e1]
      by_cases e2 : c / 2 = k
      · rw [if_pos e2]
        by_cases e3 : c % 2 = 0
        · rw [if_neg (by omega), if_pos (by omega), e3, Nat.mul_comm]; rfl
        · rw [if_pos (by omega), show c % 2 = 1 by omega, Nat.mul_comm]
      · rw [if_neg e2, if_neg (by omega), if_neg (by omega), if_neg (by omega), if_neg (by omega)]
  · rw [if_neg hcn, if_neg hcn, if_neg (by omega), if_neg (by omega), if_neg (by omega), if_neg (by omega)]
/-- Three cells. -/
theorem sw3 {n i N : Nat} (f : Nat → Value) (h : 2 * i + 1 < n) (_hN : n * 3 ≤ N) (c : Nat) (_hc : c < N) :
    (if c = (n - 1 - i) * 3 + 2 then f (i * 3 + 2) else if c = (n - 1 - i) * 3 + 1 then f (i * 3 + 1) else if c = (n - 1 - i) * 3 then f (i * 3) else if c = i * 3 + 2 then f ((n - 1 - i) * 3 + 2) else if c = i * 3 + 1 then f ((n - 1 - i) * 3 + 1) else if c = i * 3 then f ((n - 1 - i) * 3) else f (swC 3 n i c)) = f (swC 3 n (i + 1) c) := by
  obtain ⟨k, hk⟩ : ∃ k, n - 1 - i = k := ⟨_, rfl⟩
  rw [hk]
  unfold swC
  by_cases hcn : c / 3 < n
  · rw [if_pos hcn, if_pos hcn, swI_next h hcn, hk]
    by_cases e1 : c / 3 = i
    · rw [if_pos e1]
      by_cases e3 : c % 3 = 0
      · rw [if_neg (by omega), if_neg (by omega), if_neg (by omega), if_neg (by omega), if_neg (by omega), if_pos (by omega), e3, Nat.mul_comm]; rfl
      · by_cases e4 : c % 3 = 1
        · rw [if_neg (by omega), if_neg (by omega), if_neg (by omega), if_neg (by omega), if_pos (by omega), e4, Nat.mul_comm]
        · rw [if_neg (by omega), if_neg (by omega), if_neg (by omega), if_pos (by omega), show c % 3 = 2 by omega, Nat.mul_comm]
    · rw [if_neg e1]
      by_cases e2 : c / 3 = k
      · rw [if_pos e2]
        by_cases e3 : c % 3 = 0
        · rw [if_neg (by omega), if_neg (by omega), if_pos (by omega), e3, Nat.mul_comm]; rfl
        · by_cases e4 : c % 3 = 1
          · rw [if_neg (by omega), if_pos (by omega), e4, Nat.mul_comm]
          · rw [if_pos (by omega), show c % 3 = 2 by omega, Nat.mul_comm]
      · rw [if_neg e2, if_neg (by omega), if_neg (by omega), if_neg (by omega), if_neg (by omega), if_neg (by omega), if_neg (by omega)]
  · rw [if_neg hcn, if_neg hcn, if_neg (by omega), if_neg (by omega), if_neg (by omega), if_neg (by omega), if_neg (by omega), if_neg (by omega)]
/-- All are turned. -/
theorem padV_rev {l : List ByteArray} {i : Nat} (h : ¬ 2 * i + 1 < l.length) (hi : i ≤ l.length) (c : Nat) : padV l (swC 1 l.length i c) = padV l.reverse c := by
  unfold swC padV
  rw [Nat.div_one, Nat.mod_one]
  by_cases hc : c < l.length
  · rw [if_pos hc, swI_end h hc hi]
    have h1 : 1 * (l.length - 1 - c) + 0 < l.length := by omega
    rw [dif_pos h1, dif_pos (by rw [List.length_reverse]; exact hc)]
    simp [List.getElem_reverse]
  · rw [if_neg hc, dif_neg hc, dif_neg (by rw [List.length_reverse]; exact hc)]
theorem opPad_rev {O : List OpI} {i : Nat} (h : ¬ 2 * i + 1 < O.length) (hi : i ≤ O.length) (c : Nat) : opPad O (swC 2 O.length i c) = opPad O.reverse c := by
  unfold swC opPad
  by_cases hc : c / 2 < O.length
  · rw [if_pos hc, swI_end h hc hi]
    have e1 : (2 * (O.length - 1 - c / 2) + c % 2) / 2 = O.length - 1 - c / 2 := by omega
    have e2 : (2 * (O.length - 1 - c / 2) + c % 2) % 2 = c % 2 := by omega
    rw [dif_pos (by rw [e1]; omega), dif_pos (by rw [List.length_reverse]; exact hc)]
    simp only [e1, e2, List.getElem_reverse]
  · rw [if_neg hc, dif_neg hc, dif_neg (by rw [List.length_reverse]; exact hc)]
theorem ruPad_rev {R : List RuT} {i : Nat} (h : ¬ 2 * i + 1 < R.length) (hi : i ≤ R.length) (c : Nat) : ruPad R (swC 3 R.length i c) = ruPad R.reverse c := by
  unfold swC ruPad
  by_cases hc : c / 3 < R.length
  · rw [if_pos hc, swI_end h hc hi]
    have e1 : (3 * (R.length - 1 - c / 3) + c % 3) / 3 = R.length - 1 - c / 3 := by omega
    have e2 : (3 * (R.length - 1 - c / 3) + c % 3) % 3 = c % 3 := by omega
    rw [dif_pos (by rw [e1]; omega), dif_pos (by rw [List.length_reverse]; exact hc)]
    simp only [e1, e2, List.getElem_reverse]
  · rw [if_neg hc, dif_neg hc, dif_neg (by rw [List.length_reverse]; exact hc)]
end Go.Proofs.YtmagchclmmphaabGreatDoor
namespace Go.Proofs.YtmagchclmmphaabGreatDoor
open Go.RowKit Go.Maps
attribute [local go_sem] Oper.semAt_some

theorem swC_item {z n i j r : Nat} (hz : 0 < z) (hr : r < z) (hj : j < n) (e : swI n i j = j) : swC z n i (j * z + r) = j * z + r := by
  unfold swC
  have h1 : (j * z + r) / z = j := by rw [Nat.mul_comm, Nat.mul_add_div hz, Nat.div_eq_of_lt hr, Nat.add_zero]
  have h2 : (j * z + r) % z = r := by rw [Nat.mul_comm, Nat.mul_add_mod, Nat.mod_eq_of_lt hr]
  rw [h1, if_pos hj, e, h2, Nat.mul_comm]
theorem only_alloc {w W : World} {P : Nat → Prop} (h : Only w W P) (o : Obj) : Only w (W.alloc o) P := h.trans (Only.ofBelow ((Below.refl _ _).alloc (Nat.le_refl _) _))
theorem only_setc {w W : World} {g j : Nat} {u : Value} (h : Only w W (fun k => k = g)) : Only w (W.setCell ⟨g, j, none⟩ u) (fun k => k = g) := h.trans (only_set W g j u)
theorem only_drew {w W : World} {P : Nat → Prop} (h : Only w W P) : Only w W.drew P := ⟨h.os, h.tape, h.output, h.size, h.block⟩

set_option maxRecDepth 100000 in
set_option maxHeartbeats 2000000 in
/-- Texts turned round in their places. -/
theorem turned_any (w : World) (H : Nat) (l : List ByteArray) (hM : Hid (Mrw w H 9 (l.length + 64) (padV l) (l.length + 64))) (hl : l.length ≤ 1048576) :
    Calls Tryz.prog 26 #[.slice (some ⟨H, 0, none⟩) l.length (l.length + 64)] w fun e w' => ∃ v, e = .returned v ∧ Mrw w' H 9 (l.length + 64) (padV l.reverse) (l.length + 64) ∧ Only w w' (fun k => k = H) := by
  obtain ⟨n, hn⟩ : ∃ n, l.length = n := ⟨_, rfl⟩
  obtain ⟨M, hMn⟩ : ∃ M, n + 64 = M := ⟨_, rfl⟩
  have HL := hide (And.intro hn hMn)
  rw [hn, hMn] at hM
  rw [hn] at hl
  rw [hn, hMn]
  have hnM : n ≤ M := by omega
  clear hn hMn
  go_enter Tryz.func26, Tryz.ntmps26
  go_wp2_with fail
  go_loopw [3] (fun i wr => ∃ k : Nat, k ≤ n ∧ i = .int .i64 k ∧ Hid (Mrw wr H 9 M (fun c => padV l (swC 1 n k c)) M ∧ Only w wr (fun k => k = H))) (fun i _ => n - (intOf i).toNat)
  case atStart => exact ⟨0, Nat.zero_le _, rfl, hide ⟨hM.out.congr (fun c _ => by rw [swC_zero 1 n c (by omega)]), Only.ofBelow (Below.refl _ _)⟩⟩
  case round =>
    obtain ⟨i, hi, rfl, HN⟩ := hrel
    by_cases hlt : 2 * i + 1 < n
    · have i1 : 2 * (i : Int) + 1 < (n : Int) := by omega
      obtain ⟨k, hk⟩ : ∃ k, n - 1 - i = k := ⟨_, rfl⟩
      have e1 : (n : Int) - 1 - (i : Int) = (k : Int) := by omega
      have i0 : (0 : Int) ≤ (i : Int) := by omega
      have i2 : (i : Int) < (n : Int) := by omega
      have i3 : (0 : Int) ≤ (k : Int) := by omega
      have i4 : (k : Int) < (n : Int) := by omega
      have hnl := HL.out.1
      have q0 : wr.cell? ⟨H, i, none⟩ = some (.string (l[i]'(by omega))) := by
        rw [HN.out.1.at i (by omega)]
        have := swC_item (z := 1) (n := n) (i := i) (j := i) (r := 0) (by omega) (by omega) (by omega) (swI_at hlt).1
        simp only [Nat.mul_one, Nat.add_zero] at this
        simp only [this]
        simp [padV, show i < l.length by omega]
      have q1 : wr.cell? ⟨H, k, none⟩ = some (.string (l[k]'(by omega))) := by
        rw [HN.out.1.at k (by omega)]
        have := swC_item (z := 1) (n := n) (i := i) (j := k) (r := 0) (by omega) (by omega) (by omega) (by rw [← hk]; exact (swI_at hlt).2)
        simp only [Nat.mul_one, Nat.add_zero] at this
        simp only [this]
        simp [padV, show k < l.length by omega]
      have HA : Hid (padV l i = .string (l[i]'(by omega)) ∧ padV l k = .string (l[k]'(by omega))) := hide ⟨by simp [padV, show i < l.length by omega], by simp [padV, show k < l.length by omega]⟩
      obtain ⟨a, ha⟩ : ∃ a, l[i]'(by omega) = a := ⟨_, rfl⟩
      obtain ⟨b, hb⟩ : ∃ b, l[k]'(by omega) = b := ⟨_, rfl⟩
      rw [ha] at q0 HA
      rw [hb] at q1 HA
      have f0 := HN.out.1.fz i
      have f1 := HN.out.1.fz k
      have hik : i ≠ k := by omega
      have HK := hide hk
      clear ha hb hnl hk
      go_wp2_with fail
      go_wp2
      go_roundw
      case rel =>
        refine ⟨i + 1, by omega, by go_num, hide ⟨?_, only_setc (only_setc HN.out.2)⟩⟩
        refine ((HN.out.1.upd i (.string b)).upd k (.string a)).congr (fun c hc => ?_)
        rw [← sw1 (padV l) hlt hnM c hc, HK.out, HA.out.1, HA.out.2]
      case measure => simp [intOf]; omega
    · have i1 : ¬ 2 * (i : Int) + 1 < (n : Int) := by omega
      have HM2 : Hid (Mrw wr H 9 M (padV l.reverse) M) := hide (HN.out.1.congr (fun c _ => by
        have := padV_rev (l := l) (i := i) (by rw [HL.out.1]; exact hlt) (by rw [HL.out.1]; exact hi) c
        rw [HL.out.1] at this
        exact this))
      have T1 := texts_any (some ⟨H, 0, none⟩) M l.reverse wr (hide (padV_reads (by rw [List.length_reverse, HL.out.1, HL.out.2]; exact HM2.out))) (by rw [List.length_reverse, HL.out.1]; omega)
      rw [List.length_reverse, HL.out.1] at T1
      go_wp2_with fail
      refine T1.mono ?_
      rintro e w2 ⟨rfl, h2, d2⟩
      go_wp2_with fail
      go_ret
      exact ⟨_, rfl, HM2.out.below d2 HM2.out.lt, HN.out.2.trans (Only.ofBelow d2)⟩
end Go.Proofs.YtmagchclmmphaabGreatDoor
namespace Go.Proofs.YtmagchclmmphaabGreatDoor
open Go.RowKit Go.Maps
attribute [local go_sem] Oper.semAt_some

theorem bx5_only {W W' : World} {X : Nat} {P : Nat → Prop} {v0 v1 v2 v3 v4 : Value} (h : Bx5 W X v0 v1 v2 v3 v4) (o : Only W W' P) (hP : ¬ P X) : Bx5 W' X v0 v1 v2 v3 v4 := by
  have hX := World.block_lt_of_cell? W _ h.1
  have e := o.block X hX hP
  have k : ∀ j, W'.cell? ⟨X, j, none⟩ = W.cell? ⟨X, j, none⟩ := fun j => by unfold World.cell?; rw [e]
  exact ⟨(k 0).trans h.1, (k 1).trans h.2.1, (k 2).trans h.2.2.1, (k 3).trans h.2.2.2.1, (k 4).trans h.2.2.2.2⟩

set_option maxRecDepth 100000 in
set_option maxHeartbeats 4000000 in
/-- A content's symbols and rules turned round in their places, and a twin of what stands there then. -/
theorem over_any (w : World) (ti : ByteArray) (bo bs bf br : Nat) (O : List OpI) (S F : List ByteArray) (R : List RuT) (hX : Hid (Twn w bo bs bf br O S F R)) (hlo : O.length ≤ 1048576) (hls : S.length ≤ 1048576) (hlf : F.length ≤ 1048576) (hlr : R.length ≤ 1048576) :
    Calls Tryz.prog 21 #[.agg #[.string ti, .slice (some ⟨bo, 0, none⟩) O.length (O.length + 64), .slice (some ⟨bs, 0, none⟩) S.length (S.length + 64), .slice (some ⟨bf, 0, none⟩) F.length (F.length + 64), .slice (some ⟨br, 0, none⟩) R.length (R.length + 64)]] w fun e w' =>
      ∃ go gs gf gr, e = .returned (.agg #[.string ti, .slice (some ⟨go, 0, none⟩) O.length (O.length + 64), .slice (some ⟨gs, 0, none⟩) S.length (S.length + 64), .slice (some ⟨gf, 0, none⟩) F.length (F.length + 64), .slice (some ⟨gr, 0, none⟩) R.length (R.length + 64)]) ∧ Twn w' bo bs bf br O.reverse S F R.reverse ∧ Twn w' go gs gf gr O.reverse S F R.reverse ∧ Only w w' (fun k => k = bo ∨ k = br) := by
  obtain ⟨n, hn⟩ : ∃ n, O.length = n := ⟨_, rfl⟩
  obtain ⟨M, hM⟩ : ∃ M, n + 64 = M := ⟨_, rfl⟩
  obtain ⟨r, hr⟩ : ∃ r, R.length = r := ⟨_, rfl⟩
  obtain ⟨N, hN⟩ : ∃ N, r + 64 = N := ⟨_, rfl⟩
  have HL := hide (And.intro hn (And.intro hM (And.intro hr hN)))
  have hlo' : n ≤ 1048576 := by omega
  have hlr' : r ≤ 1048576 := by omega
  have HOw : Hid (Mrw w bo 66 (M * 2) (opPad O) (M * 2)) := hide (by have := hX.out.o; rw [hn, hM] at this; exact this)
  have HRw : Hid (Mrw w br 68 (N * 3) (ruPad R) (N * 3)) := hide (by have := hX.out.r; rw [hr, hN] at this; exact this)
  rw [hn, hM, hr, hN]
  have hnM : n ≤ M := by omega
  have hrN : r ≤ N := by omega
  have hMb : M ≤ 1048640 := by omega
  have hNb : N ≤ 1048640 := by omega
  clear hn hM hr hN hlo hlr
  obtain ⟨W0, hW0⟩ : ∃ W0, (w.alloc (.cells #[.string ti, .slice (some ⟨bo, 0, none⟩) n M, .slice (some ⟨bs, 0, none⟩) S.length (S.length + 64), .slice (some ⟨bf, 0, none⟩) F.length (F.length + 64), .slice (some ⟨br, 0, none⟩) r N] 32)).alloc (.cells #[.string ⟨#[]⟩, .slice none 0 0, .slice none 0 0, .slice none 0 0, .slice none 0 0] 32) = W0 := ⟨_, rfl⟩
  have d0 : Below w.heap.size w W0 := by rw [← hW0]; exact ((Below.refl _ _).alloc (Nat.le_refl _) _).alloc (by simp) _
  have b0 : W0.heap[w.heap.size]? = some (.cells #[.string ti, .slice (some ⟨bo, 0, none⟩) n M, .slice (some ⟨bs, 0, none⟩) S.length (S.length + 64), .slice (some ⟨bf, 0, none⟩) F.length (F.length + 64), .slice (some ⟨br, 0, none⟩) r N] 32 (0, 0)) := by rw [← hW0]; exact (Below.heap_alloc _ _ _ (by simp)).trans (World.alloc_heap_new _ _)
  have b1 : W0.heap[w.heap.size + 1]? = some (.cells #[.string ⟨#[]⟩, .slice none 0 0, .slice none 0 0, .slice none 0 0, .slice none 0 0] 32 (0, 0)) := by rw [← hW0]; exact heap_alloc2_new w _ _
  have z0 : W0.heap.size = w.heap.size + 2 := by rw [← hW0]; simp
  have HBX : Hid (Bx5 W0 w.heap.size (.string ti) (.slice (some ⟨bo, 0, none⟩) n M) (.slice (some ⟨bs, 0, none⟩) S.length (S.length + 64)) (.slice (some ⟨bf, 0, none⟩) F.length (F.length + 64)) (.slice (some ⟨br, 0, none⟩) r N)) := hide ⟨cell_of b0 rfl, cell_of b0 rfl, cell_of b0 rfl, cell_of b0 rfl, cell_of b0 rfl⟩
  have HB1 := hide b1
  have hbo : bo < w.heap.size := HOw.out.lt
  have hbr : br < w.heap.size := HRw.out.lt
  have hne : bo ≠ br := HOw.out.ne HRw.out (by decide)
  have HO := hide (HOw.out.below d0 hbo)
  have HR := hide (HRw.out.below d0 hbr)
  have HSF : Hid (Mrw W0 bs 9 (S.length + 64) (padV S) (S.length + 64) ∧ Mrw W0 bf 9 (F.length + 64) (padV F) (F.length + 64)) := hide ⟨hX.out.s.below d0 hX.out.s.lt, hX.out.f.below d0 hX.out.f.lt⟩
  have HD := hide (And.intro d0 z0)
  clear d0 b0 b1 z0 hX
  go_enter Tryz.func21, Tryz.ntmps21
  go_wp2_with fail
  go_loopw [3] (fun i wr => ∃ k : Nat, k ≤ n ∧ i = .int .i64 k ∧ Hid (Mrw wr bo 66 (M * 2) (fun c => opPad O (swC 2 n k c)) (M * 2) ∧ Only W0 wr (fun k => k = bo))) (fun i _ => n - (intOf i).toNat)
  case atStart => exact ⟨0, Nat.zero_le _, rfl, hide ⟨HO.out.congr (fun c _ => by rw [swC_zero 2 n c (by omega)]), Only.ofBelow (Below.refl _ _)⟩⟩
  case round =>
    obtain ⟨i, hi, rfl, HN⟩ := hrel
    obtain ⟨c0, c1, c2, c3, c4⟩ := bx5_only HBX.out HN.out.2 (show ¬ w.heap.size = bo by omega)
    by_cases hlt : 2 * i + 1 < n
    · clear c0 c2 c3 c4
      have i1 : 2 * (i : Int) + 1 < (n : Int) := by omega
      obtain ⟨k, hk⟩ : ∃ k, n - 1 - i = k := ⟨_, rfl⟩
      have e1 : (n : Int) - 1 - (i : Int) = (k : Int) := by omega
      have i0 : (0 : Int) ≤ (i : Int) := by omega
      have i2 : (i : Int) < (n : Int) := by omega
      have i3 : (0 : Int) ≤ (k : Int) := by omega
      have i4 : (k : Int) < (n : Int) := by omega
      have hnl := HL.out.1
      have hiO : i < O.length := by omega
      have hkO : k < O.length := by omega
      have vi := opPad_at O i hiO
      have vk := opPad_at O k hkO
      have q0 : wr.cell? ⟨bo, i * 2, none⟩ = some (.string O[i].1) := by
        have e := swC_item (z := 2) (n := n) (i := i) (j := i) (r := 0) (by omega) (by omega) (by omega) (swI_at hlt).1
        rw [Nat.add_zero] at e
        rw [HN.out.1.at _ (by omega), e, vi.1]
      have q1 : wr.cell? ⟨bo, i * 2 + 1, none⟩ = some (.int .i64 O[i].2) := by
        rw [HN.out.1.at _ (by omega), swC_item (z := 2) (n := n) (i := i) (j := i) (r := 1) (by omega) (by omega) (by omega) (swI_at hlt).1, vi.2]
      have hsk : swI n i k = k := by rw [← hk]; exact (swI_at hlt).2
      have q2 : wr.cell? ⟨bo, k * 2, none⟩ = some (.string O[k].1) := by
        have e := swC_item (z := 2) (n := n) (i := i) (j := k) (r := 0) (by omega) (by omega) (by omega) hsk
        rw [Nat.add_zero] at e
        rw [HN.out.1.at _ (by omega), e, vk.1]
      have q3 : wr.cell? ⟨bo, k * 2 + 1, none⟩ = some (.int .i64 O[k].2) := by
        rw [HN.out.1.at _ (by omega), swC_item (z := 2) (n := n) (i := i) (j := k) (r := 1) (by omega) (by omega) (by omega) hsk, vk.2]
      have HA := hide (And.intro vi vk)
      obtain ⟨x, hx⟩ : ∃ x, O[i] = x := ⟨_, rfl⟩
      obtain ⟨y, hy⟩ : ∃ y, O[k] = y := ⟨_, rfl⟩
      rw [hx] at q0 q1 HA
      rw [hy] at q2 q3 HA
      have f0 := HN.out.1.fz (i * 2)
      have f1 := HN.out.1.fz (i * 2 + 1)
      have f2 := HN.out.1.fz (k * 2)
      have f3 := HN.out.1.fz (k * 2 + 1)
      have hik : i < k := by omega
      have n1 : i * 2 ≠ k * 2 := by omega
      have n2 : i * 2 + 1 ≠ k * 2 + 1 := by omega
      have n3 : i * 2 ≠ k * 2 + 1 := by omega
      have n4 : i * 2 + 1 ≠ k * 2 := by omega
      have hwb : w.heap.size ≠ bo := by omega
      have hlw : bo ≠ wr.heap.size := by have := HN.out.1.lt; omega
      have HK := hide (And.intro hk hik)
      clear hx hy hnl hk vi vk hsk hiO hkO hik
      obtain ⟨A, hA⟩ : ∃ A, wr.alloc (.cells #[.string x.1, .int .i64 x.2] 66) = A := ⟨_, rfl⟩
      have hbA : A.heap[wr.heap.size]? = some (.cells #[.string x.1, .int .i64 x.2] 66 (0, 0)) := by rw [← hA]; exact World.alloc_heap_new _ _
      have HMA : Hid (Mrw A bo 66 (M * 2) (fun c => opPad O (swC 2 n i c)) (M * 2)) := hide (by rw [← hA]; exact HN.out.1.alloc _)
      have HOA : Hid (Only W0 A (fun k => k = bo)) := hide (by rw [← hA]; exact only_alloc HN.out.2 _)
      have dA : Below wr.heap.size wr A := by rw [← hA]; exact (Below.refl _ _).alloc (Nat.le_refl _) _
      have hbl := HN.out.1.lt
      have kA : ∀ j, A.cell? ⟨bo, j, none⟩ = wr.cell? ⟨bo, j, none⟩ := fun j => dA.cell (p := ⟨bo, j, none⟩) hbl
      have a0 := (kA (i * 2)).trans q0
      have a1 := (kA (i * 2 + 1)).trans q1
      have a2 := (kA (k * 2)).trans q2
      have a3 := (kA (k * 2 + 1)).trans q3
      have aw : A.cell? ⟨w.heap.size, 1, none⟩ = some (.slice (some ⟨bo, 0, none⟩) n M) := (dA.cell (p := ⟨w.heap.size, 1, none⟩) (World.block_lt_of_cell? wr _ c1)).trans c1
      have g0 := HMA.out.fz (i * 2)
      have g1 := HMA.out.fz (i * 2 + 1)
      have HM6 := hide (((HMA.out.upd (i * 2) (.string y.1)).upd (i * 2 + 1) (.int .i64 y.2)).drew)
      have HO6 : Hid (Only W0 (((A.setCell ⟨bo, i * 2, none⟩ (.string y.1)).setCell ⟨bo, i * 2 + 1, none⟩ (.int .i64 y.2)).drew) (fun k => k = bo)) := hide (only_drew (only_setc (only_setc HOA.out)))
      have hb6 : (((A.setCell ⟨bo, i * 2, none⟩ (.string y.1)).setCell ⟨bo, i * 2 + 1, none⟩ (.int .i64 y.2)).drew).heap[wr.heap.size]? = some (.cells #[.string x.1, .int .i64 x.2] 66 (0, 0)) := (Below.heap_setCell _ _ _ _ hlw.symm).trans ((Below.heap_setCell _ _ _ _ hlw.symm).trans hbA)
      have SE : Hid ((((A.setCell ⟨bo, i * 2, none⟩ (.string y.1)).setCell ⟨bo, i * 2 + 1, none⟩ (.int .i64 y.2)).drew).cell? ⟨w.heap.size, 1, none⟩ = some (.slice (some ⟨bo, 0, none⟩) n M) ∧ (((A.setCell ⟨bo, i * 2, none⟩ (.string y.1)).setCell ⟨bo, i * 2 + 1, none⟩ (.int .i64 y.2)).drew).cell? ⟨bo, k * 2, none⟩ = some (.string y.1) ∧ (((A.setCell ⟨bo, i * 2, none⟩ (.string y.1)).setCell ⟨bo, i * 2 + 1, none⟩ (.int .i64 y.2)).drew).cell? ⟨bo, k * 2 + 1, none⟩ = some (.int .i64 y.2)) := hide ⟨(bx5_only HBX.out HO6.out hwb).2.1, by
          rw [HM6.out.at (k * 2) (by have := HK.out; omega)]
          simp only [if_neg n4.symm, if_neg n1.symm]
          rw [← HMA.out.at (k * 2) (by have := HK.out; omega)]; exact a2, by
          rw [HM6.out.at (k * 2 + 1) (by have := HK.out; omega)]
          simp only [if_neg n2.symm, if_neg n3.symm]
          rw [← HMA.out.at (k * 2 + 1) (by have := HK.out; omega)]; exact a3⟩
      have HBx := hide hb6
      clear hbA dA kA hb6 hbl
      go_wp2_with fail
      go_region_held3 (fun W => W.cell? ⟨w.heap.size, 1, none⟩ = some (.slice (some ⟨bo, 0, none⟩) n M) ∧ W.cell? ⟨bo, k * 2, none⟩ = some (.string y.1) ∧ W.cell? ⟨bo, k * 2 + 1, none⟩ = some (.int .i64 y.2))
        (first | exact ⟨aw, a2, a3⟩ | assumption | exact SE.out)
        (fail)
      obtain ⟨W6, hW6⟩ : ∃ W6, ((A.setCell ⟨bo, i * 2, none⟩ (.string y.1)).setCell ⟨bo, i * 2 + 1, none⟩ (.int .i64 y.2)).drew = W6 := ⟨_, rfl⟩
      rw [hW6]
      rw [hW6] at HM6 HO6 SE HBx
      clear hW6 q0 q1 q2 q3 a0 a1 a2 a3 aw g0 g1 f0 f1 f2 f3 c1
      have c1 := SE.out.1
      have a2 := SE.out.2.1
      have a3 := SE.out.2.2
      have g2 := HM6.out.fz (k * 2)
      have g3 := HM6.out.fz (k * 2 + 1)
      have m0 : W6.cell? ⟨wr.heap.size, 0, none⟩ = some (.string x.1) := cell_of HBx.out rfl
      have m1 : W6.cell? ⟨wr.heap.size, 1, none⟩ = some (.int .i64 x.2) := cell_of HBx.out rfl
      go_wp2_with fail
      go_roundw
      case rel =>
        refine ⟨i + 1, by omega, by go_num, hide ⟨?_, only_setc (only_setc HO6.out)⟩⟩
        refine ((HM6.out.upd (k * 2) (.string x.1)).upd (k * 2 + 1) (.int .i64 x.2)).congr (fun c hc => ?_)
        rw [← sw2 (opPad O) hlt (by omega) c hc, HK.out.1, HA.out.1.1, HA.out.1.2, HA.out.2.1, HA.out.2.2]
      case measure => simp [intOf]; omega
    · have i1 : ¬ 2 * (i : Int) + 1 < (n : Int) := by omega
      obtain ⟨wL, hwL⟩ : ∃ X, X = wr := ⟨_, rfl⟩
      subst hwL
      have HMo : Hid (Mrw wL bo 66 (M * 2) (opPad O.reverse) (M * 2)) := hide (HN.out.1.congr (fun c _ => by
        have := opPad_rev (O := O) (i := i) (by rw [HL.out.1]; exact hlt) (by rw [HL.out.1]; exact hi) c
        rw [HL.out.1] at this
        exact this))
      have HOL := hide HN.out.2
      have HRL := hide (HR.out.only HN.out.2 (show ¬ br = bo by omega))
      have HBL := hide (bx5_only HBX.out HN.out.2 (show ¬ w.heap.size = bo by omega))
      have hszL : W0.heap.size ≤ wL.heap.size := HN.out.2.size
      clear HN hlt
      go_wp2_with fail
      go_loopw [6] (fun i wr => ∃ k : Nat, k ≤ r ∧ i = .int .i64 k ∧ Hid (Mrw wr br 68 (N * 3) (fun c => ruPad R (swC 3 r k c)) (N * 3) ∧ Only wL wr (fun k => k = br))) (fun i _ => r - (intOf i).toNat)
      case atStart => exact ⟨0, Nat.zero_le _, rfl, hide ⟨HRL.out.congr (fun c _ => by rw [swC_zero 3 r c (by omega)]), Only.ofBelow (Below.refl _ _)⟩⟩
      case round =>
        clear c0 c1 c2 c3 c4 i1
        obtain ⟨i, hi, rfl, HN⟩ := hrel
        obtain ⟨c0, c1, c2, c3, c4⟩ := bx5_only HBL.out HN.out.2 (show ¬ w.heap.size = br by omega)
        by_cases hlt : 2 * i + 1 < r
        · clear c0 c1 c2 c3
          have i1 : 2 * (i : Int) + 1 < (r : Int) := by omega
          obtain ⟨k, hk⟩ : ∃ k, r - 1 - i = k := ⟨_, rfl⟩
          have e1 : (r : Int) - 1 - (i : Int) = (k : Int) := by omega
          have i0 : (0 : Int) ≤ (i : Int) := by omega
          have i2 : (i : Int) < (r : Int) := by omega
          have i3 : (0 : Int) ≤ (k : Int) := by omega
          have i4 : (k : Int) < (r : Int) := by omega
          have hnl := HL.out.2.2.1
          have hiO : i < R.length := by omega
          have hkO : k < R.length := by omega
          have vi := ruPad_at R i hiO
          have vk := ruPad_at R k hkO
          have hsi := (swI_at hlt).1
          have hsk : swI r i k = k := by rw [← hk]; exact (swI_at hlt).2
          have at0 : ∀ j, j < r → swI r i j = j → ∀ c, c < 3 → wr.cell? ⟨br, j * 3 + c, none⟩ = some (ruPad R (j * 3 + c)) := fun j hj hs c hc => by
            rw [HN.out.1.at _ (by omega), swC_item (z := 3) (n := r) (i := i) (j := j) (r := c) (by omega) hc hj hs]
          have q0 : wr.cell? ⟨br, i * 3, none⟩ = some (.string R[i].1) := (at0 i (by omega) hsi 0 (by omega)).trans (congrArg some vi.1)
          have q1 : wr.cell? ⟨br, i * 3 + 1, none⟩ = some (.string R[i].2.1) := (at0 i (by omega) hsi 1 (by omega)).trans (congrArg some vi.2.1)
          have q2 : wr.cell? ⟨br, i * 3 + 2, none⟩ = some (.string R[i].2.2) := (at0 i (by omega) hsi 2 (by omega)).trans (congrArg some vi.2.2)
          have q3 : wr.cell? ⟨br, k * 3, none⟩ = some (.string R[k].1) := (at0 k (by omega) hsk 0 (by omega)).trans (congrArg some vk.1)
          have q4 : wr.cell? ⟨br, k * 3 + 1, none⟩ = some (.string R[k].2.1) := (at0 k (by omega) hsk 1 (by omega)).trans (congrArg some vk.2.1)
          have q5 : wr.cell? ⟨br, k * 3 + 2, none⟩ = some (.string R[k].2.2) := (at0 k (by omega) hsk 2 (by omega)).trans (congrArg some vk.2.2)
          have HA := hide (And.intro vi vk)
          obtain ⟨x, hx⟩ : ∃ x, R[i] = x := ⟨_, rfl⟩
          obtain ⟨y, hy⟩ : ∃ y, R[k] = y := ⟨_, rfl⟩
          rw [hx] at q0 q1 q2 HA
          rw [hy] at q3 q4 q5 HA
          have hik : i < k := by omega
          have hwb : w.heap.size ≠ br := by omega
          have hlw : br ≠ wr.heap.size := by have := HN.out.1.lt; omega
          have HK := hide (And.intro hk hik)
          clear hx hy hnl hk vi vk hsk hsi hiO hkO hik at0
          obtain ⟨A, hA⟩ : ∃ A, wr.alloc (.cells #[.string x.1, .string x.2.1, .string x.2.2] 68) = A := ⟨_, rfl⟩
          have hbA : A.heap[wr.heap.size]? = some (.cells #[.string x.1, .string x.2.1, .string x.2.2] 68 (0, 0)) := by rw [← hA]; exact World.alloc_heap_new _ _
          have HMA : Hid (Mrw A br 68 (N * 3) (fun c => ruPad R (swC 3 r i c)) (N * 3)) := hide (by rw [← hA]; exact HN.out.1.alloc _)
          have HOA : Hid (Only wL A (fun k => k = br)) := hide (by rw [← hA]; exact only_alloc HN.out.2 _)
          have dA : Below wr.heap.size wr A := by rw [← hA]; exact (Below.refl _ _).alloc (Nat.le_refl _) _
          have hbl := HN.out.1.lt
          have kA : ∀ j, A.cell? ⟨br, j, none⟩ = wr.cell? ⟨br, j, none⟩ := fun j => dA.cell (p := ⟨br, j, none⟩) hbl
          have a0 := (kA (i * 3)).trans q0
          have a1 := (kA (i * 3 + 1)).trans q1
          have a2 := (kA (i * 3 + 2)).trans q2
          have a3 := (kA (k * 3)).trans q3
          have a4 := (kA (k * 3 + 1)).trans q4
          have a5 := (kA (k * 3 + 2)).trans q5
          have aw : A.cell? ⟨w.heap.size, 4, none⟩ = some (.slice (some ⟨br, 0, none⟩) r N) := (dA.cell (p := ⟨w.heap.size, 4, none⟩) (World.block_lt_of_cell? wr _ c4)).trans c4
          have g0 := HMA.out.fz (i * 3)
          have g1 := HMA.out.fz (i * 3 + 1)
          have g2 := HMA.out.fz (i * 3 + 2)
          have HM6 := hide ((((HMA.out.upd (i * 3) (.string y.1)).upd (i * 3 + 1) (.string y.2.1)).upd (i * 3 + 2) (.string y.2.2)).drew)
          have HO6 : Hid (Only wL ((((A.setCell ⟨br, i * 3, none⟩ (.string y.1)).setCell ⟨br, i * 3 + 1, none⟩ (.string y.2.1)).setCell ⟨br, i * 3 + 2, none⟩ (.string y.2.2)).drew) (fun k => k = br)) := hide (only_drew (only_setc (only_setc (only_setc HOA.out))))
          have hb6 : ((((A.setCell ⟨br, i * 3, none⟩ (.string y.1)).setCell ⟨br, i * 3 + 1, none⟩ (.string y.2.1)).setCell ⟨br, i * 3 + 2, none⟩ (.string y.2.2)).drew).heap[wr.heap.size]? = some (.cells #[.string x.1, .string x.2.1, .string x.2.2] 68 (0, 0)) := (Below.heap_setCell _ _ _ _ hlw.symm).trans ((Below.heap_setCell _ _ _ _ hlw.symm).trans ((Below.heap_setCell _ _ _ _ hlw.symm).trans hbA))
          have fr6 : ∀ c, c < 3 → ((((A.setCell ⟨br, i * 3, none⟩ (.string y.1)).setCell ⟨br, i * 3 + 1, none⟩ (.string y.2.1)).setCell ⟨br, i * 3 + 2, none⟩ (.string y.2.2)).drew).cell? ⟨br, k * 3 + c, none⟩ = A.cell? ⟨br, k * 3 + c, none⟩ := fun c hc => by
            have hkk := HK.out
            rw [HM6.out.at (k * 3 + c) (by omega), HMA.out.at (k * 3 + c) (by omega)]
            simp only [if_neg (show ¬ k * 3 + c = i * 3 + 2 by omega), if_neg (show ¬ k * 3 + c = i * 3 + 1 by omega), if_neg (show ¬ k * 3 + c = i * 3 by omega)]
          have SE : Hid (((((A.setCell ⟨br, i * 3, none⟩ (.string y.1)).setCell ⟨br, i * 3 + 1, none⟩ (.string y.2.1)).setCell ⟨br, i * 3 + 2, none⟩ (.string y.2.2)).drew).cell? ⟨w.heap.size, 4, none⟩ = some (.slice (some ⟨br, 0, none⟩) r N) ∧ ((((A.setCell ⟨br, i * 3, none⟩ (.string y.1)).setCell ⟨br, i * 3 + 1, none⟩ (.string y.2.1)).setCell ⟨br, i * 3 + 2, none⟩ (.string y.2.2)).drew).cell? ⟨br, k * 3, none⟩ = some (.string y.1) ∧ ((((A.setCell ⟨br, i * 3, none⟩ (.string y.1)).setCell ⟨br, i * 3 + 1, none⟩ (.string y.2.1)).setCell ⟨br, i * 3 + 2, none⟩ (.string y.2.2)).drew).cell? ⟨br, k * 3 + 1, none⟩ = some (.string y.2.1) ∧ ((((A.setCell ⟨br, i * 3, none⟩ (.string y.1)).setCell ⟨br, i * 3 + 1, none⟩ (.string y.2.1)).setCell ⟨br, i * 3 + 2, none⟩ (.string y.2.2)).drew).cell? ⟨br, k * 3 + 2, none⟩ = some (.string y.2.2)) := hide ⟨(bx5_only HBL.out HO6.out hwb).2.2.2.2, (fr6 0 (by omega)).trans a3, (fr6 1 (by omega)).trans a4, (fr6 2 (by omega)).trans a5⟩
          have HBx := hide hb6
          clear hbA dA kA hb6 hbl fr6
          go_wp2_with fail
          go_region_held3 (fun W => W.cell? ⟨w.heap.size, 4, none⟩ = some (.slice (some ⟨br, 0, none⟩) r N) ∧ W.cell? ⟨br, k * 3, none⟩ = some (.string y.1) ∧ W.cell? ⟨br, k * 3 + 1, none⟩ = some (.string y.2.1) ∧ W.cell? ⟨br, k * 3 + 2, none⟩ = some (.string y.2.2))
            (first | exact ⟨aw, a3, a4, a5⟩ | assumption | exact SE.out)
            (fail)
          obtain ⟨W6, hW6⟩ : ∃ W6, (((A.setCell ⟨br, i * 3, none⟩ (.string y.1)).setCell ⟨br, i * 3 + 1, none⟩ (.string y.2.1)).setCell ⟨br, i * 3 + 2, none⟩ (.string y.2.2)).drew = W6 := ⟨_, rfl⟩
          rw [hW6]
          rw [hW6] at HM6 HO6 SE HBx
          clear hW6 q0 q1 q2 q3 q4 q5 a0 a1 a2 a3 a4 a5 aw g0 g1 g2 c4
          have c4 := SE.out.1
          have a3 := SE.out.2.1
          have a4 := SE.out.2.2.1
          have a5 := SE.out.2.2.2
          have g3 := HM6.out.fz (k * 3)
          have g4 := HM6.out.fz (k * 3 + 1)
          have g5 := HM6.out.fz (k * 3 + 2)
          have m0 : W6.cell? ⟨wr.heap.size, 0, none⟩ = some (.string x.1) := cell_of HBx.out rfl
          have m1 : W6.cell? ⟨wr.heap.size, 1, none⟩ = some (.string x.2.1) := cell_of HBx.out rfl
          have m2 : W6.cell? ⟨wr.heap.size, 2, none⟩ = some (.string x.2.2) := cell_of HBx.out rfl
          go_wp2_with fail
          go_roundw
          case rel =>
            refine ⟨i + 1, by omega, by go_num, hide ⟨?_, only_setc (only_setc (only_setc HO6.out))⟩⟩
            refine (((HM6.out.upd (k * 3) (.string x.1)).upd (k * 3 + 1) (.string x.2.1)).upd (k * 3 + 2) (.string x.2.2)).congr (fun c hc => ?_)
            rw [← sw3 (ruPad R) hlt (by omega) c hc, HK.out.1, HA.out.1.1, HA.out.1.2.1, HA.out.1.2.2, HA.out.2.1, HA.out.2.2.1, HA.out.2.2.2]
          case measure => simp [intOf]; omega
        · have i1 : ¬ 2 * (i : Int) + 1 < (r : Int) := by omega
          have HMr : Hid (Mrw wr br 68 (N * 3) (ruPad R.reverse) (N * 3)) := hide (HN.out.1.congr (fun c _ => by
            have := ruPad_rev (R := R) (i := i) (by rw [HL.out.2.2.1]; exact hlt) (by rw [HL.out.2.2.1]; exact hi) c
            rw [HL.out.2.2.1] at this
            exact this))
          have hso : bs ≠ bo := HSF.out.1.ne HO.out (by decide)
          have hsr : bs ≠ br := HSF.out.1.ne HR.out (by decide)
          have hfo : bf ≠ bo := HSF.out.2.ne HO.out (by decide)
          have hfr : bf ≠ br := HSF.out.2.ne HR.out (by decide)
          have TW : Hid (Twn wr bo bs bf br O.reverse S F R.reverse) := hide ⟨by
            rw [List.length_reverse, HL.out.1, HL.out.2.1]; exact HMo.out.only HN.out.2 hne,
            (HSF.out.1.only HOL.out hso).only HN.out.2 hsr, (HSF.out.2.only HOL.out hfo).only HN.out.2 hfr, by
            rw [List.length_reverse, HL.out.2.2.1, HL.out.2.2.2]; exact HMr.out⟩
          have HZ0 : Hid (wr.heap[w.heap.size + 1]? = some (.cells #[.string ⟨#[]⟩, .slice none 0 0, .slice none 0 0, .slice none 0 0, .slice none 0 0] 32 (0, 0))) := hide (by
            have z := HD.out.2
            have h1 := HOL.out.block (w.heap.size + 1) (by omega) (show ¬ w.heap.size + 1 = bo by omega)
            have h2 := HN.out.2.block (w.heap.size + 1) (by have := HOL.out.size; omega) (show ¬ w.heap.size + 1 = br by omega)
            exact h2.trans (h1.trans HB1.out))
          have ON : Hid (Only w wr (fun k => k = bo ∨ k = br)) := hide (((Only.ofBelow HD.out.1).andNew HOL.out (fun k _ h => .inl h)).andNew HN.out.2 (fun k _ h => .inr h))
          have hszr : W0.heap.size ≤ wr.heap.size := Nat.le_trans HOL.out.size HN.out.2.size
          have T1 := twin2_any wr ti (some ⟨bo, 0, none⟩) (some ⟨bs, 0, none⟩) (some ⟨bf, 0, none⟩) (some ⟨br, 0, none⟩) M (S.length + 64) (F.length + 64) N O.reverse S F R.reverse (hide TW.out.reads.1) (hide TW.out.reads.2.1) (hide TW.out.reads.2.2.1) (hide TW.out.reads.2.2.2) (by rw [List.length_reverse, HL.out.1]; omega) (by omega) (by omega) (by rw [List.length_reverse, HL.out.2.2.1]; omega)
          have T1' : Hid (Calls Tryz.prog 18 #[.agg #[.string ti, .slice (some ⟨bo, 0, none⟩) n M, .slice (some ⟨bs, 0, none⟩) S.length (S.length + 64), .slice (some ⟨bf, 0, none⟩) F.length (F.length + 64), .slice (some ⟨br, 0, none⟩) r N]] wr fun e w' => ∃ go gs gf gr, e = .returned (.agg #[.string ti, .slice (some ⟨go, 0, none⟩) n M, .slice (some ⟨gs, 0, none⟩) S.length (S.length + 64), .slice (some ⟨gf, 0, none⟩) F.length (F.length + 64), .slice (some ⟨gr, 0, none⟩) r N]) ∧ Twn w' go gs gf gr O.reverse S F R.reverse ∧ Below wr.heap.size wr w' ∧ (wr.heap.size ≤ go ∧ wr.heap.size ≤ gs ∧ wr.heap.size ≤ gf ∧ wr.heap.size ≤ gr)) := hide (by
            rw [List.length_reverse, List.length_reverse, HL.out.1, HL.out.2.1, HL.out.2.2.1, HL.out.2.2.2] at T1
            refine T1.mono ?_
            rintro e w' ⟨go, gs, gf, gr, h0, h1, h2, h3, h4, h5, _, h6⟩
            refine ⟨go, gs, gf, gr, h0, ⟨?_, h2, h3, ?_⟩, h5, h6⟩
            · rw [List.length_reverse, HL.out.1, HL.out.2.1]; exact h1
            · rw [List.length_reverse, HL.out.2.2.1, HL.out.2.2.2]; exact h4)
          clear T1
          go_wp2_with fail
          refine T1'.out.mono ?_
          rintro e w7 ⟨go, gs, gf, gr, rfl, hG, d7, hb7⟩
          have F3 := (d7.block _ (by have := HD.out.2; omega)).trans HZ0.out
          have o0 : w7.cell? ⟨w.heap.size + 1, 0, none⟩ = some (.string ⟨#[]⟩) := cell_of F3 rfl
          have o1 : w7.cell? ⟨w.heap.size + 1, 1, none⟩ = some (.slice none 0 0) := cell_of F3 rfl
          have o2 : w7.cell? ⟨w.heap.size + 1, 2, none⟩ = some (.slice none 0 0) := cell_of F3 rfl
          have o3 : w7.cell? ⟨w.heap.size + 1, 3, none⟩ = some (.slice none 0 0) := cell_of F3 rfl
          have o4 : w7.cell? ⟨w.heap.size + 1, 4, none⟩ = some (.slice none 0 0) := cell_of F3 rfl
          have g0 : w7.frozen? ⟨w.heap.size + 1, 0, none⟩ = false := fz_of F3
          have g1 : w7.frozen? ⟨w.heap.size + 1, 1, none⟩ = false := fz_of F3
          have g2 : w7.frozen? ⟨w.heap.size + 1, 2, none⟩ = false := fz_of F3
          have g3 : w7.frozen? ⟨w.heap.size + 1, 3, none⟩ = false := fz_of F3
          have g4 : w7.frozen? ⟨w.heap.size + 1, 4, none⟩ = false := fz_of F3
          have HG := hide (And.intro hG (And.intro d7 hb7))
          have HF3 := hide F3
          clear hG d7 hb7 F3 c0 c1 c2 c3 c4 T1'
          go_wp2_with fail
          obtain ⟨W8, hW8⟩ : ∃ W8, ((((w7.setCell ⟨w.heap.size + 1, 0, none⟩ (.string ti)).setCell ⟨w.heap.size + 1, 1, none⟩ (.slice (some ⟨go, 0, none⟩) n M)).setCell ⟨w.heap.size + 1, 2, none⟩ (.slice (some ⟨gs, 0, none⟩) S.length (S.length + 64))).setCell ⟨w.heap.size + 1, 3, none⟩ (.slice (some ⟨gf, 0, none⟩) F.length (F.length + 64))).setCell ⟨w.heap.size + 1, 4, none⟩ (.slice (some ⟨gr, 0, none⟩) r N) = W8 := ⟨_, rfl⟩
          rw [hW8]
          have e8 : W8.heap[w.heap.size + 1]? = some (.cells #[.string ti, .slice (some ⟨go, 0, none⟩) n M, .slice (some ⟨gs, 0, none⟩) S.length (S.length + 64), .slice (some ⟨gf, 0, none⟩) F.length (F.length + 64), .slice (some ⟨gr, 0, none⟩) r N] 32 (0, 0)) := by
            rw [← hW8]
            exact heap_setCell_same _ _ 4 _ 32 _ (heap_setCell_same _ _ 3 _ 32 _ (heap_setCell_same _ _ 2 _ 32 _ (heap_setCell_same _ _ 1 _ 32 _ (heap_setCell_same _ _ 0 _ 32 _ HF3.out))))
          have O8 : Only w7 W8 (fun k => k = w.heap.size + 1) := by
            rw [← hW8]
            exact ((((only_set w7 _ 0 _).trans (only_set _ _ 1 _)).trans (only_set _ _ 2 _)).trans (only_set _ _ 3 _)).trans (only_set _ _ 4 _)
          refine bodyPost_ret (results_cell_row (p := 2) (ty := 32) rfl _ _ (w.heap.size + 1) 32 _ (0, 0) _ rfl e8 Tryz.underlying32 rfl (by kernel_rfl)) rfl ?_
          obtain ⟨hG, d7, h1, h2, h3, h4⟩ := HG.out
          have hz := HD.out.2
          have hbs : bs < W0.heap.size := HSF.out.1.lt
          have hbf : bf < W0.heap.size := HSF.out.2.lt
          have nbs : bs ≠ w.heap.size + 1 := by
            rintro rfl
            obtain ⟨cur, q, _⟩ := HSF.out.1
            rw [HB1.out] at q; simp at q
          have nbf : bf ≠ w.heap.size + 1 := by
            rintro rfl
            obtain ⟨cur, q, _⟩ := HSF.out.2
            rw [HB1.out] at q; simp at q
          have t7 := TW.out.on d7
          refine ⟨go, gs, gf, gr, rfl, ⟨t7.o.only O8 (show ¬ bo = _ by omega), t7.s.only O8 nbs, t7.f.only O8 nbf, t7.r.only O8 (show ¬ br = _ by omega)⟩, ⟨hG.o.only O8 (show ¬ go = _ by omega), hG.s.only O8 (show ¬ gs = _ by omega), hG.f.only O8 (show ¬ gf = _ by omega), hG.r.only O8 (show ¬ gr = _ by omega)⟩, ?_⟩
          exact (ON.out.andNew (Only.ofBelow (R := fun _ => False) d7) (fun _ _ h => h.elim)).andNew O8 (fun k hk h => by omega)
end Go.Proofs.YtmagchclmmphaabGreatDoor
