import Derived.Test.YtgifamdoolcemaaDoorRv
namespace Go.Proofs.YtgifamdoolcemaaDoor
open Go.RowKit Go.Maps

theorem back_reads {w : World} {v : Value} {l : List Nat} (h : ReadsB w v l) (hl : ∀ b ∈ l, b < 256) : (convert 42 9 v).run Tryd.prog w = .ok (.string (strB l)) w := by
  obtain ⟨ao, cap, rfl, hr⟩ := h
  cases ao with
  | none =>
    have e : l = [] := by
      cases l with
      | nil => rfl
      | cons b l =>
        obtain ⟨g, o, he, _⟩ := hr 0 (by simp)
        cases he
    subst e
    rw [run_convert_bytes_string w 42 9 5 none _ cap Tryd.underlying42 Tryd.underlying5 Tryd.underlying9]
    simp [Conv.bytesToString, strB]
    rfl
  | some a =>
    have hc : ∀ j (hj : j < (l.map UInt8.ofNat).length), w.cell? (a.add j) = some (.int .u8 ((l.map UInt8.ofNat)[j].toNat : Int)) := by
      intro j hj
      have hj' : j < l.length := by simpa using hj
      obtain ⟨g, o, he, hcell⟩ := hr j hj'
      cases he
      rw [Addr.add_lit, hcell]
      have := hl l[j] (List.getElem_mem hj')
      simp [Nat.mod_eq_of_lt this]
    have := run_convert_bytes_back (P := Tryd.prog) w 42 9 5 a cap (l.map UInt8.ofNat) Tryd.underlying42 Tryd.underlying5 Tryd.underlying9 hc
    rw [List.length_map] at this
    exact this

/-- The marks as they lie in a block. -/
def MrkAt (w : World) (g : Nat) (M : List Mk) : Prop := ∀ j m, M[j]? = some m → w.cell? ⟨g, j * 4, none⟩ = some (.int .u8 (m.sp.1 : Nat)) ∧ w.cell? ⟨g, j * 4 + 1, none⟩ = some (.int .i64 (m.sp.2 : Nat)) ∧ w.cell? ⟨g, j * 4 + 2, none⟩ = some (.int .u8 (m.bt : Nat)) ∧ w.cell? ⟨g, j * 4 + 3, none⟩ = some (.int .i64 (m.fr : Nat))
theorem MrkAt.below {w w' : World} {g B : Nat} {M : List Mk} (h : MrkAt w g M) (hb : Below B w w') (hB : g < B) : MrkAt w' g M := fun j m hm => by
  obtain ⟨h1, h2, h3, h4⟩ := h j m hm
  exact ⟨(hb.cell (p := ⟨g, j * 4, none⟩) hB).trans h1, (hb.cell (p := ⟨g, j * 4 + 1, none⟩) hB).trans h2, (hb.cell (p := ⟨g, j * 4 + 2, none⟩) hB).trans h3, (hb.cell (p := ⟨g, j * 4 + 3, none⟩) hB).trans h4⟩

/-- The marks hang together. -/
structure Links (M : List Mk) : Prop where
  first : ∀ m, M[0]? = some m → m.way = []
  lnk : ∀ (j : Nat) (m : Mk), M[j]? = some m → 0 < j → m.fr < j ∧ m.bt < 256 ∧ ∃ m', M[m.fr]? = some m' ∧ m.way = m'.way ++ [m.bt]
theorem Bfs.links {s0 : Nat × Nat} {M : List Mk} {i : Nat} {D : List Nat} (h : Bfs s0 M i D) : Links M where
  first := fun m hm => by
    obtain ⟨f, h1, _, h3⟩ := h.first
    rw [h1] at hm
    cases hm
    exact h3
  lnk := fun j m hm hj => by
    obtain ⟨l1, _, _, p, hp, hw, _, hn⟩ := h.lnk j m hm hj
    exact ⟨l1, step_lt hn, p, hp, hw⟩

set_option maxRecDepth 100000 in
set_option maxHeartbeats 1000000 in
theorem wayTo_any (g cap i : Nat) (M : List Mk) (m0 : Mk) (w : World) (hM : MrkAt w g M) (hg : g < w.heap.size) (hL : Links M) (hi : M[i]? = some m0) (hlen : M.length ≤ 544) :
    Calls Tryd.prog 26 #[.slice (some ⟨g, 0, none⟩) M.length cap, .int .i64 i] w fun e w' => e = .returned (.string (strB m0.way)) ∧ Below w.heap.size w w' := by
  obtain ⟨i5, hi5, hz50, hz51, hz52⟩ := info_parts info5
  have HM := hide hM
  have HL := hide hL
  have HI := hide hi
  clear hM hL hi
  go_enter Tryd.func26, Tryd.ntmps26
  go_wp2
  go_loopw [1, 5] (fun iv v wr => ∃ (j : Nat) (m : Mk) (acc : List Nat), iv = .int .i64 j ∧ j < M.length ∧ Hid (M[j]? = some m ∧ OwnB wr w.heap.size v acc ∧ m.way ++ acc.reverse = m0.way ∧ (∀ b ∈ acc, b < 256) ∧ acc.length + j ≤ i ∧ Below w.heap.size w wr)) (fun iv _ _ => (intOf iv).toNat)
  case atStart =>
    refine ⟨i, m0, [], rfl, (List.getElem?_eq_some_iff.1 HI.out).1, hide ⟨HI.out, World.ownsRow_nil _ _ _ _, by simp, fun b hb => (by cases hb), by simp, Below.refl _ _⟩⟩
  case round =>
    obtain ⟨j, m, acc, rfl, hj, HH⟩ := hrel
    obtain ⟨hm, hv, hw, h256, hal, hb⟩ := HH.out
    have hil : i < M.length := (List.getElem?_eq_some_iff.1 HI.out).1
    by_cases hlt : 0 < j
    · obtain ⟨hfr, hbt, m', hm', hway⟩ := HL.out.lnk j m hm hlt
      obtain ⟨-, -, q3, q4⟩ := (HM.out.below hb hg) j m hm
      obtain ⟨b, hbb⟩ : ∃ b, m.bt = b := ⟨_, rfl⟩
      obtain ⟨f, hff⟩ : ∃ f, m.fr = f := ⟨_, rfl⟩
      rw [hbb] at q3
      rw [hff] at q4 hfr
      have i1 : (j : Int) > 0 := by omega
      have i2 : (0 : Int) ≤ (j : Int) := by omega
      have i3 : (j : Int) < (M.length : Int) := by omega
      have HX := hide (And.intro hm (And.intro hv (And.intro hw (And.intro h256 (And.intro hal (And.intro hb (And.intro hm' (And.intro hway (And.intro hbb (And.intro hff hbt))))))))))
      clear hm hv hw h256 hb hm' hway hbb hff hbt
      have q4' : ∀ w2 : World, wr.grownBy w2 u5.ownBlock → w2.cell? ⟨g, j * 4 + 3, none⟩ = some (.int .i64 (f : Nat)) := fun w2 hg2 => by
        have hlo : ∀ x, u5.ownBlock = some x → w.heap.size ≤ x := fun x hx => (World.ownsRow.lt HX.out.2.1 x hx).1
        rw [World.cell?_of_block (w := wr) (hg2.block g (Nat.lt_of_lt_of_le hg HX.out.2.2.2.2.2.1.size) (fun e => by have := hlo _ e.symm; omega))]
        exact q4
      have HQ := hide q4'
      clear q4 q4'
      go_wp2_with (at_builtin; refine wpList_append_own_at _ rfl _ _ _ rfl w.heap.size 5 i5 _ 1 1 Tryd.underlying42 hi5 hz50 hz51 hz52 rfl (by omega) u5 acc.length (bytV acc) rfl (World.ownsRow.alloc HX.out.2.1 _) ⟨wr.heap.size, 0, none⟩ 1 1 [.int .u8 (b : Int)] rfl rfl (cell_one_new _ _ _) (bytV_one [b]) (by unfold maxLen; omega) (by omega) (by have := HX.out.2.2.2.2.2.1.size; simp; omega) ?_; intro v' w2 ho hgr hnil hloc; have q4 := HQ.out w2 ((World.grownBy_alloc _ _ _).trans hgr))
      go_roundw
      case rel =>
        obtain ⟨hm, hv, hw, h256, hal, hb, hm', hway, hbb, hff, hbt⟩ := HX.out
        have hlo : ∀ x, u5.ownBlock = some x → w.heap.size ≤ x := fun x hx => (World.ownsRow.lt hv x hx).1
        refine ⟨f, m', acc ++ [b], rfl, by omega, hide ⟨by rw [← hff]; exact hm', ?_, ?_, ?_, by simp; omega, ?_⟩⟩
        · unfold OwnB
          simpa [bytV] using ho
        · rw [← hw, hway, hbb]; simp
        · intro x hx
          rcases List.mem_append.1 hx with hx | hx
          · exact h256 x hx
          · simp at hx; subst hx; omega
        · exact hb.grown ((World.grownBy_alloc _ _ _).trans hgr) hb.size (fun x hx => hlo x hx)
      case measure => simp [intOf]; omega
    · have i1 : ¬ (j : Int) > 0 := by omega
      obtain rfl : j = 0 := by omega
      have hacc : acc.reverse = m0.way := by
        have := HL.out.first m hm
        rw [this] at hw
        simpa using hw
      have hlen5 : acc.length ≤ 4194304 := by omega
      have HX := hide (And.intro hacc (And.intro h256 hb))
      have HV := hide hv
      clear hw hm h256 hb hacc
      rcases Joins.ownsRow_forms hv with ⟨hv0, hn⟩ | ⟨g5, cap5, hv0⟩
      · subst hv0
        clear hv
        have ea : acc = [] := List.eq_nil_of_length_eq_zero hn
        have HA := hide ea
        clear ea hn
        have hcv : ∀ W, (convert 42 9 (.slice none 0 0)).run Tryd.prog W = .ok (.string (strB [])) W := fun W => back_reads (l := []) ⟨none, 0, rfl, fun k hk => by simp at hk⟩ (fun b hb => by cases hb)
        go_wp2_with fail
        refine (rev_none _).mono ?_
        rintro e w1 ⟨rfl, hw1⟩
        obtain rfl := hw1.symm
        go_wp2
        go_ret
        refine ⟨?_, HX.out.2.2⟩
        rw [← HX.out.1, HA.out]
        rfl
      · subst hv0
        clear hv
        go_wp2_with fail
        refine (rev_some g5 cap5 w.heap.size acc _ HV.out hlen5).mono ?_
        rintro e w1 ⟨rfl, ho, d⟩
        have hlo : w.heap.size ≤ g5 := (World.ownsRow.lt HV.out g5 rfl).1
        have hr : OwnB w1 w.heap.size (.slice (some ⟨g5, 0, none⟩) acc.reverse.length cap5) acc.reverse := by rw [List.length_reverse]; exact ho
        have hcv := back_reads hr.reads (fun b hb => HX.out.2.1 b (List.mem_reverse.1 hb))
        rw [List.length_reverse] at hcv
        have HD := hide (HX.out.2.2.trans (d.mono hlo))
        clear ho d hr
        go_wp2
        go_ret
        refine ⟨?_, HD.out⟩
        rw [← HX.out.1]
        rfl
end Go.Proofs.YtgifamdoolcemaaDoor
