import Derived.Test.YtnfdifkcchciaaaDoorRen
namespace Go.Proofs.YtnfdifkcchciaaaDoor
open Go.RowKit Go.Maps

theorem ren1_mem {f t : List ByteArray} {s : ByteArray} : ren1 f t s = s ∨ ren1 f t s ∈ t := by
  unfold ren1
  by_cases h : f.contains s = true
  · rw [if_pos h, List.getD_eq_getElem?_getD]
    by_cases hi : f.idxOf s < t.length
    · rw [List.getElem?_eq_getElem hi]; exact .inr (List.getElem_mem hi)
    · rw [List.getElem?_eq_none (by omega)]; exact .inl rfl
  · rw [if_neg h]; exact .inl rfl
theorem ren_small {l f t : List ByteArray} (hl : ∀ s ∈ l, s.size ≤ 1048576) (ht : ∀ s ∈ t, s.size ≤ 1048576) : ∀ s ∈ renL l f t, s.size ≤ 1048576 := by
  intro s hs
  obtain ⟨x, hx, rfl⟩ := List.mem_map.1 hs
  rcases ren1_mem (f := f) (t := t) (s := x) with h | h
  · rw [h]; exact hl x hx
  · exact ht _ h

theorem once_no (v : Value) (l : List ByteArray) (w : World) (h : StrS w v l) (hs : l.length ≤ 4194304) (hn : ¬ l.Nodup) :
    Calls Tryd.prog 45 #[v] w fun e w' => e = .returned (.int .i64 21) ∧ w' = w :=
  (once_any v l w h hs).mono fun _ _ h => ⟨by rw [h.1, if_neg hn], h.2⟩
theorem once_yes (v : Value) (l : List ByteArray) (w : World) (h : StrS w v l) (hs : l.length ≤ 4194304) (hn : l.Nodup) :
    Calls Tryd.prog 45 #[v] w fun e w' => e = .returned (.int .i64 0) ∧ w' = w :=
  (once_any v l w h hs).mono fun _ _ h => ⟨by rw [h.1, if_pos hn], h.2⟩
theorem place_no (v : Value) (l : List ByteArray) (s : ByteArray) (w : World) (h : StrS w v l) (hs : l.length ≤ 4194304) (hn : s ∉ l) :
    Calls Tryd.prog 18 #[v, .string s] w fun e w' => e = .returned (.int .i64 (-1)) ∧ w' = w :=
  (place_ref v l s w h hs).mono fun _ _ h => ⟨by rw [h.1, plc_not hn], h.2⟩
theorem place_yes (v : Value) (l : List ByteArray) (s : ByteArray) (m : Nat) (w : World) (h : StrS w v l) (hs : l.length ≤ 4194304) (hn : s ∈ l) (hm : l.idxOf s = m) :
    Calls Tryd.prog 18 #[v, .string s] w fun e w' => e = .returned (.int .i64 (m : Int)) ∧ w' = w :=
  (place_ref v l s w h hs).mono fun _ _ h => ⟨by rw [h.1, plc_mem hn, hm], h.2⟩

/-- What is known of the three lists of a renaming. -/
structure Und (w : World) (v vf vt : Value) (l f t : List ByteArray) : Prop where
  rl : StrS w v l
  rf : StrS w vf f
  rt : StrS w vt t
  sl : Sml l
  sf : Sml f
  st : Sml t
  T : BytesAt w
  W : 0 < w.heap.size
theorem Und.below {w w' : World} {v vf vt : Value} {l f t : List ByteArray} (h : Und w v vf vt l f t) (d : Below w.heap.size w w') : Und w' v vf vt l f t :=
  ⟨h.rl.below d, h.rf.below d, h.rt.below d, h.sl, h.sf, h.st, h.T.below d h.W, Nat.lt_of_lt_of_le h.W d.size⟩

set_option maxRecDepth 100000 in
set_option maxHeartbeats 1000000 in
theorem undone_any (v vf vt : Value) (l f t : List ByteArray) (w : World) (U : Hid (Und w v vf vt l f t)) (hv : Hid (l.all vld = true ∧ l.Nodup)) :
    Calls Tryd.prog 19 #[v, vf, vt] w fun e w' => e = .returned (.bool true) ∧ Below w.heap.size w w' := by
  by_cases hlen : f.length = t.length
  · have HH := hide hlen
    clear hlen
    obtain ⟨R, hR⟩ : ∃ R, R = renL l f t := ⟨_, rfl⟩
    have HR := hide hR
    clear hR
    obtain ⟨al, cl, hvl, rl⟩ := U.out.rl
    subst hvl
    have HL := hide rl
    have ll := U.out.sl.1
    clear rl
    go_enter Tryd.func19, Tryd.ntmps19
    go_wp2_with fail
    refine (rename_eq _ vf vt l f t _ U.out.rl U.out.rf U.out.rt HH.out U.out.sl U.out.sf R HR (by rw [HR.out]; exact ren_small U.out.sl.2 U.out.st.2) U.out.T U.out.W).mono ?_
    rintro e w1 ⟨⟨vR, c, rfl, hro⟩, d1⟩
    by_cases hc : c = 0
    · subst hc
      have hro' : R.all vld = true ∧ R.Nodup ∧ OwnS w1 w.heap.size vR R := by
        rcases hro with ⟨h1, h2, _, h4⟩ | ⟨_, h⟩
        · exact ⟨h1, h2, h4⟩
        · exact absurd rfl h
      have HO := hide hro'
      have HD := hide d1
      have U1 := hide (U.out.below d1)
      clear hro hro' d1
      by_cases nf : f.Nodup
      · by_cases nt : t.Nodup
        · have NN := hide (And.intro nf nt)
          clear nf nt
          go_wp2_with fail
          refine (once_yes vf f _ U1.out.rf U1.out.sf.1 NN.out.1).mono ?_
          rintro e w2 ⟨rfl, rfl⟩
          go_wp2_with fail
          refine (once_yes vt t _ U1.out.rt U1.out.st.1 NN.out.2).mono ?_
          rintro e w2 ⟨rfl, rfl⟩
          go_wp2
          go_loopw [33] (fun i wr => ∃ k : Nat, k ≤ l.length ∧ i = .int .i64 k ∧ Hid (∀ j (h : j < l.length), j < k → l[j] ∉ f → l[j] ∉ t) ∧ wr = w2) (fun i _ => l.length - (intOf i).toNat)
          case atStart => exact ⟨0, Nat.zero_le _, rfl, hide (fun j _ hj => absurd hj (Nat.not_lt_zero _)), rfl⟩
          case round =>
            obtain ⟨k, hk, rfl, hn, rfl⟩ := hrel
            by_cases hlt : k < l.length
            · obtain ⟨g, o, rfl, q1⟩ := (HL.out.below HD.out) k hlt
              have i0 : (0 : Int) ≤ (k : Int) := by omega
              have i2 : (k : Int) < (l.length : Int) := by omega
              obtain ⟨s, hs⟩ : ∃ s, s = l[k] := ⟨_, rfl⟩
              rw [← hs] at q1
              by_cases hf : s ∈ f
              · obtain ⟨m, hm⟩ : ∃ m, f.idxOf s = m := ⟨_, rfl⟩
                have j0 : ¬ (m : Int) < 0 := by omega
                have HF := hide (And.intro hf (And.intro hm hs))
                clear hf hm hs
                go_wp2_with (go_at_call 18; refine (place_yes vf f s m _ U1.out.rf U1.out.sf.1 HF.out.1 HF.out.2.1).mono ?_; rintro e w' ⟨rfl, rfl⟩)
                go_roundw
                case rel => exact ⟨k + 1, by omega, by go_num, hide (fun j hj hjk => if e : j = k then fun h => by subst e; rw [← HF.out.2.2] at h; exact absurd HF.out.1 h else hn.out j hj (by omega)), by trivial⟩
                case measure => simp [intOf]; omega
              · by_cases ht : s ∈ t
                · obtain ⟨m, hm⟩ : ∃ m, t.idxOf s = m := ⟨_, rfl⟩
                  have j0 : (m : Int) ≥ 0 := by omega
                  have HF := hide (And.intro hf (And.intro ht hm))
                  clear hf ht hm hs
                  go_wp2_with fail
                  refine (place_no vf f s _ U1.out.rf U1.out.sf.1 HF.out.1).mono ?_
                  rintro e w' ⟨rfl, rfl⟩
                  go_wp2_with fail
                  refine (place_yes vt t s m _ U1.out.rt U1.out.st.1 HF.out.2.1 HF.out.2.2).mono ?_
                  rintro e w' ⟨rfl, rfl⟩
                  go_wp2
                  go_ret
                  exact ⟨rfl, HD.out⟩
                · have HF := hide (And.intro hf (And.intro ht hs))
                  clear hf ht hs
                  go_wp2_with fail
                  refine (place_no vf f s _ U1.out.rf U1.out.sf.1 HF.out.1).mono ?_
                  rintro e w' ⟨rfl, rfl⟩
                  go_wp2_with fail
                  refine (place_no vt t s _ U1.out.rt U1.out.st.1 HF.out.2.1).mono ?_
                  rintro e w' ⟨rfl, rfl⟩
                  go_wp2
                  go_roundw
                  case rel => exact ⟨k + 1, by omega, by go_num, hide (fun j hj hjk => if e : j = k then fun _ => by subst e; rw [← HF.out.2.2]; exact HF.out.2.1 else hn.out j hj (by omega)), by trivial⟩
                  case measure => simp [intOf]; omega
            · have i2 : ¬ (k : Int) < (l.length : Int) := by omega
              have hall : ∀ s ∈ l, s ∉ f → s ∉ t := fun s hs => by
                obtain ⟨j, hj, rfl⟩ := List.getElem_of_mem hs
                exact hn.out j hj (by omega)
              have hback : l = renL R t f := by rw [HR.out]; exact (ren_back l f t HH.out NN.out.1 NN.out.2 hall).symm
              have HB := hide hback
              have hRl : R.length ≤ 4194304 := by rw [HR.out, renL_length]; exact ll
              have HRL := hide hRl
              clear hall hback hRl
              go_wp2_with fail
              refine (rename_eq vR vt vf R t f _ HO.out.2.2.str U1.out.rt U1.out.rf HH.out.symm ⟨HRL.out, by rw [HR.out]; exact ren_small U.out.sl.2 U.out.st.2⟩ U1.out.st l HB U1.out.sl.2 U1.out.T U1.out.W).mono ?_
              rintro e w3 ⟨⟨vb, c, rfl, hro⟩, d3⟩
              have hro' : c = 0 ∧ OwnS w3 wr.heap.size vb l := by
                rcases hro with ⟨_, _, h3, h4⟩ | ⟨h, _⟩
                · exact ⟨h3, h4⟩
                · exact absurd hv.out h
              obtain ⟨rfl, ho⟩ := hro'
              have HO3 := hide (And.intro ho d3)
              clear hro ho d3
              go_wp2_with fail
              refine (same_any vb _ l _ HO3.out.1.str (U1.out.rl.below HO3.out.2) ll).mono ?_
              rintro e w4 ⟨rfl, d4⟩
              have D4 := HD.out.trans ((HO3.out.2.trans (d4.mono HO3.out.2.size)).mono HD.out.size)
              clear d4
              go_wp2
              go_ret
              exact ⟨rfl, D4⟩
        · have NN := hide (And.intro nf nt)
          clear nf nt
          go_wp2_with fail
          refine (once_yes vf f _ U1.out.rf U1.out.sf.1 NN.out.1).mono ?_
          rintro e w2 ⟨rfl, rfl⟩
          go_wp2_with fail
          refine (once_no vt t _ U1.out.rt U1.out.st.1 NN.out.2).mono ?_
          rintro e w2 ⟨rfl, rfl⟩
          go_wp2
          go_ret
          exact ⟨rfl, HD.out⟩
      · have NN := hide nf
        clear nf
        go_wp2_with fail
        refine (once_no vf f _ U1.out.rf U1.out.sf.1 NN.out).mono ?_
        rintro e w2 ⟨rfl, rfl⟩
        go_wp2
        go_ret
        exact ⟨rfl, HD.out⟩
    · have hcb : (c != 0) = true := by rw [bne_iff_ne]; exact hc
      have HD := hide d1
      clear hro hc d1
      go_wp2
      go_ret
      exact ⟨rfl, HD.out⟩
  · have HH := hide hlen
    clear hlen
    go_enter Tryd.func19, Tryd.ntmps19
    go_wp2_with fail
    refine (rename_len v vf vt l f t _ U.out.rl U.out.rf U.out.rt HH.out).mono ?_
    rintro e w1 ⟨rfl, d1⟩
    go_wp2
    go_ret
    exact ⟨rfl, d1⟩

end Go.Proofs.YtnfdifkcchciaaaDoor
