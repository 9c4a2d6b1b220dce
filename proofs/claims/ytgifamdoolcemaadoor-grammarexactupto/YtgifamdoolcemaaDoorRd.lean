import Derived.Test.YtgifamdoolcemaaDoorRc
namespace Go.Proofs.YtgifamdoolcemaaDoor
open Go.RowKit Go.Maps

def fldStep (st : List (List Nat) × List Nat) (b : Nat) : List (List Nat) × List Nat := if blk b then (if st.2 = [] then st else (st.1 ++ [st.2], [])) else (st.1, st.2 ++ [b])
def fldAt (l : List Nat) (k : Nat) : List (List Nat) × List Nat := (l.take k).foldl fldStep ([], [])
def fldEnd (st : List (List Nat) × List Nat) : List (List Nat) := if st.2 = [] then st.1 else st.1 ++ [st.2]
def flds (l : List Nat) : List (List Nat) := fldEnd (fldAt l l.length)
theorem fldAt_succ (l : List Nat) (k : Nat) (h : k < l.length) : fldAt l (k + 1) = fldStep (fldAt l k) l[k] := by
  unfold fldAt
  rw [List.take_succ_eq_append_getElem h, List.foldl_append]
  rfl
theorem fld_cur (l : List Nat) (k : Nat) (hk : k ≤ l.length) : (fldAt l k).2.length ≤ k ∧ (l.drop (k - (fldAt l k).2.length)).take (fldAt l k).2.length = (fldAt l k).2 := by
  induction k with
  | zero => simp [fldAt]
  | succ k ih =>
    obtain ⟨h1, h2⟩ := ih (by omega)
    rw [fldAt_succ l k (by omega)]
    unfold fldStep
    split
    · split
      · rename_i he
        rw [he]; simp
      · simp
    · simp only [List.length_append, List.length_singleton]
      refine ⟨by omega, ?_⟩
      have e : k + 1 - ((fldAt l k).2.length + 1) = k - (fldAt l k).2.length := by omega
      rw [e]
      generalize hc : (fldAt l k).2.length = c at *
      have hd : c < (l.drop (k - c)).length := by rw [List.length_drop]; omega
      rw [List.take_succ_eq_append_getElem hd, h2]
      simp only [List.getElem_drop]
      congr 2
      congr 1
      omega

def strV (l : List ByteArray) : List Value := l.map .string
theorem strV_one (l : List ByteArray) : ∀ u ∈ strV l, u.oneCell' = true := by
  intro u hu
  obtain ⟨k, _, rfl⟩ := List.mem_map.1 hu
  rfl
def OwnS (w : World) (B : Nat) (v : Value) (l : List ByteArray) : Prop := w.ownsRow B 9 1 v l.length (strV l)
theorem info9 : (Tryd.prog.info? 9).map (fun i => (i.zero, i.size, i.bytes)) = some (some (.string ByteArray.empty), 1, 16) := by kernel_rfl
theorem OwnS.below {w w' : World} {B : Nat} {v : Value} {l : List ByteArray} (h : OwnS w B v l) (hb : Below w.heap.size w w') : OwnS w' B v l :=
  World.ownsRow.kept (row := none) h ⟨hb.os, hb.tape, hb.output, hb.size, fun k hk _ => hb.block k hk⟩ (by cases v.ownBlock <;> simp)

/-- What the loop of fields holds. -/
structure FldL (w w' : World) (s : ByteArray) (v : Value) (L : List ByteArray) (k f : Nat) : Prop where
  own : OwnS w' w.heap.size v L
  len : L.length ≤ k
  mid : k ≤ s.size → L.map bts = (fldAt (bts s) k).1 ∧ f + (fldAt (bts s) k).2.length = k
  fin : k = s.size + 1 → L.map bts = flds (bts s)
  sml : ∀ x ∈ L, x.size ≤ s.size
  bel : Below w.heap.size w w'
theorem bts_cut (s : ByteArray) (k f : Nat) (hk : k ≤ s.size) (h : f + (fldAt (bts s) k).2.length = k) : bts (s.extract f k) = (fldAt (bts s) k).2 := by
  obtain ⟨h1, h2⟩ := fld_cur (bts s) k (by rw [bts_len]; exact hk)
  rw [bts_extract]
  have e : f = k - (fldAt (bts s) k).2.length := by omega
  have e2 : k - f = (fldAt (bts s) k).2.length := by omega
  rw [e2, e]
  exact h2

set_option maxRecDepth 100000 in
set_option maxHeartbeats 2000000 in
theorem fields_any (s : ByteArray) (w : World) (hs : s.size ≤ 2097152) : Calls Tryd.prog 41 #[.string s] w fun e w' => ∃ v L, e = .returned v ∧ OwnS w' w.heap.size v L ∧ L.map bts = flds (bts s) ∧ (∀ x ∈ L, x.size ≤ s.size) ∧ L.length ≤ s.size + 1 ∧ Below w.heap.size w w' := by
  obtain ⟨i9, hi9, hz90, hz91, hz92⟩ := info_parts info9
  have HL := hide (bts_len s)
  go_enter Tryd.func41, Tryd.ntmps41
  go_wp2
  go_loopw [3, 4, 5] (fun v fv iv wr => ∃ (k f : Nat) (L : List ByteArray), k ≤ s.size + 1 ∧ f ≤ k ∧ L.length ≤ k ∧ fv = .int .i64 f ∧ iv = .int .i64 k ∧ Hid (FldL w wr s v L k f)) (fun _ _ iv _ => s.size + 1 - (intOf iv).toNat)
  case atStart =>
    refine ⟨0, 0, [], Nat.zero_le _, Nat.le_refl _, Nat.le_refl _, rfl, rfl, hide ⟨World.ownsRow_nil _ _ _ _, Nat.le_refl _, fun _ => ⟨rfl, rfl⟩, fun h => by omega, fun x hx => (by cases hx), Below.refl _ _⟩⟩
  case round =>
    obtain ⟨k, f, L, hk, hfk, hLk, rfl, rfl, HH⟩ := hrel
    by_cases hle : k ≤ s.size
    · have j1 : (k : Int) ≤ (s.size : Int) := by omega
      have k0 : (0 : Int) ≤ (k : Int) := by omega
      have f0 : (0 : Int) ≤ (f : Int) := by omega
      have f1 : (f : Int) ≤ (k : Int) := by omega
      obtain ⟨m1, m2⟩ := HH.out.mid hle
      have hcut := bts_cut s k f hle m2
      have hsx : (s.extract f k).size ≤ s.size := by rw [ByteArray.size_extract]; omega
      by_cases heq : k = s.size
      · subst heq
        have j2 : ((s.size : Int) == (s.size : Int)) = true := by rw [beq_iff_eq]
        by_cases hgt : f < s.size
        · have j3 : (s.size : Int) > (f : Int) := by omega
          have HN : Hid ((L ++ [s.extract f s.size]).map bts = flds (bts s)) := hide (by
            rw [List.map_append, m1]
            simp only [List.map_cons, List.map_nil, hcut]
            unfold flds fldEnd
            rw [HL.out, if_neg (fun e => by rw [e] at m2; simp at m2; omega)])
          clear m1 m2 hcut
          go_wp2_with (at_builtin; refine wpList_append_own_at _ rfl _ _ _ rfl w.heap.size 9 i9 _ 1 16 Tryd.underlying73 hi9 hz90 hz91 hz92 rfl (by omega) u3 L.length (strV L) rfl (World.ownsRow.alloc HH.out.own _) ⟨wr.heap.size, 0, none⟩ 1 1 [.string (s.extract f s.size)] rfl rfl (cell_one_new _ _ _) (strV_one [s.extract f s.size]) (by unfold maxLen; omega) (by omega) (by have := HH.out.bel.size; simp; omega) ?_; intro v' w2 ho hgr hnil hloc)
          go_roundw
          case rel =>
            refine ⟨s.size + 1, s.size + 1, L ++ [s.extract f s.size], by omega, by omega, by simp; omega, by go_num, by go_num, hide ⟨?_, by simp; omega, fun h => by omega, fun _ => HN.out, ?_, ?_⟩⟩
            · unfold OwnS
              simpa [strV] using ho
            · intro x hx
              rcases List.mem_append.1 hx with hx | hx
              · exact HH.out.sml x hx
              · simp at hx; subst hx; exact hsx
            · exact HH.out.bel.grown ((World.grownBy_alloc _ _ _).trans hgr) HH.out.bel.size (fun x hx => (World.ownsRow.lt HH.out.own x hx).1)
          case measure => simp [intOf]
        · have j3 : ¬ (s.size : Int) > (f : Int) := by omega
          have HN : Hid (L.map bts = flds (bts s)) := hide (by
            rw [m1]
            unfold flds fldEnd
            rw [HL.out, if_pos (List.eq_nil_of_length_eq_zero (by omega))])
          clear m1 m2 hcut
          go_wp2
          go_roundw
          case rel => exact ⟨s.size + 1, s.size + 1, L, by omega, by omega, by omega, by go_num, by go_num, hide ⟨HH.out.own, by omega, fun h => by omega, fun _ => HN.out, HH.out.sml, HH.out.bel⟩⟩
          case measure => simp [intOf]
      · have hlt : k < s.size := by omega
        have j2 : ((k : Int) == (s.size : Int)) = false := by rw [beq_eq_false_iff_ne]; omega
        have hkl : k < (bts s).length := by rw [bts_len]; exact hlt
        have hix := idx_b s k hlt
        have hstep := fldAt_succ (bts s) k hkl
        obtain ⟨b, hb⟩ : ∃ b, (bts s)[k]'hkl = b := ⟨_, rfl⟩
        rw [hb] at hix hstep
        clear hb
        cases hbl : blk b
        · have HN : Hid (L.map bts = (fldAt (bts s) (k + 1)).1 ∧ f + (fldAt (bts s) (k + 1)).2.length = k + 1) := hide (by
            rw [hstep]
            unfold fldStep
            rw [hbl]
            simp only [Bool.false_eq_true, if_false, List.length_append, List.length_singleton]
            exact ⟨m1, by omega⟩)
          clear m1 m2 hcut hstep
          go_wp2_with (go_at_call 32; refine (blank_any b _).mono ?_; rintro e w' ⟨rfl, hw'⟩; obtain rfl := hw'.symm; rw [hbl])
          go_roundw
          case rel => exact ⟨k + 1, f, L, by omega, by omega, by omega, rfl, by go_num, hide ⟨HH.out.own, by omega, fun _ => HN.out, fun h => by omega, HH.out.sml, HH.out.bel⟩⟩
          case measure => simp [intOf]; omega
        · by_cases hgt : f < k
          · have j3 : (k : Int) > (f : Int) := by omega
            have HN : Hid ((L ++ [s.extract f k]).map bts = (fldAt (bts s) (k + 1)).1 ∧ k + 1 + (fldAt (bts s) (k + 1)).2.length = k + 1) := hide (by
              rw [hstep]
              unfold fldStep
              rw [hbl, if_pos rfl, if_neg (fun e => by rw [e] at m2; simp at m2; omega)]
              simp [m1, hcut])
            clear m1 m2 hcut hstep
            go_wp2_with (first
              | (go_at_call 32; refine (blank_any b _).mono ?_; rintro e w' ⟨rfl, hw'⟩; obtain rfl := hw'.symm; rw [hbl])
              | (at_builtin; refine wpList_append_own_at _ rfl _ _ _ rfl w.heap.size 9 i9 _ 1 16 Tryd.underlying73 hi9 hz90 hz91 hz92 rfl (by omega) u3 L.length (strV L) rfl (World.ownsRow.alloc HH.out.own _) ⟨wr.heap.size, 0, none⟩ 1 1 [.string (s.extract f k)] rfl rfl (cell_one_new _ _ _) (strV_one [s.extract f k]) (by unfold maxLen; omega) (by omega) (by have := HH.out.bel.size; simp; omega) ?_; intro v' w2 ho hgr hnil hloc))
            go_roundw
            case rel =>
              refine ⟨k + 1, k + 1, L ++ [s.extract f k], by omega, by omega, by simp; omega, by go_num, by go_num, hide ⟨?_, by simp; omega, fun _ => HN.out, fun h => by omega, ?_, ?_⟩⟩
              · unfold OwnS
                simpa [strV] using ho
              · intro x hx
                rcases List.mem_append.1 hx with hx | hx
                · exact HH.out.sml x hx
                · simp at hx; subst hx; exact hsx
              · exact HH.out.bel.grown ((World.grownBy_alloc _ _ _).trans hgr) HH.out.bel.size (fun x hx => (World.ownsRow.lt HH.out.own x hx).1)
            case measure => simp [intOf]; omega
          · have j3 : ¬ (k : Int) > (f : Int) := by omega
            have HN : Hid (L.map bts = (fldAt (bts s) (k + 1)).1 ∧ k + 1 + (fldAt (bts s) (k + 1)).2.length = k + 1) := hide (by
              have hnil : (fldAt (bts s) k).2 = [] := List.eq_nil_of_length_eq_zero (by omega)
              rw [hstep]
              unfold fldStep
              rw [hbl, if_pos rfl, if_pos hnil]
              exact ⟨m1, by rw [hnil]; rfl⟩)
            clear m1 m2 hcut hstep
            go_wp2_with (go_at_call 32; refine (blank_any b _).mono ?_; rintro e w' ⟨rfl, hw'⟩; obtain rfl := hw'.symm; rw [hbl])
            go_roundw
            case rel => exact ⟨k + 1, k + 1, L, by omega, by omega, by omega, by go_num, by go_num, hide ⟨HH.out.own, by omega, fun _ => HN.out, fun h => by omega, HH.out.sml, HH.out.bel⟩⟩
            case measure => simp [intOf]; omega
    · have j1 : ¬ (k : Int) ≤ (s.size : Int) := by omega
      have hke : k = s.size + 1 := by omega
      have HK := hide hke
      clear hke
      go_wp2
      go_ret
      exact ⟨_, rfl, L, HH.out.own, HH.out.fin HK.out, HH.out.sml, by have := HK.out; omega, HH.out.bel⟩
end Go.Proofs.YtgifamdoolcemaaDoor
