import Derived.Test.YtfoahpideglghaaGreatDoorRs
import Derived.Test.YtfoahpideglghaaGreatDoorTv
import Derived.Test.YtfoahpideglghaaGreatDoorMM
namespace Go.Proofs.YtfoahpideglghaaGreatDoor
open Go.RowKit Go.Maps Go.Shelf
attribute [local go_sem] Oper.semAt_some

/-! ### The document's With and Set -/
theorem own_below {W W' : World} {B n sz : Nat} {e : TypeId} {v : Value} {xs : List Value} (h : W.ownsRow B e sz v n xs) (d : Below W.heap.size W W') : W'.ownsRow B e sz v n xs := by
  refine ⟨h.1, ?_⟩
  rcases h.2 with h1 | ⟨g, cap, cur, hv, hb, hg, rest⟩
  · exact Or.inl h1
  · exact Or.inr ⟨g, cap, cur, hv, hb, blk_on hg d, rest⟩
theorem own_slice {W : World} {B n sz : Nat} {e : TypeId} {v : Value} {xs : List Value} (h : W.ownsRow B e sz v n xs) : ∃ b c, v = .slice b n c := by
  rcases h.2 with ⟨hv, hn⟩ | ⟨g, cap, cur, hv, _⟩
  · exact ⟨none, 0, by rw [hv, hn]⟩
  · exact ⟨_, cap, hv⟩
theorem own_rdN {W : World} {B c : Nat} {b : Option Addr} {X : List Int} (h : W.ownsRow B 3 1 (.slice b X.length c) X.length (X.map (Value.int .i64))) : RdN W b X := by
  obtain ⟨b', c', hv, hD⟩ := rd_own h
  cases hv
  exact hD
/-- Another block written: a row stays. -/
theorem own_keep {W W' : World} {B n sz p : Nat} {e t : TypeId} {v : Value} {xs : List Value} {cs : Array Value} (h : W.ownsRow B e sz v n xs) (z : W.heap[p]? = some (.cells cs t (0, 0))) (ne : e ≠ t) (o : Only W W' (fun k => k = p)) : W'.ownsRow B e sz v n xs := by
  refine ⟨h.1, ?_⟩
  rcases h.2 with h1 | ⟨g, cap, cur, hv, hb, hg, rest⟩
  · exact Or.inl h1
  · refine Or.inr ⟨g, cap, cur, hv, hb, o.cellK hg (fun e2 => ?_), rest⟩
    subst e2
    rw [z] at hg
    injection hg with hg
    injection hg with _ h2 _
    exact ne h2.symm
theorem one_cells {W : World} {v : Value} {t : TypeId} {p : Nat} (z : W.heap[p]? = some (.cells #[v] t (0, 0))) : ∀ (j : Nat) (u : Value), [v][j]? = some u → W.cell? ((⟨p, 0, none⟩ : Addr).add j) = some u := fun j u hu => by
  cases j with
  | zero =>
    obtain rfl : v = u := by simpa using hu
    rw [Addr.add_lit]
    exact cell_of z rfl
  | succ j => simp at hu
/-- A number behind a row of one's own. -/
theorem wpList_appI {ops : Array Oper} {rest : List Oper} {o : Oper} {a : Act} {Q : Exit → Act → World → Prop} {w : World} (hgd : o.guard = none) (s x : Operand)
    (ho : o.op = .call { callee := .builtin .append, args := #[s, x], argTypes := #[22, 22] }) (B : Nat) (v : Value) (X : List Int) (hs : a.eval s = v) (hown : w.ownsRow B 3 1 v X.length (X.map (Value.int .i64))) (p : Nat) (y : Int) (hx : a.eval x = .slice (some ⟨p, 0, none⟩) 1 1) (hp : w.heap[p]? = some (.cells #[.int .i64 y] 3 (0, 0))) (hl : X.length ≤ 16777216) (w0 : World) (D : Below B w0 w) (hB : B ≤ w0.heap.size)
    (h : ∀ v' w', Hid (w'.ownsRow B 3 1 v' (X ++ [y]).length ((X ++ [y]).map (Value.int .i64))) → Hid (Below B w0 w') → wpList Tryz.prog ops Q rest (a.put o.dst v') w') : wpList Tryz.prog ops Q (o :: rest) a w := by
  obtain ⟨i3, hi3, hz30, hz31, hz32⟩ := info_parts info3
  have hs0 := D.size
  refine wpList_append_own_at _ hgd s x 22 ho B 3 i3 _ 1 8 Tryz.underlying22 hi3 hz30 hz31 hz32 rfl (by omega) v X.length (X.map (Value.int .i64)) hs hown ⟨p, 0, none⟩ 1 1 [.int .i64 y] hx rfl (one_cells hp) (by simp [Value.oneCell']) (by unfold maxLen; omega) (by omega) (by omega) ?_
  intro v2 w2 h2 hgr _ _
  have hb := hown.lt
  exact h v2 w2 (hide (by rw [List.map_append, List.length_append]; exact h2)) (hide (D.grown hgr (by omega) (fun k hk => (hb k hk).1)))
def stepW (n : Int) (s : Bool × List Int) (x : Int) : Bool × List Int :=
  let t : Bool × List Int := if s.1 = false ∧ n ≤ x then (true, s.2 ++ [n]) else s
  if x = n then t else (t.1, t.2 ++ [x])
def wS (n : Int) (L : List Int) : Bool × List Int := L.foldl (stepW n) (false, [])
def withF (L : List Int) (n : Int) : List Int := if (wS n L).1 then (wS n L).2 else (wS n L).2 ++ [n]
theorem wS_take {n : Int} {L : List Int} {i : Nat} (h : i < L.length) : wS n (L.take (i + 1)) = stepW n (wS n (L.take i)) L[i] := by
  unfold wS
  rw [List.take_succ_eq_append_getElem h, List.foldl_append]
  rfl
theorem stepW_len (n : Int) (s : Bool × List Int) (x : Int) : (stepW n s x).2.length ≤ s.2.length + 2 := by
  unfold stepW
  simp only
  split <;> split <;> simp <;> omega
theorem foldW_len (n : Int) : ∀ (L : List Int) (s : Bool × List Int), (L.foldl (stepW n) s).2.length ≤ s.2.length + 2 * L.length
  | [], s => by simp
  | x :: L, s => by
    have h1 := stepW_len n s x
    have h2 := foldW_len n L (stepW n s x)
    simp only [List.foldl_cons, List.length_cons]
    omega
theorem wS_len (n : Int) (L : List Int) (i : Nat) : (wS n (L.take i)).2.length ≤ 2 * L.length := by
  have h := foldW_len n (L.take i) (false, [])
  have h2 : (L.take i).length ≤ L.length := by rw [List.length_take]; omega
  unfold wS
  simp only [List.length_nil] at h
  omega
set_option maxRecDepth 100000 in
set_option maxHeartbeats 4000000 in
theorem with_any (w : World) (ao : Option Addr) (L : List Int) (cp : Nat) (n : Int) (hr : Hid (RdN w ao L)) (hl : L.length ≤ 4194304) :
    Calls Tryz.prog 103 #[.slice ao L.length cp, .int .i64 n] w fun e w' => ∃ b c, e = .returned (.slice b (withF L n).length c) ∧ Hid (w'.ownsRow w.heap.size 3 1 (.slice b (withF L n).length c) (withF L n).length ((withF L n).map (Value.int .i64))) ∧ Below w.heap.size w w' := by
  go_enter Tryz.func103, Tryz.ntmps103
  go_wp2
  go_loopw [5, 6, 7] (fun ov pv iv wr => ∃ i : Nat, i ≤ L.length ∧ pv = .bool (wS n (L.take i)).1 ∧ iv = .int .i64 i ∧ Hid (wr.ownsRow w.heap.size 3 1 ov (wS n (L.take i)).2.length ((wS n (L.take i)).2.map (Value.int .i64)) ∧ Below w.heap.size w wr)) (fun _ _ iv _ => L.length - (intOf iv).toNat)
  case atStart => exact ⟨0, Nat.zero_le _, rfl, rfl, hide ⟨World.ownsRow_nil _ _ _ _, Below.refl _ _⟩⟩
  case round =>
    obtain ⟨i, hi, rfl, rfl, HY⟩ := hrel
    by_cases hlt : i < L.length
    · have i0 : (i : Int) < (L.length : Int) := by omega
      have i1 : (0 : Int) ≤ (i : Int) := by omega
      have iw : IntKind.i64.wrap ((i : Int) + 1) = (i : Int) + 1 := by rw [IntKind.wrap_i64]; omega
      have HLn : Hid ((wS n (L.take i)).2.length ≤ 8388608) := hide (by have := wS_len n L i; omega)
      obtain ⟨g, o, hao, q0⟩ := hr.out i hlt
      subst hao
      have QC0 : Hid (∀ w2, Below w.heap.size w w2 → w2.cell? ⟨g, o + i, none⟩ = some (.int .i64 L[i])) := hide (fun w2 d => (d.cell (p := ⟨g, o + i, none⟩) (World.block_lt_of_cell? w _ q0)).trans q0)
      have q := QC0.out wr HY.out.2
      clear q0
      have HS := hide (wS_take (n := n) hlt)
      generalize L[i] = x at q HS QC0
      generalize wS n (L.take i) = s at HY HS HLn ⊢
      obtain ⟨p, X⟩ := s
      simp only at HY HLn ⊢
      have NX : Hid (∀ (p2 : Bool) (X2 : List Int) (v2 : Value) (w2 : World), stepW n (p, X) x = (p2, X2) → w2.ownsRow w.heap.size 3 1 v2 X2.length (X2.map (Value.int .i64)) → Below w.heap.size w w2 → ∃ j : Nat, j ≤ L.length ∧ Value.bool p2 = .bool (wS n (L.take j)).1 ∧ Value.int .i64 ((i : Int) + 1) = .int .i64 j ∧ Hid (w2.ownsRow w.heap.size 3 1 v2 (wS n (L.take j)).2.length ((wS n (L.take j)).2.map (Value.int .i64)) ∧ Below w.heap.size w w2)) := hide (fun p2 X2 v2 w2 e o d => ⟨i + 1, by omega, by rw [HS.out, e], by simp, hide ⟨by rw [HS.out, e]; exact o, d⟩⟩)
      have QC := QC0
      cases p with
      | false =>
        by_cases hge : n ≤ x
        · by_cases he : x = n
          · have b0 : (x != n) = false := by simpa using he
            have HN := hide (show stepW n (false, X) x = (true, X ++ [n]) by simp [stepW, he])
            clear he
            go_wp2_with (at_builtin; refine wpList_appI rfl _ _ rfl w.heap.size u5 X rfl (own_below HY.out.1 ((Below.refl _ _).alloc (Nat.le_refl _) _)) wr.heap.size n rfl (World.alloc_heap_new _ _) (by have := HLn.out; (try simp only [List.length_append, List.length_cons, List.length_nil]); omega) w (HY.out.2.alloc HY.out.2.size _) (Nat.le_refl _) ?_; intro v2 w2 HO2 HD2; have q2 := QC.out w2 HD2.out)
            go_roundw
            case rel => exact NX.out _ _ _ _ HN.out HO2.out HD2.out
            case measure => simp [intOf]; omega
          · have b0 : (x != n) = true := by simpa using he
            have HN := hide (show stepW n (false, X) x = (true, X ++ [n] ++ [x]) by simp [stepW, hge, he])
            clear he
            go_wp2_with (first
              | (at_builtin; refine wpList_appI rfl _ _ rfl w.heap.size u5 X rfl (own_below HY.out.1 ((Below.refl _ _).alloc (Nat.le_refl _) _)) wr.heap.size n rfl (World.alloc_heap_new _ _) (by have := HLn.out; (try simp only [List.length_append, List.length_cons, List.length_nil]); omega) w (HY.out.2.alloc HY.out.2.size _) (Nat.le_refl _) ?_; intro v2 w2 HO2 HD2; have q2 := QC.out w2 HD2.out)
              | (at_builtin; refine wpList_appI rfl _ _ rfl w.heap.size v2 (X ++ [n]) rfl (own_below HO2.out ((Below.refl _ _).alloc (Nat.le_refl _) _)) w2.heap.size x rfl (World.alloc_heap_new _ _) (by have := HLn.out; (try simp only [List.length_append, List.length_cons, List.length_nil]); omega) w (HD2.out.alloc HD2.out.size _) (Nat.le_refl _) ?_; intro v3 w3 HO3 HD3))
            go_roundw
            case rel => exact NX.out _ _ _ _ HN.out HO3.out HD3.out
            case measure => simp [intOf]; omega
        · have he : ¬ x = n := by omega
          have b0 : (x != n) = true := by simpa using he
          have HN := hide (show stepW n (false, X) x = (false, X ++ [x]) by simp [stepW, hge, he])
          clear he
          go_wp2_with (at_builtin; refine wpList_appI rfl _ _ rfl w.heap.size u5 X rfl (own_below HY.out.1 ((Below.refl _ _).alloc (Nat.le_refl _) _)) wr.heap.size x rfl (World.alloc_heap_new _ _) (by have := HLn.out; (try simp only [List.length_append, List.length_cons, List.length_nil]); omega) w (HY.out.2.alloc HY.out.2.size _) (Nat.le_refl _) ?_; intro v2 w2 HO2 HD2)
          go_roundw
          case rel => exact NX.out _ _ _ _ HN.out HO2.out HD2.out
          case measure => simp [intOf]; omega
      | true =>
        by_cases he : x = n
        · have b0 : (x != n) = false := by simpa using he
          have HN := hide (show stepW n (true, X) x = (true, X) by simp [stepW, he])
          clear he
          go_wp2_with fail
          go_roundw
          case rel => exact NX.out _ _ _ _ HN.out HY.out.1 HY.out.2
          case measure => simp [intOf]; omega
        · have b0 : (x != n) = true := by simpa using he
          have HN := hide (show stepW n (true, X) x = (true, X ++ [x]) by simp [stepW, he])
          clear he
          go_wp2_with (at_builtin; refine wpList_appI rfl _ _ rfl w.heap.size u5 X rfl (own_below HY.out.1 ((Below.refl _ _).alloc (Nat.le_refl _) _)) wr.heap.size x rfl (World.alloc_heap_new _ _) (by have := HLn.out; (try simp only [List.length_append, List.length_cons, List.length_nil]); omega) w (HY.out.2.alloc HY.out.2.size _) (Nat.le_refl _) ?_; intro v2 w2 HO2 HD2)
          go_roundw
          case rel => exact NX.out _ _ _ _ HN.out HO2.out HD2.out
          case measure => simp [intOf]; omega
    · have i0 : ¬ (i : Int) < (L.length : Int) := by omega
      have etk : L.take i = L := List.take_of_length_le (by omega)
      have HLn : Hid ((wS n (L.take i)).2.length ≤ 8388608) := hide (by have := wS_len n L i; omega)
      rw [etk] at HY HLn ⊢
      have HF : Hid (withF L n = if (wS n L).1 then (wS n L).2 else (wS n L).2 ++ [n]) := hide rfl
      generalize wS n L = s at HY HF HLn ⊢
      obtain ⟨p, X⟩ := s
      simp only at HY HF HLn ⊢
      cases p with
      | false =>
        go_wp2_with (at_builtin; refine wpList_appI rfl _ _ rfl w.heap.size u5 X rfl (own_below HY.out.1 ((Below.refl _ _).alloc (Nat.le_refl _) _)) wr.heap.size n rfl (World.alloc_heap_new _ _) (by have := HLn.out; (try simp only [List.length_append, List.length_cons, List.length_nil]); omega) w (HY.out.2.alloc HY.out.2.size _) (Nat.le_refl _) ?_; intro v2 w2 HO2 HD2; have HF2 := HF.out; simp only [Bool.false_eq_true, if_false] at HF2; obtain ⟨b, c, hv⟩ := own_slice HO2.out; subst hv; have HF3 := hide HF2; clear HF2)
        refine bodyPost_ret (results_tmp rfl _ _ _) rfl ?_
        exact ⟨b, c, by rw [HF3.out, List.length_append]; rfl, by rw [HF3.out]; exact HO2, HD2.out⟩
      | true =>
        have HF2 := HF.out
        simp only [if_true] at HF2
        have HF3 := hide HF2
        clear HF2
        obtain ⟨b, c, hv⟩ := own_slice HY.out.1
        subst hv
        go_wp2_with fail
        refine bodyPost_ret (results_tmp rfl _ _ _) rfl ?_
        exact ⟨b, c, by rw [HF3.out]; rfl, by rw [HF3.out]; exact hide HY.out.1, HY.out.2⟩
theorem foldW_put (n : Int) : ∀ (X O : List Int), X.foldl (stepW n) (true, O) = (true, O ++ X.filter (fun x => decide (x ≠ n)))
  | [], O => by simp
  | x :: X, O => by
    rw [List.foldl_cons]
    by_cases h : x = n
    · rw [show stepW n (true, O) x = (true, O) by simp [stepW, h], foldW_put n X O]
      simp [h]
    · rw [show stepW n (true, O) x = (true, O ++ [x]) by simp [stepW, h], foldW_put n X (O ++ [x])]
      simp [h]
theorem foldW_up (n : Int) : ∀ (X O : List Int), X.Pairwise (· < ·) → (if (X.foldl (stepW n) (false, O)).1 then (X.foldl (stepW n) (false, O)).2 else (X.foldl (stepW n) (false, O)).2 ++ [n]) = O ++ X.filter (fun x => decide (x < n)) ++ [n] ++ X.filter (fun x => decide (n < x))
  | [], O, _ => by simp
  | x :: X, O, h => by
    rw [List.pairwise_cons] at h
    rw [List.foldl_cons]
    by_cases hx : x < n
    · rw [show stepW n (false, O) x = (false, O ++ [x]) by simp [stepW, show ¬ n ≤ x by omega, show ¬ x = n by omega], foldW_up n X (O ++ [x]) h.2]
      simp [hx, show ¬ n < x by omega]
    · have hgt : ∀ y ∈ X, n < y := fun y hy => by have := h.1 y hy; omega
      have f1 : X.filter (fun x => decide (x < n)) = [] := List.filter_eq_nil_iff.2 fun y hy => by have := hgt y hy; simp; omega
      have f2 : X.filter (fun x => decide (n < x)) = X := List.filter_eq_self.2 fun y hy => by simpa using hgt y hy
      have f3 : X.filter (fun x => decide (x ≠ n)) = X := List.filter_eq_self.2 fun y hy => by have := hgt y hy; simp; omega
      by_cases he : x = n
      · rw [show stepW n (false, O) x = (true, O ++ [n]) by simp [stepW, he], foldW_put, f3]
        simp [f1, f2, he]
      · rw [show stepW n (false, O) x = (true, O ++ [n] ++ [x]) by simp [stepW, he, show n ≤ x by omega], foldW_put, f3]
        simp [f1, f2, hx, show n < x by omega]
theorem with_up {X : List Int} (n : Int) (h : X.Pairwise (· < ·)) : withF X n = X.filter (fun x => decide (x < n)) ++ [n] ++ X.filter (fun x => decide (n < x)) := by
  unfold withF wS
  rw [foldW_up n X [] h, List.nil_append]
theorem rise_nil : riseL [] = [] := List.eq_nil_of_length_eq_zero (Nat.le_zero.1 (riseL_len []))
theorem with_rise (A : List Int) (n : Int) : withF (riseL A) n = riseL (A ++ [n]) := by
  have hs := riseL_ss A
  refine ssL_eq _ _ ?_ (riseL_ss _) fun x => ?_
  · rw [with_up n hs, List.append_assoc, List.pairwise_append]
    refine ⟨hs.filter _, ?_, ?_⟩
    · rw [List.singleton_append, List.pairwise_cons]
      exact ⟨fun y hy => by simpa using (List.mem_filter.1 hy).2, hs.filter _⟩
    · intro a ha b hb
      have h1 : a < n := by simpa using (List.mem_filter.1 ha).2
      rw [List.singleton_append, List.mem_cons] at hb
      rcases hb with rfl | hb
      · exact h1
      · have h2 : n < b := by simpa using (List.mem_filter.1 hb).2
        omega
  · rw [with_up n hs, riseL_iff]
    simp only [List.mem_append, List.mem_filter, List.mem_singleton, decide_eq_true_eq, riseL_iff]
    constructor
    · rintro ((⟨h, _⟩ | h) | ⟨h, _⟩)
      · exact Or.inl h
      · exact Or.inr h
      · exact Or.inl h
    · rintro (h | h)
      · rcases Int.lt_trichotomy x n with h1 | h1 | h1
        · exact Or.inl (Or.inl ⟨h, h1⟩)
        · exact Or.inl (Or.inr h1)
        · exact Or.inr ⟨h, h1⟩
      · exact Or.inl (Or.inr h)
set_option maxRecDepth 100000 in
set_option maxHeartbeats 4000000 in
theorem set_any (w : World) (ao : Option Addr) (L : List Int) (cp : Nat) (hr : Hid (RdN w ao L)) (hl : L.length ≤ 4194304) :
    Calls Tryz.prog 72 #[.slice ao L.length cp] w fun e w' => ∃ b c, e = .returned (.slice b (riseL L).length c) ∧ Hid (w'.ownsRow w.heap.size 3 1 (.slice b (riseL L).length c) (riseL L).length ((riseL L).map (Value.int .i64))) ∧ Below w.heap.size w w' := by
  go_enter Tryz.func72, Tryz.ntmps72
  go_wp2
  go_loopw [3, 4] (fun ov iv wr => ∃ i b c, i ≤ L.length ∧ ov = .slice b (riseL (L.take i)).length c ∧ iv = .int .i64 (i : Nat) ∧ Hid (wr.ownsRow w.heap.size 3 1 (.slice b (riseL (L.take i)).length c) (riseL (L.take i)).length ((riseL (L.take i)).map (Value.int .i64)) ∧ Below w.heap.size w wr)) (fun _ iv _ => L.length - (intOf iv).toNat)
  case atStart => exact ⟨0, none, 0, Nat.zero_le _, by rw [List.take_zero, rise_nil]; rfl, rfl, hide ⟨by rw [List.take_zero, rise_nil]; exact World.ownsRow_nil _ _ _ _, Below.refl _ _⟩⟩
  case round =>
    obtain ⟨i, b, c, hi, rfl, rfl, HY⟩ := hrel
    by_cases hlt : i < L.length
    · have i0 : (i : Int) < (L.length : Int) := by omega
      have i1 : (0 : Int) ≤ (i : Int) := by omega
      have iw : IntKind.i64.wrap ((i : Int) + 1) = (i : Int) + 1 := by rw [IntKind.wrap_i64]; omega
      obtain ⟨g, o, hao, q⟩ := (hr.out.on HY.out.2) i hlt
      subst hao
      have hlen : (riseL (L.take i)).length ≤ 4194304 := Nat.le_trans (riseL_len _) (by rw [List.length_take]; omega)
      have T := with_any wr b (riseL (L.take i)) c L[i] (hide (own_rdN HY.out.1)) hlen
      rw [with_rise, ← List.take_succ_eq_append_getElem hlt] at T
      generalize L[i] = x at q T
      generalize riseL (L.take i) = X at HY T ⊢
      clear hlen
      obtain ⟨Y, hY⟩ : ∃ Y, riseL (L.take (i + 1)) = Y := ⟨_, rfl⟩
      rw [hY] at T
      have HE := hide hY
      clear hY
      go_wp2_with (go_at_call 103; refine T.mono ?_; rintro e w2 ⟨b2, c2, rfl, HR, d2⟩; have HD := hide (HY.out.2.trans (d2.mono HY.out.2.size)); have HR2 := hide (owns_down HR.out HY.out.2.size); clear d2 HR)
      go_roundw
      case rel => exact ⟨i + 1, b2, c2, by omega, by rw [HE.out], by go_num, hide ⟨by rw [HE.out]; exact HR2.out, HD.out⟩⟩
      case measure => simp [intOf]; omega
    · have i0 : ¬ (i : Int) < (L.length : Int) := by omega
      have etk : L.take i = L := List.take_of_length_le (by omega)
      rw [etk] at HY ⊢
      go_wp2_with fail
      refine bodyPost_ret (results_tmp rfl _ _ _) rfl ?_
      exact ⟨b, c, rfl, hide HY.out.1, HY.out.2⟩
end Go.Proofs.YtfoahpideglghaaGreatDoor
namespace Go.Proofs.YtfoahpideglghaaGreatDoor
open Go.RowKit Go.Maps Go.Shelf
attribute [local go_sem] Oper.semAt_some

/-! ### The document's merge and Edges -/
set_option maxRecDepth 100000 in
theorem ahead_any (x y : EdT) (w : World) : Calls Tryz.prog 121 #[.agg #[.int .i64 x.1, .int .i64 x.2.1, .int .i64 x.2.2], .agg #[.int .i64 y.1, .int .i64 y.2.1, .int .i64 y.2.2]] w fun e w' => e = .returned (.bool (ltE x y)) ∧ Below w.heap.size w w' := by
  obtain ⟨x0, x1, x2⟩ := x
  obtain ⟨y0, y1, y2⟩ := y
  simp only
  obtain ⟨W0, hW0⟩ : ∃ W0, (w.alloc (.cells #[.int .i64 x0, .int .i64 x1, .int .i64 x2] 59)).alloc (.cells #[.int .i64 y0, .int .i64 y1, .int .i64 y2] 59) = W0 := ⟨_, rfl⟩
  have HD := hide (box2 w #[.int .i64 x0, .int .i64 x1, .int .i64 x2] #[.int .i64 y0, .int .i64 y1, .int .i64 y2] 59)
  rw [hW0] at HD
  have c0 : W0.cell? ⟨w.heap.size, 0, none⟩ = some (.int .i64 x0) := cell_of HD.out.2.1 rfl
  have c1 : W0.cell? ⟨w.heap.size, 1, none⟩ = some (.int .i64 x1) := cell_of HD.out.2.1 rfl
  have c2 : W0.cell? ⟨w.heap.size, 2, none⟩ = some (.int .i64 x2) := cell_of HD.out.2.1 rfl
  have d0 : W0.cell? ⟨w.heap.size + 1, 0, none⟩ = some (.int .i64 y0) := cell_of HD.out.2.2.1 rfl
  have d1 : W0.cell? ⟨w.heap.size + 1, 1, none⟩ = some (.int .i64 y1) := cell_of HD.out.2.2.1 rfl
  have d2 : W0.cell? ⟨w.heap.size + 1, 2, none⟩ = some (.int .i64 y2) := cell_of HD.out.2.2.1 rfl
  go_enter Tryz.func121, Tryz.ntmps121
  by_cases h0 : x0 = y0
  · have e0 : (x0 != y0) = false := by simpa using h0
    by_cases h1 : x1 = y1
    · have e1 : (x1 != y1) = false := by simpa using h1
      have HE : Hid (ltE (x0, x1, x2) (y0, y1, y2) = decide (x2 < y2)) := hide (by unfold ltE; rw [decide_eq_decide]; simp [h0, h1])
      clear h0 h1
      go_wp2
      refine bodyPost_ret (results_tmp rfl _ _ _) rfl ?_
      exact ⟨by rw [HE.out]; rfl, HD.out.1⟩
    · have e1 : (x1 != y1) = true := by simpa using h1
      have HE : Hid (ltE (x0, x1, x2) (y0, y1, y2) = decide (x1 < y1)) := hide (by unfold ltE; rw [decide_eq_decide]; simp [h0, h1])
      clear h0 h1
      go_wp2
      refine bodyPost_ret (results_tmp rfl _ _ _) rfl ?_
      exact ⟨by rw [HE.out]; rfl, HD.out.1⟩
  · have e0 : (x0 != y0) = true := by simpa using h0
    have HE : Hid (ltE (x0, x1, x2) (y0, y1, y2) = decide (x0 < y0)) := hide (by unfold ltE; rw [decide_eq_decide]; simp [h0])
    clear h0
    go_wp2
    refine bodyPost_ret (results_tmp rfl _ _ _) rfl ?_
    exact ⟨by rw [HE.out]; rfl, HD.out.1⟩
theorem three_cells {W : World} {x : EdT} {t : TypeId} {p : Nat} (z : W.heap[p]? = some (.cells #[.int .i64 x.1, .int .i64 x.2.1, .int .i64 x.2.2] t (0, 0))) : ∀ (j : Nat) (u : Value), (encE x)[j]? = some u → W.cell? ((⟨p, 0, none⟩ : Addr).add j) = some u := fun j u hu => by
  rw [Addr.add_lit]
  match j, hu with
  | 0, hu => exact cell_of z (by simpa [encE] using hu)
  | 1, hu => exact cell_of z (by simpa [encE] using hu)
  | 2, hu => exact cell_of z (by simpa [encE] using hu)
  | (j + 3), hu => simp [encE] at hu
/-- An edge behind a row of one's own. -/
theorem wpList_appE {ops : Array Oper} {rest : List Oper} {o : Oper} {a : Act} {Q : Exit → Act → World → Prop} {w : World} (hgd : o.guard = none) (s x : Operand)
    (ho : o.op = .call { callee := .builtin .append, args := #[s, x], argTypes := #[23, 23] }) (B : Nat) (v : Value) (X : List EdT) (hs : a.eval s = v) (hown : w.ownsRow B 59 3 v X.length (X.flatMap encE)) (p : Nat) (y : EdT) (hx : a.eval x = .slice (some ⟨p, 0, none⟩) 1 1) (hp : w.heap[p]? = some (.cells #[.int .i64 y.1, .int .i64 y.2.1, .int .i64 y.2.2] 59 (0, 0))) (hl : X.length ≤ 16777216) (w0 : World) (D : Below B w0 w) (hB : B ≤ w0.heap.size)
    (h : ∀ v' w', Hid (w'.ownsRow B 59 3 v' (X ++ [y]).length ((X ++ [y]).flatMap encE)) → Hid (Below B w0 w') → wpList Tryz.prog ops Q rest (a.put o.dst v') w') : wpList Tryz.prog ops Q (o :: rest) a w := by
  obtain ⟨i5, hi5, hz50, hz51, hz52⟩ := info_parts info59
  have hs0 := D.size
  refine wpList_append_own_at _ hgd s x 23 ho B 59 i5 _ 3 24 Tryz.underlying23 hi5 hz50 hz51 hz52 rfl (by omega) v X.length (X.flatMap encE) hs hown ⟨p, 0, none⟩ 1 1 (encE y) hx rfl (three_cells hp) (by simp [encE, Value.oneCell']) (by unfold maxLen; omega) (by omega) (by omega) ?_
  intro v2 w2 h2 hgr _ _
  have hb := hown.lt
  exact h v2 w2 (hide (by rw [List.flatMap_append, List.length_append]; simpa using h2)) (hide (D.grown hgr (by omega) (fun k hk => (hb k hk).1)))
theorem ite3 {α : Type} {p q r : Prop} [Decidable p] [Decidable q] [Decidable r] (h : ¬ (p ∧ q ∧ r)) (a b : α) : (if p then if q then if r then a else b else b else b) = b := by
  by_cases h1 : p
  · by_cases h2 : q
    · by_cases h3 : r
      · exact absurd ⟨h1, h2, h3⟩ h
      · rw [if_pos h1, if_pos h2, if_neg h3]
    · rw [if_pos h1, if_neg h2]
  · rw [if_neg h1]
def mrgE : List EdT → List EdT → List EdT
  | [], B => B
  | A, [] => A
  | x :: A, y :: B => if ltE x y then x :: mrgE A (y :: B) else if x = y then y :: mrgE A B else y :: mrgE (x :: A) B
termination_by A B => A.length + B.length
theorem mrg_nil (A : List EdT) : mrgE A [] = A := by cases A <;> simp [mrgE]
theorem mrg_a {A B : List EdT} {i k : Nat} (hi : i < A.length) (hk : k < B.length) (h : ltE A[i] B[k] = true) : mrgE (A.drop i) (B.drop k) = A[i] :: mrgE (A.drop (i + 1)) (B.drop k) := by
  rw [List.drop_eq_getElem_cons hi, List.drop_eq_getElem_cons hk, mrgE, if_pos h]
theorem mrg_e {A B : List EdT} {i k : Nat} (hi : i < A.length) (hk : k < B.length) (h : ltE A[i] B[k] = false) (he : A[i] = B[k]) : mrgE (A.drop i) (B.drop k) = B[k] :: mrgE (A.drop (i + 1)) (B.drop (k + 1)) := by
  rw [List.drop_eq_getElem_cons hi, List.drop_eq_getElem_cons hk, mrgE, if_neg (by rw [h]; simp), if_pos he]
theorem mrg_b {A B : List EdT} {i k : Nat} (hi : i < A.length) (hk : k < B.length) (h : ltE A[i] B[k] = false) (he : ¬ A[i] = B[k]) : mrgE (A.drop i) (B.drop k) = B[k] :: mrgE (A.drop i) (B.drop (k + 1)) := by
  rw [List.drop_eq_getElem_cons hi, List.drop_eq_getElem_cons hk, mrgE, if_neg (by rw [h]; simp), if_neg he]
theorem mrg_ea {A B : List EdT} {i k : Nat} (hi : i < A.length) (hk : ¬ k < B.length) : mrgE (A.drop i) (B.drop k) = A[i] :: mrgE (A.drop (i + 1)) (B.drop k) := by
  rw [List.drop_eq_nil_of_le (show B.length ≤ k by omega), mrg_nil, mrg_nil, List.drop_eq_getElem_cons hi]
theorem mrg_eb {A B : List EdT} {i k : Nat} (hi : ¬ i < A.length) (hk : k < B.length) : mrgE (A.drop i) (B.drop k) = B[k] :: mrgE (A.drop i) (B.drop (k + 1)) := by
  rw [List.drop_eq_nil_of_le (show A.length ≤ i by omega), List.drop_eq_getElem_cons hk]
  simp [mrgE]
theorem mrg_len : ∀ (A B : List EdT), (mrgE A B).length ≤ A.length + B.length
  | [], B => by simp [mrgE]
  | x :: A, [] => by simp [mrgE]
  | x :: A, y :: B => by
    rw [mrgE]
    split
    · have := mrg_len A (y :: B); simp only [List.length_cons] at this ⊢; omega
    · split
      · have := mrg_len A B; simp only [List.length_cons]; omega
      · have := mrg_len (x :: A) B; simp only [List.length_cons] at this ⊢; omega
termination_by A B => A.length + B.length
set_option maxRecDepth 100000 in
set_option maxHeartbeats 8000000 in
theorem merge_any (w : World) (aa ab : Option Addr) (A B : List EdT) (ca cb : Nat) (hA : Hid (RdE w aa A)) (hB : Hid (RdE w ab B)) (hla : A.length ≤ 4194304) (hlb : B.length ≤ 4194304) :
    Calls Tryz.prog 104 #[.slice aa A.length ca, .slice ab B.length cb] w fun e w' => ∃ b c, e = .returned (.slice b (mrgE A B).length c) ∧ Hid (w'.ownsRow w.heap.size 59 3 (.slice b (mrgE A B).length c) (mrgE A B).length ((mrgE A B).flatMap encE)) ∧ Below w.heap.size w w' := by
  go_enter Tryz.func104, Tryz.ntmps104
  go_wp2
  go_loopw [5, 6, 7] (fun ov iv kv wr => ∃ i k X, i ≤ A.length ∧ k ≤ B.length ∧ iv = .int .i64 (i : Nat) ∧ kv = .int .i64 (k : Nat) ∧ Hid (wr.ownsRow w.heap.size 59 3 ov X.length (X.flatMap encE) ∧ mrgE A B = X ++ mrgE (A.drop i) (B.drop k) ∧ Below w.heap.size w wr)) (fun _ iv kv _ => A.length + B.length - (intOf iv).toNat - (intOf kv).toNat)
  case atStart => exact ⟨0, 0, [], Nat.zero_le _, Nat.zero_le _, rfl, rfl, hide ⟨World.ownsRow_nil _ _ _ _, by simp, Below.refl _ _⟩⟩
  case round =>
    obtain ⟨i, k, X, hi, hk, rfl, rfl, HY⟩ := hrel
    have HYO := hide HY.out.1
    have HYE := hide HY.out.2.1
    have HYB := hide HY.out.2.2
    clear HY
    have HXL : Hid (X.length ≤ 8388608) := hide (by
      have h1 := mrg_len A B
      have h2 := congrArg List.length HYE.out
      rw [List.length_append] at h2
      omega)
    have iw : IntKind.i64.wrap ((i : Int) + 1) = (i : Int) + 1 := by rw [IntKind.wrap_i64]; omega
    have kw : IntKind.i64.wrap ((k : Int) + 1) = (k : Int) + 1 := by rw [IntKind.wrap_i64]; omega
    have i1 : (0 : Int) ≤ (i : Int) := by omega
    have k1 : (0 : Int) ≤ (k : Int) := by omega
    by_cases hia : i < A.length
    · have i0 : (i : Int) < (A.length : Int) := by omega
      obtain ⟨ga, oa, haa, p1, p2, p3⟩ := hA.out i hia
      subst haa
      have RA : Hid (∀ W, Below w.heap.size w W → W.cell? ⟨ga, oa + i * 3, none⟩ = some (.int .i64 A[i].1) ∧ W.cell? ⟨ga, oa + i * 3 + 1, none⟩ = some (.int .i64 A[i].2.1) ∧ W.cell? ⟨ga, oa + i * 3 + 2, none⟩ = some (.int .i64 A[i].2.2)) := hide (fun W d => ⟨(d.cell (p := ⟨ga, oa + i * 3, none⟩) (World.block_lt_of_cell? w _ p1)).trans p1, (d.cell (p := ⟨ga, oa + i * 3 + 1, none⟩) (World.block_lt_of_cell? w _ p2)).trans p2, (d.cell (p := ⟨ga, oa + i * 3 + 2, none⟩) (World.block_lt_of_cell? w _ p3)).trans p3⟩)
      clear p1 p2 p3
      by_cases hkb : k < B.length
      · have k0 : (k : Int) < (B.length : Int) := by omega
        have kne : ((k : Int) == (B.length : Int)) = false := by simp; omega
        obtain ⟨gb, ob, hbb, p1, p2, p3⟩ := hB.out k hkb
        subst hbb
        have RB : Hid (∀ W, Below w.heap.size w W → W.cell? ⟨gb, ob + k * 3, none⟩ = some (.int .i64 B[k].1) ∧ W.cell? ⟨gb, ob + k * 3 + 1, none⟩ = some (.int .i64 B[k].2.1) ∧ W.cell? ⟨gb, ob + k * 3 + 2, none⟩ = some (.int .i64 B[k].2.2)) := hide (fun W d => ⟨(d.cell (p := ⟨gb, ob + k * 3, none⟩) (World.block_lt_of_cell? w _ p1)).trans p1, (d.cell (p := ⟨gb, ob + k * 3 + 1, none⟩) (World.block_lt_of_cell? w _ p2)).trans p2, (d.cell (p := ⟨gb, ob + k * 3 + 2, none⟩) (World.block_lt_of_cell? w _ p3)).trans p3⟩)
        clear p1 p2 p3
        have NA : Hid (ltE A[i] B[k] = true → mrgE A B = X ++ [A[i]] ++ mrgE (A.drop (i + 1)) (B.drop k)) := hide (fun h => by rw [HYE.out, mrg_a hia hkb h]; simp)
        have NE : Hid (ltE A[i] B[k] = false → A[i] = B[k] → mrgE A B = X ++ [B[k]] ++ mrgE (A.drop (i + 1)) (B.drop (k + 1))) := hide (fun h he => by rw [HYE.out, mrg_e hia hkb h he]; simp)
        have NB : Hid (ltE A[i] B[k] = false → ¬ A[i] = B[k] → mrgE A B = X ++ [B[k]] ++ mrgE (A.drop i) (B.drop (k + 1))) := hide (fun h he => by rw [HYE.out, mrg_b hia hkb h he]; simp)
        generalize A[i] = x at RA NA NE NB
        generalize B[k] = y at RB NA NE NB
        go_upto_region 5 with fail
        go_cut [38] from 18 to 38 (fun v W => v = .bool (ltE x y) ∧ Hid (W.ownsRow w.heap.size 59 3 u5 X.length (X.flatMap encE)) ∧ Hid (Below w.heap.size w W))
        case first =>
          have hmo : MonIL 0 [vI 0 (.int .i64 k), vI 1 (.slice (some ⟨gb, ob, none⟩) B.length cb), vI 2 (.int .i64 (B.length : Int)), vI 3 (.bool false), vI 4 (.bool false), vI 5 (.int .i64 i), vI 6 (.slice (some ⟨ga, oa, none⟩) A.length ca), vI 7 (.int .i64 (A.length : Int)), vI 8 (.bool true), vI 9 (.bool true), vI 10 (.slice (some ⟨ga, oa, none⟩) A.length ca), vI 11 (.int .i64 i), vI 12 (.pointer (some ⟨ga, oa + i * 3, none⟩)), vI 13 (.agg #[.int .i64 x.1, .int .i64 x.2.1, .int .i64 x.2.2]), vI 14 (.slice (some ⟨gb, ob, none⟩) B.length cb), vI 15 (.int .i64 k), vI 16 (.pointer (some ⟨gb, ob + k * 3, none⟩)), vI 17 (.agg #[.int .i64 y.1, .int .i64 y.2.1, .int .i64 y.2.2]), vI 18 (.bool (ltE x y)), vI 19 (.bool (ltE x y)), vI 20 (.bool (ltE x y))] := ⟨vI_mono _ _, vI_mono _ _, vI_mono _ _, vI_mono _ _, vI_mono _ _, vI_mono _ _, vI_mono _ _, vI_mono _ _, vI_mono _ _, vI_mono _ _, vI_mono _ _, vI_mono _ _, vI_mono _ _, vI_mono _ _, vI_mono _ _, vI_mono _ _, vI_mono _ _, vI_mono _ _, vI_mono _ _, vI_mono _ _, vI_mono _ _, trivial⟩
          refine wp_region_sl [vI 0 (.int .i64 k), vI 1 (.slice (some ⟨gb, ob, none⟩) B.length cb), vI 2 (.int .i64 (B.length : Int)), vI 3 (.bool false), vI 4 (.bool false), vI 5 (.int .i64 i), vI 6 (.slice (some ⟨ga, oa, none⟩) A.length ca), vI 7 (.int .i64 (A.length : Int)), vI 8 (.bool true), vI 9 (.bool true), vI 10 (.slice (some ⟨ga, oa, none⟩) A.length ca), vI 11 (.int .i64 i), vI 12 (.pointer (some ⟨ga, oa + i * 3, none⟩)), vI 13 (.agg #[.int .i64 x.1, .int .i64 x.2.1, .int .i64 x.2.2]), vI 14 (.slice (some ⟨gb, ob, none⟩) B.length cb), vI 15 (.int .i64 k), vI 16 (.pointer (some ⟨gb, ob + k * 3, none⟩)), vI 17 (.agg #[.int .i64 y.1, .int .i64 y.2.1, .int .i64 y.2.2]), vI 18 (.bool (ltE x y)), vI 19 (.bool (ltE x y)), vI 20 (.bool (ltE x y))] (by kernel_rfl) (by kernel_rfl) (by kernel_rfl) (by kernel_rfl) hmo ⟨?o0, ?o1, ?o2, ?o3, ?o4, ?o5, ?o6, ?o7, ?o8, ?o9, ?o10, ?o11, ?o12, ?o13, ?o14, ?o15, ?o16, ?o17, ?o18, ?o19, ?o20, trivial⟩ ?fin
          case o0 =>
            intro At yy W hy hb d hd K hK
            have s7 : At.tmps.getD 7 undef = .int .i64 k := hb 7 rfl
            have s7' := s7
            rw [Array.getD_eq_getD_getElem?] at s7'
            clear hd hy hb
            go_simp
            exact hK.out _ W (stp_of hmo d (Below.refl _ _)) (if_pos rfl)
          case o1 =>
            intro At yy W hy hb d hd K hK
            have s1 : At.tmps.getD 1 undef = .slice (some ⟨gb, ob, none⟩) B.length cb := hb 1 rfl
            have s1' := s1
            rw [Array.getD_eq_getD_getElem?] at s1'
            clear hd hy hb
            go_simp
            exact hK.out _ W (stp_of hmo d (Below.refl _ _)) (if_pos rfl)
          case o2 =>
            intro At yy W hy hb d hd K hK
            have e1 : yy 1 = .slice (some ⟨gb, ob, none⟩) B.length cb := by obtain ⟨_, _, _, _, e⟩ := hd ⟨1, .data⟩ (by simp) rfl rfl; exact e
            have s19 := (hy 1 _ 19 rfl rfl).trans e1
            have s19' := s19
            rw [Array.getD_eq_getD_getElem?] at s19'
            clear hd hy hb
            go_simp
            exact hK.out _ W (stp_of hmo d (Below.refl _ _)) (if_pos rfl)
          case o3 =>
            intro At yy W hy hb d hd K hK
            have e0 : yy 0 = .int .i64 k := by obtain ⟨_, _, _, _, e⟩ := hd ⟨0, .data⟩ (by simp) rfl rfl; exact e
            have e2 : yy 2 = .int .i64 (B.length : Int) := by obtain ⟨_, _, _, _, e⟩ := hd ⟨2, .data⟩ (by simp) rfl rfl; exact e
            have s18 := (hy 0 _ 18 rfl rfl).trans e0
            have s18' := s18
            rw [Array.getD_eq_getD_getElem?] at s18'
            have s20 := (hy 2 _ 20 rfl rfl).trans e2
            have s20' := s20
            rw [Array.getD_eq_getD_getElem?] at s20'
            clear hd hy hb
            go_simp
            exact hK.out _ W (stp_of hmo d (Below.refl _ _)) (if_pos rfl)
          case o4 =>
            intro At yy W hy hb d hd K hK
            have e3 : yy 3 = .bool false := by obtain ⟨_, _, _, _, e⟩ := hd ⟨3, .data⟩ (by simp) rfl rfl; exact e
            have s21 := (hy 3 _ 21 rfl rfl).trans e3
            have s21' := s21
            rw [Array.getD_eq_getD_getElem?] at s21'
            clear hd hy hb
            go_simp
            exact hK.out _ W (stp_of hmo d (Below.refl _ _)) (if_pos rfl)
          case o5 =>
            intro At yy W hy hb d hd K hK
            have e4 : yy 4 = .bool false := by obtain ⟨_, _, _, _, e⟩ := hd ⟨4, .guard⟩ (by simp) rfl rfl; exact e
            have s6 : At.tmps.getD 6 undef = .int .i64 i := hb 6 rfl
            have s6' := s6
            rw [Array.getD_eq_getD_getElem?] at s6'
            have s22 := (hy 4 _ 22 rfl rfl).trans e4
            have s22' := s22
            rw [Array.getD_eq_getD_getElem?] at s22'
            have g22 := got_bool s22
            clear hd hy hb
            go_simp
            exact hK.out _ W (stp_of hmo d (Below.refl _ _)) (if_pos rfl)
          case o6 =>
            intro At yy W hy hb d hd K hK
            have e4 : yy 4 = .bool false := by obtain ⟨_, _, _, _, e⟩ := hd ⟨4, .guard⟩ (by simp) rfl rfl; exact e
            have s0 : At.tmps.getD 0 undef = .slice (some ⟨ga, oa, none⟩) A.length ca := hb 0 rfl
            have s0' := s0
            rw [Array.getD_eq_getD_getElem?] at s0'
            have s22 := (hy 4 _ 22 rfl rfl).trans e4
            have s22' := s22
            rw [Array.getD_eq_getD_getElem?] at s22'
            have g22 := got_bool s22
            clear hd hy hb
            go_simp
            exact hK.out _ W (stp_of hmo d (Below.refl _ _)) (if_pos rfl)
          case o7 =>
            intro At yy W hy hb d hd K hK
            have e6 : yy 6 = .slice (some ⟨ga, oa, none⟩) A.length ca := by obtain ⟨_, _, _, _, e⟩ := hd ⟨6, .data⟩ (by simp) rfl rfl; exact e
            have e4 : yy 4 = .bool false := by obtain ⟨_, _, _, _, e⟩ := hd ⟨4, .guard⟩ (by simp) rfl rfl; exact e
            have s22 := (hy 4 _ 22 rfl rfl).trans e4
            have s22' := s22
            rw [Array.getD_eq_getD_getElem?] at s22'
            have s24 := (hy 6 _ 24 rfl rfl).trans e6
            have s24' := s24
            rw [Array.getD_eq_getD_getElem?] at s24'
            have g22 := got_bool s22
            clear hd hy hb
            go_simp
            exact hK.out _ W (stp_of hmo d (Below.refl _ _)) (if_pos rfl)
          case o8 =>
            intro At yy W hy hb d hd K hK
            have e5 : yy 5 = .int .i64 i := by obtain ⟨_, _, _, _, e⟩ := hd ⟨5, .data⟩ (by simp) rfl rfl; exact e
            have e7 : yy 7 = .int .i64 (A.length : Int) := by obtain ⟨_, _, _, _, e⟩ := hd ⟨7, .data⟩ (by simp) rfl rfl; exact e
            have e4 : yy 4 = .bool false := by obtain ⟨_, _, _, _, e⟩ := hd ⟨4, .guard⟩ (by simp) rfl rfl; exact e
            have s22 := (hy 4 _ 22 rfl rfl).trans e4
            have s22' := s22
            rw [Array.getD_eq_getD_getElem?] at s22'
            have s23 := (hy 5 _ 23 rfl rfl).trans e5
            have s23' := s23
            rw [Array.getD_eq_getD_getElem?] at s23'
            have s25 := (hy 7 _ 25 rfl rfl).trans e7
            have s25' := s25
            rw [Array.getD_eq_getD_getElem?] at s25'
            have g22 := got_bool s22
            clear hd hy hb
            go_simp
            exact hK.out _ W (stp_of hmo d (Below.refl _ _)) (if_pos rfl)
          case o9 =>
            intro At yy W hy hb d hd K hK
            have e8 : yy 8 = .bool true := by obtain ⟨_, _, _, _, e⟩ := hd ⟨8, .data⟩ (by simp) rfl rfl; exact e
            have e4 : yy 4 = .bool false := by obtain ⟨_, _, _, _, e⟩ := hd ⟨4, .guard⟩ (by simp) rfl rfl; exact e
            have s22 := (hy 4 _ 22 rfl rfl).trans e4
            have s22' := s22
            rw [Array.getD_eq_getD_getElem?] at s22'
            have s26 := (hy 8 _ 26 rfl rfl).trans e8
            have s26' := s26
            rw [Array.getD_eq_getD_getElem?] at s26'
            have g22 := got_bool s22
            clear hd hy hb
            go_simp
            exact hK.out _ W (stp_of hmo d (Below.refl _ _)) (if_pos rfl)
          case o10 =>
            intro At yy W hy hb d hd K hK
            have e9 : yy 9 = .bool true := by obtain ⟨_, _, _, _, e⟩ := hd ⟨9, .guard⟩ (by simp) rfl rfl; exact e
            have s0 : At.tmps.getD 0 undef = .slice (some ⟨ga, oa, none⟩) A.length ca := hb 0 rfl
            have s0' := s0
            rw [Array.getD_eq_getD_getElem?] at s0'
            have s27 := (hy 9 _ 27 rfl rfl).trans e9
            have s27' := s27
            rw [Array.getD_eq_getD_getElem?] at s27'
            have g27 := got_bool s27
            clear hd hy hb
            go_simp
            exact hK.out _ W (stp_of hmo d (Below.refl _ _)) (if_pos rfl)
          case o11 =>
            intro At yy W hy hb d hd K hK
            have e9 : yy 9 = .bool true := by obtain ⟨_, _, _, _, e⟩ := hd ⟨9, .guard⟩ (by simp) rfl rfl; exact e
            have s6 : At.tmps.getD 6 undef = .int .i64 i := hb 6 rfl
            have s6' := s6
            rw [Array.getD_eq_getD_getElem?] at s6'
            have s27 := (hy 9 _ 27 rfl rfl).trans e9
            have s27' := s27
            rw [Array.getD_eq_getD_getElem?] at s27'
            have g27 := got_bool s27
            clear hd hy hb
            go_simp
            exact hK.out _ W (stp_of hmo d (Below.refl _ _)) (if_pos rfl)
          case o12 =>
            intro At yy W hy hb d hd K hK
            have e10 : yy 10 = .slice (some ⟨ga, oa, none⟩) A.length ca := by obtain ⟨_, _, _, _, e⟩ := hd ⟨10, .data⟩ (by simp) rfl rfl; exact e
            have e11 : yy 11 = .int .i64 i := by obtain ⟨_, _, _, _, e⟩ := hd ⟨11, .data⟩ (by simp) rfl rfl; exact e
            have e9 : yy 9 = .bool true := by obtain ⟨_, _, _, _, e⟩ := hd ⟨9, .guard⟩ (by simp) rfl rfl; exact e
            have s27 := (hy 9 _ 27 rfl rfl).trans e9
            have s27' := s27
            rw [Array.getD_eq_getD_getElem?] at s27'
            have s28 := (hy 10 _ 28 rfl rfl).trans e10
            have s28' := s28
            rw [Array.getD_eq_getD_getElem?] at s28'
            have s29 := (hy 11 _ 29 rfl rfl).trans e11
            have s29' := s29
            rw [Array.getD_eq_getD_getElem?] at s29'
            have g27 := got_bool s27
            clear hd hy hb
            go_simp
            exact hK.out _ W (stp_of hmo d (Below.refl _ _)) (if_pos rfl)
          case o13 =>
            intro At yy W hy hb d hd K hK
            have e12 : yy 12 = .pointer (some ⟨ga, oa + i * 3, none⟩) := by obtain ⟨_, _, _, _, e⟩ := hd ⟨12, .data⟩ (by simp) rfl rfl; exact e
            have e9 : yy 9 = .bool true := by obtain ⟨_, _, _, _, e⟩ := hd ⟨9, .guard⟩ (by simp) rfl rfl; exact e
            have s27 := (hy 9 _ 27 rfl rfl).trans e9
            have s27' := s27
            rw [Array.getD_eq_getD_getElem?] at s27'
            have s30 := (hy 12 _ 30 rfl rfl).trans e12
            have s30' := s30
            rw [Array.getD_eq_getD_getElem?] at s30'
            have g27 := got_bool s27
            clear hd hy hb
            obtain ⟨q1, q2, q3⟩ := RA.out W (HYB.out.trans (d.mono HYB.out.size))
            go_simp
            exact hK.out _ W (stp_of hmo d (Below.refl _ _)) (if_pos rfl)
          case o14 =>
            intro At yy W hy hb d hd K hK
            have e9 : yy 9 = .bool true := by obtain ⟨_, _, _, _, e⟩ := hd ⟨9, .guard⟩ (by simp) rfl rfl; exact e
            have s1 : At.tmps.getD 1 undef = .slice (some ⟨gb, ob, none⟩) B.length cb := hb 1 rfl
            have s1' := s1
            rw [Array.getD_eq_getD_getElem?] at s1'
            have s27 := (hy 9 _ 27 rfl rfl).trans e9
            have s27' := s27
            rw [Array.getD_eq_getD_getElem?] at s27'
            have g27 := got_bool s27
            clear hd hy hb
            go_simp
            exact hK.out _ W (stp_of hmo d (Below.refl _ _)) (if_pos rfl)
          case o15 =>
            intro At yy W hy hb d hd K hK
            have e9 : yy 9 = .bool true := by obtain ⟨_, _, _, _, e⟩ := hd ⟨9, .guard⟩ (by simp) rfl rfl; exact e
            have s7 : At.tmps.getD 7 undef = .int .i64 k := hb 7 rfl
            have s7' := s7
            rw [Array.getD_eq_getD_getElem?] at s7'
            have s27 := (hy 9 _ 27 rfl rfl).trans e9
            have s27' := s27
            rw [Array.getD_eq_getD_getElem?] at s27'
            have g27 := got_bool s27
            clear hd hy hb
            go_simp
            exact hK.out _ W (stp_of hmo d (Below.refl _ _)) (if_pos rfl)
          case o16 =>
            intro At yy W hy hb d hd K hK
            have e14 : yy 14 = .slice (some ⟨gb, ob, none⟩) B.length cb := by obtain ⟨_, _, _, _, e⟩ := hd ⟨14, .data⟩ (by simp) rfl rfl; exact e
            have e15 : yy 15 = .int .i64 k := by obtain ⟨_, _, _, _, e⟩ := hd ⟨15, .data⟩ (by simp) rfl rfl; exact e
            have e9 : yy 9 = .bool true := by obtain ⟨_, _, _, _, e⟩ := hd ⟨9, .guard⟩ (by simp) rfl rfl; exact e
            have s27 := (hy 9 _ 27 rfl rfl).trans e9
            have s27' := s27
            rw [Array.getD_eq_getD_getElem?] at s27'
            have s32 := (hy 14 _ 32 rfl rfl).trans e14
            have s32' := s32
            rw [Array.getD_eq_getD_getElem?] at s32'
            have s33 := (hy 15 _ 33 rfl rfl).trans e15
            have s33' := s33
            rw [Array.getD_eq_getD_getElem?] at s33'
            have g27 := got_bool s27
            clear hd hy hb
            go_simp
            exact hK.out _ W (stp_of hmo d (Below.refl _ _)) (if_pos rfl)
          case o17 =>
            intro At yy W hy hb d hd K hK
            have e16 : yy 16 = .pointer (some ⟨gb, ob + k * 3, none⟩) := by obtain ⟨_, _, _, _, e⟩ := hd ⟨16, .data⟩ (by simp) rfl rfl; exact e
            have e9 : yy 9 = .bool true := by obtain ⟨_, _, _, _, e⟩ := hd ⟨9, .guard⟩ (by simp) rfl rfl; exact e
            have s27 := (hy 9 _ 27 rfl rfl).trans e9
            have s27' := s27
            rw [Array.getD_eq_getD_getElem?] at s27'
            have s34 := (hy 16 _ 34 rfl rfl).trans e16
            have s34' := s34
            rw [Array.getD_eq_getD_getElem?] at s34'
            have g27 := got_bool s27
            clear hd hy hb
            obtain ⟨q1, q2, q3⟩ := RB.out W (HYB.out.trans (d.mono HYB.out.size))
            go_simp
            exact hK.out _ W (stp_of hmo d (Below.refl _ _)) (if_pos rfl)
          case o18 =>
            intro At yy W hy hb d hd K hK
            have e13 : yy 13 = .agg #[.int .i64 x.1, .int .i64 x.2.1, .int .i64 x.2.2] := by obtain ⟨_, _, _, _, e⟩ := hd ⟨13, .data⟩ (by simp) rfl rfl; exact e
            have e17 : yy 17 = .agg #[.int .i64 y.1, .int .i64 y.2.1, .int .i64 y.2.2] := by obtain ⟨_, _, _, _, e⟩ := hd ⟨17, .data⟩ (by simp) rfl rfl; exact e
            have e9 : yy 9 = .bool true := by obtain ⟨_, _, _, _, e⟩ := hd ⟨9, .guard⟩ (by simp) rfl rfl; exact e
            have s27 := (hy 9 _ 27 rfl rfl).trans e9
            have s27' := s27
            rw [Array.getD_eq_getD_getElem?] at s27'
            have s31 := (hy 13 _ 31 rfl rfl).trans e13
            have s31' := s31
            rw [Array.getD_eq_getD_getElem?] at s31'
            have s35 := (hy 17 _ 35 rfl rfl).trans e17
            have s35' := s35
            rw [Array.getD_eq_getD_getElem?] at s35'
            have g27 := got_bool s27
            clear hd hy hb
            go_simp
            go_wp2_with (go_at_call 121; refine (ahead_any x y _).mono ?_; rintro e wa ⟨rfl, da⟩)
            exact hK.out _ wa (stp_of hmo d da) (if_pos rfl)
          case o19 =>
            intro At yy W hy hb d hd K hK
            have e9 : yy 9 = .bool true := by obtain ⟨_, _, _, _, e⟩ := hd ⟨9, .data⟩ (by simp) rfl rfl; exact e
            have e18 : yy 18 = .bool (ltE x y) := by obtain ⟨_, _, _, _, e⟩ := hd ⟨18, .data⟩ (by simp) rfl rfl; exact e
            have e4 : yy 4 = .bool false := by obtain ⟨_, _, _, _, e⟩ := hd ⟨4, .guard⟩ (by simp) rfl rfl; exact e
            have s22 := (hy 4 _ 22 rfl rfl).trans e4
            have s22' := s22
            rw [Array.getD_eq_getD_getElem?] at s22'
            have s27 := (hy 9 _ 27 rfl rfl).trans e9
            have s27' := s27
            rw [Array.getD_eq_getD_getElem?] at s27'
            have s36 := (hy 18 _ 36 rfl rfl).trans e18
            have s36' := s36
            rw [Array.getD_eq_getD_getElem?] at s36'
            have g22 := got_bool s22
            clear hd hy hb
            go_simp
            exact hK.out _ W (stp_of hmo d (Below.refl _ _)) (if_pos rfl)
          case o20 =>
            intro At yy W hy hb d hd K hK
            have e4 : yy 4 = .bool false := by obtain ⟨_, _, _, _, e⟩ := hd ⟨4, .data⟩ (by simp) rfl rfl; exact e
            have e19 : yy 19 = .bool (ltE x y) := by obtain ⟨_, _, _, _, e⟩ := hd ⟨19, .data⟩ (by simp) rfl rfl; exact e
            have s22 := (hy 4 _ 22 rfl rfl).trans e4
            have s22' := s22
            rw [Array.getD_eq_getD_getElem?] at s22'
            have s37 := (hy 19 _ 37 rfl rfl).trans e19
            have s37' := s37
            rw [Array.getD_eq_getD_getElem?] at s37'
            clear hd hy hb
            go_simp
            exact hK.out _ W (stp_of hmo d (Below.refl _ _)) (if_pos rfl)
          case fin =>
            intro yy lo hi W hM
            show wpList _ _ _ [] _ _
            have e0 : yy 0 = .int .i64 k := hM.fact 0 (by simp) rfl (notR_all 0 rfl)
            have e1 : yy 1 = .slice (some ⟨gb, ob, none⟩) B.length cb := hM.fact 1 (by simp) rfl (notR_all 1 rfl)
            have e2 : yy 2 = .int .i64 (B.length : Int) := hM.fact 2 (by simp) rfl (notR_all 2 rfl)
            have e3 : yy 3 = .bool false := hM.fact 3 (by simp) rfl (notR_all 3 rfl)
            have e4 : yy 4 = .bool false := hM.fact 4 (by simp) rfl (notR_all 4 rfl)
            have e5 : yy 5 = .int .i64 i := hM.fact 5 (by simp) rfl (notR_all 5 rfl)
            have e6 : yy 6 = .slice (some ⟨ga, oa, none⟩) A.length ca := hM.fact 6 (by simp) rfl (notR_all 6 rfl)
            have e7 : yy 7 = .int .i64 (A.length : Int) := hM.fact 7 (by simp) rfl (notR_all 7 rfl)
            have e8 : yy 8 = .bool true := hM.fact 8 (by simp) rfl (notR_all 8 rfl)
            have e9 : yy 9 = .bool true := hM.fact 9 (by simp) rfl (notR_all 9 rfl)
            have e10 : yy 10 = .slice (some ⟨ga, oa, none⟩) A.length ca := hM.fact 10 (by simp) rfl (notR_all 10 rfl)
            have e11 : yy 11 = .int .i64 i := hM.fact 11 (by simp) rfl (notR_all 11 rfl)
            have e12 : yy 12 = .pointer (some ⟨ga, oa + i * 3, none⟩) := hM.fact 12 (by simp) rfl (notR_all 12 rfl)
            have e13 : yy 13 = .agg #[.int .i64 x.1, .int .i64 x.2.1, .int .i64 x.2.2] := hM.fact 13 (by simp) rfl (notR_all 13 rfl)
            have e14 : yy 14 = .slice (some ⟨gb, ob, none⟩) B.length cb := hM.fact 14 (by simp) rfl (notR_all 14 rfl)
            have e15 : yy 15 = .int .i64 k := hM.fact 15 (by simp) rfl (notR_all 15 rfl)
            have e16 : yy 16 = .pointer (some ⟨gb, ob + k * 3, none⟩) := hM.fact 16 (by simp) rfl (notR_all 16 rfl)
            have e17 : yy 17 = .agg #[.int .i64 y.1, .int .i64 y.2.1, .int .i64 y.2.2] := hM.fact 17 (by simp) rfl (notR_all 17 rfl)
            have e18 : yy 18 = .bool (ltE x y) := hM.fact 18 (by simp) rfl (notR_all 18 rfl)
            have e19 : yy 19 = .bool (ltE x y) := hM.fact 19 (by simp) rfl (notR_all 19 rfl)
            have e20 : yy 20 = .bool (ltE x y) := hM.fact 20 (by simp) rfl (notR_all 20 rfl)
            have DW := hide (HYB.out.trans (hM.d.mono HYB.out.size))
            have OW := hide (own_below HYO.out hM.d)
            simp only [fills, Act.put, List.take, List.length, List.setIfInBounds_toArray, List.set_cons_zero, List.set_cons_succ, e0, e1, e2, e3, e4, e5, e6, e7, e8, e9, e10, e11, e12, e13, e14, e15, e16, e17, e18, e19, e20]
            clear hM hmo e0 e1 e2 e3 e4 e5 e6 e7 e8 e9 e10 e11 e12 e13 e14 e15 e16 e17 e18 e19 e20
            go_wp2_with fail
            go_meet
            exact ⟨rfl, OW, DW⟩

        case rest =>
          obtain ⟨rfl, HYO, HYB⟩ := hcut
          rename World => wk
          cases hlt : ltE x y with
          | true =>
            have HNA := hide (NA.out hlt)
            obtain ⟨q1, q2, q3⟩ := RA.out wk HYB.out
            go_wp2_with (at_builtin; refine wpList_appE rfl _ _ rfl w.heap.size u5 X rfl (own_below HYO.out ((Below.refl _ _).alloc (Nat.le_refl _) _)) wk.heap.size x rfl (World.alloc_heap_new _ _) (by have := HXL.out; omega) w (HYB.out.alloc HYB.out.size _) (Nat.le_refl _) ?_; intro v2 w2 HO2 HD2)
            go_roundw
            case rel => exact ⟨i + 1, k, X ++ [x], by omega, by omega, by go_num, rfl, hide ⟨HO2.out, HNA.out, HD2.out⟩⟩
            case measure => simp [intOf]; omega
          | false =>
            go_upto_region 8 with fail
            by_cases hxy : x = y
            · have HN := hide (NE.out hlt hxy)
              subst hxy
              clear hlt
              go_cut [62] from 48 to 62 (fun v W => v = .bool true ∧ Hid (W.ownsRow w.heap.size 59 3 u5 X.length (X.flatMap encE)) ∧ Hid (Below w.heap.size w W))
              case first =>
                have hmo : MonIL 0 [vI 0 (.int .i64 i), vI 1 (.slice (some ⟨ga, oa, none⟩) A.length ca), vI 2 (.int .i64 (A.length : Int)), vI 3 (.bool true), vI 4 (.bool true), vI 5 (.slice (some ⟨ga, oa, none⟩) A.length ca), vI 6 (.int .i64 i), vI 7 (.pointer (some ⟨ga, oa + i * 3, none⟩)), vI 8 (.agg #[.int .i64 x.1, .int .i64 x.2.1, .int .i64 x.2.2]), vI 9 (.slice (some ⟨gb, ob, none⟩) B.length cb), vI 10 (.int .i64 k), vI 11 (.pointer (some ⟨gb, ob + k * 3, none⟩)), vI 12 (.agg #[.int .i64 x.1, .int .i64 x.2.1, .int .i64 x.2.2]), vI 13 (.bool true), vI 14 (.bool true)] := ⟨vI_mono _ _, vI_mono _ _, vI_mono _ _, vI_mono _ _, vI_mono _ _, vI_mono _ _, vI_mono _ _, vI_mono _ _, vI_mono _ _, vI_mono _ _, vI_mono _ _, vI_mono _ _, vI_mono _ _, vI_mono _ _, vI_mono _ _, trivial⟩
                refine wp_region_sl [vI 0 (.int .i64 i), vI 1 (.slice (some ⟨ga, oa, none⟩) A.length ca), vI 2 (.int .i64 (A.length : Int)), vI 3 (.bool true), vI 4 (.bool true), vI 5 (.slice (some ⟨ga, oa, none⟩) A.length ca), vI 6 (.int .i64 i), vI 7 (.pointer (some ⟨ga, oa + i * 3, none⟩)), vI 8 (.agg #[.int .i64 x.1, .int .i64 x.2.1, .int .i64 x.2.2]), vI 9 (.slice (some ⟨gb, ob, none⟩) B.length cb), vI 10 (.int .i64 k), vI 11 (.pointer (some ⟨gb, ob + k * 3, none⟩)), vI 12 (.agg #[.int .i64 x.1, .int .i64 x.2.1, .int .i64 x.2.2]), vI 13 (.bool true), vI 14 (.bool true)] (by kernel_rfl) (by kernel_rfl) (by kernel_rfl) (by kernel_rfl) hmo ⟨?o0, ?o1, ?o2, ?o3, ?o4, ?o5, ?o6, ?o7, ?o8, ?o9, ?o10, ?o11, ?o12, ?o13, ?o14, trivial⟩ ?fin
                case o0 =>
                  intro At yy W hy hb d hd K hK
                  have s6 : At.tmps.getD 6 undef = .int .i64 i := hb 6 rfl
                  have s6' := s6
                  rw [Array.getD_eq_getD_getElem?] at s6'
                  clear hd hy hb
                  go_simp
                  exact hK.out _ W (stp_of hmo d (Below.refl _ _)) (if_pos rfl)
                case o1 =>
                  intro At yy W hy hb d hd K hK
                  have s0 : At.tmps.getD 0 undef = .slice (some ⟨ga, oa, none⟩) A.length ca := hb 0 rfl
                  have s0' := s0
                  rw [Array.getD_eq_getD_getElem?] at s0'
                  clear hd hy hb
                  go_simp
                  exact hK.out _ W (stp_of hmo d (Below.refl _ _)) (if_pos rfl)
                case o2 =>
                  intro At yy W hy hb d hd K hK
                  have e1 : yy 1 = .slice (some ⟨ga, oa, none⟩) A.length ca := by obtain ⟨_, _, _, _, e⟩ := hd ⟨1, .data⟩ (by simp) rfl rfl; exact e
                  have s49 := (hy 1 _ 49 rfl rfl).trans e1
                  have s49' := s49
                  rw [Array.getD_eq_getD_getElem?] at s49'
                  clear hd hy hb
                  go_simp
                  exact hK.out _ W (stp_of hmo d (Below.refl _ _)) (if_pos rfl)
                case o3 =>
                  intro At yy W hy hb d hd K hK
                  have e0 : yy 0 = .int .i64 i := by obtain ⟨_, _, _, _, e⟩ := hd ⟨0, .data⟩ (by simp) rfl rfl; exact e
                  have e2 : yy 2 = .int .i64 (A.length : Int) := by obtain ⟨_, _, _, _, e⟩ := hd ⟨2, .data⟩ (by simp) rfl rfl; exact e
                  have s48 := (hy 0 _ 48 rfl rfl).trans e0
                  have s48' := s48
                  rw [Array.getD_eq_getD_getElem?] at s48'
                  have s50 := (hy 2 _ 50 rfl rfl).trans e2
                  have s50' := s50
                  rw [Array.getD_eq_getD_getElem?] at s50'
                  clear hd hy hb
                  go_simp
                  exact hK.out _ W (stp_of hmo d (Below.refl _ _)) (if_pos rfl)
                case o4 =>
                  intro At yy W hy hb d hd K hK
                  have e3 : yy 3 = .bool true := by obtain ⟨_, _, _, _, e⟩ := hd ⟨3, .data⟩ (by simp) rfl rfl; exact e
                  have s51 := (hy 3 _ 51 rfl rfl).trans e3
                  have s51' := s51
                  rw [Array.getD_eq_getD_getElem?] at s51'
                  clear hd hy hb
                  go_simp
                  exact hK.out _ W (stp_of hmo d (Below.refl _ _)) (if_pos rfl)
                case o5 =>
                  intro At yy W hy hb d hd K hK
                  have e4 : yy 4 = .bool true := by obtain ⟨_, _, _, _, e⟩ := hd ⟨4, .guard⟩ (by simp) rfl rfl; exact e
                  have s0 : At.tmps.getD 0 undef = .slice (some ⟨ga, oa, none⟩) A.length ca := hb 0 rfl
                  have s0' := s0
                  rw [Array.getD_eq_getD_getElem?] at s0'
                  have s52 := (hy 4 _ 52 rfl rfl).trans e4
                  have s52' := s52
                  rw [Array.getD_eq_getD_getElem?] at s52'
                  have g52 := got_bool s52
                  clear hd hy hb
                  go_simp
                  exact hK.out _ W (stp_of hmo d (Below.refl _ _)) (if_pos rfl)
                case o6 =>
                  intro At yy W hy hb d hd K hK
                  have e4 : yy 4 = .bool true := by obtain ⟨_, _, _, _, e⟩ := hd ⟨4, .guard⟩ (by simp) rfl rfl; exact e
                  have s6 : At.tmps.getD 6 undef = .int .i64 i := hb 6 rfl
                  have s6' := s6
                  rw [Array.getD_eq_getD_getElem?] at s6'
                  have s52 := (hy 4 _ 52 rfl rfl).trans e4
                  have s52' := s52
                  rw [Array.getD_eq_getD_getElem?] at s52'
                  have g52 := got_bool s52
                  clear hd hy hb
                  go_simp
                  exact hK.out _ W (stp_of hmo d (Below.refl _ _)) (if_pos rfl)
                case o7 =>
                  intro At yy W hy hb d hd K hK
                  have e5 : yy 5 = .slice (some ⟨ga, oa, none⟩) A.length ca := by obtain ⟨_, _, _, _, e⟩ := hd ⟨5, .data⟩ (by simp) rfl rfl; exact e
                  have e6 : yy 6 = .int .i64 i := by obtain ⟨_, _, _, _, e⟩ := hd ⟨6, .data⟩ (by simp) rfl rfl; exact e
                  have e4 : yy 4 = .bool true := by obtain ⟨_, _, _, _, e⟩ := hd ⟨4, .guard⟩ (by simp) rfl rfl; exact e
                  have s52 := (hy 4 _ 52 rfl rfl).trans e4
                  have s52' := s52
                  rw [Array.getD_eq_getD_getElem?] at s52'
                  have s53 := (hy 5 _ 53 rfl rfl).trans e5
                  have s53' := s53
                  rw [Array.getD_eq_getD_getElem?] at s53'
                  have s54 := (hy 6 _ 54 rfl rfl).trans e6
                  have s54' := s54
                  rw [Array.getD_eq_getD_getElem?] at s54'
                  have g52 := got_bool s52
                  clear hd hy hb
                  go_simp
                  exact hK.out _ W (stp_of hmo d (Below.refl _ _)) (if_pos rfl)
                case o8 =>
                  intro At yy W hy hb d hd K hK
                  have e7 : yy 7 = .pointer (some ⟨ga, oa + i * 3, none⟩) := by obtain ⟨_, _, _, _, e⟩ := hd ⟨7, .data⟩ (by simp) rfl rfl; exact e
                  have e4 : yy 4 = .bool true := by obtain ⟨_, _, _, _, e⟩ := hd ⟨4, .guard⟩ (by simp) rfl rfl; exact e
                  have s52 := (hy 4 _ 52 rfl rfl).trans e4
                  have s52' := s52
                  rw [Array.getD_eq_getD_getElem?] at s52'
                  have s55 := (hy 7 _ 55 rfl rfl).trans e7
                  have s55' := s55
                  rw [Array.getD_eq_getD_getElem?] at s55'
                  have g52 := got_bool s52
                  clear hd hy hb
                  obtain ⟨q1, q2, q3⟩ := RA.out W (HYB.out.trans (d.mono HYB.out.size))
                  go_simp
                  exact hK.out _ W (stp_of hmo d (Below.refl _ _)) (if_pos rfl)
                case o9 =>
                  intro At yy W hy hb d hd K hK
                  have e4 : yy 4 = .bool true := by obtain ⟨_, _, _, _, e⟩ := hd ⟨4, .guard⟩ (by simp) rfl rfl; exact e
                  have s1 : At.tmps.getD 1 undef = .slice (some ⟨gb, ob, none⟩) B.length cb := hb 1 rfl
                  have s1' := s1
                  rw [Array.getD_eq_getD_getElem?] at s1'
                  have s52 := (hy 4 _ 52 rfl rfl).trans e4
                  have s52' := s52
                  rw [Array.getD_eq_getD_getElem?] at s52'
                  have g52 := got_bool s52
                  clear hd hy hb
                  go_simp
                  exact hK.out _ W (stp_of hmo d (Below.refl _ _)) (if_pos rfl)
                case o10 =>
                  intro At yy W hy hb d hd K hK
                  have e4 : yy 4 = .bool true := by obtain ⟨_, _, _, _, e⟩ := hd ⟨4, .guard⟩ (by simp) rfl rfl; exact e
                  have s7 : At.tmps.getD 7 undef = .int .i64 k := hb 7 rfl
                  have s7' := s7
                  rw [Array.getD_eq_getD_getElem?] at s7'
                  have s52 := (hy 4 _ 52 rfl rfl).trans e4
                  have s52' := s52
                  rw [Array.getD_eq_getD_getElem?] at s52'
                  have g52 := got_bool s52
                  clear hd hy hb
                  go_simp
                  exact hK.out _ W (stp_of hmo d (Below.refl _ _)) (if_pos rfl)
                case o11 =>
                  intro At yy W hy hb d hd K hK
                  have e9 : yy 9 = .slice (some ⟨gb, ob, none⟩) B.length cb := by obtain ⟨_, _, _, _, e⟩ := hd ⟨9, .data⟩ (by simp) rfl rfl; exact e
                  have e10 : yy 10 = .int .i64 k := by obtain ⟨_, _, _, _, e⟩ := hd ⟨10, .data⟩ (by simp) rfl rfl; exact e
                  have e4 : yy 4 = .bool true := by obtain ⟨_, _, _, _, e⟩ := hd ⟨4, .guard⟩ (by simp) rfl rfl; exact e
                  have s52 := (hy 4 _ 52 rfl rfl).trans e4
                  have s52' := s52
                  rw [Array.getD_eq_getD_getElem?] at s52'
                  have s57 := (hy 9 _ 57 rfl rfl).trans e9
                  have s57' := s57
                  rw [Array.getD_eq_getD_getElem?] at s57'
                  have s58 := (hy 10 _ 58 rfl rfl).trans e10
                  have s58' := s58
                  rw [Array.getD_eq_getD_getElem?] at s58'
                  have g52 := got_bool s52
                  clear hd hy hb
                  go_simp
                  exact hK.out _ W (stp_of hmo d (Below.refl _ _)) (if_pos rfl)
                case o12 =>
                  intro At yy W hy hb d hd K hK
                  have e11 : yy 11 = .pointer (some ⟨gb, ob + k * 3, none⟩) := by obtain ⟨_, _, _, _, e⟩ := hd ⟨11, .data⟩ (by simp) rfl rfl; exact e
                  have e4 : yy 4 = .bool true := by obtain ⟨_, _, _, _, e⟩ := hd ⟨4, .guard⟩ (by simp) rfl rfl; exact e
                  have s52 := (hy 4 _ 52 rfl rfl).trans e4
                  have s52' := s52
                  rw [Array.getD_eq_getD_getElem?] at s52'
                  have s59 := (hy 11 _ 59 rfl rfl).trans e11
                  have s59' := s59
                  rw [Array.getD_eq_getD_getElem?] at s59'
                  have g52 := got_bool s52
                  clear hd hy hb
                  obtain ⟨q1, q2, q3⟩ := RB.out W (HYB.out.trans (d.mono HYB.out.size))
                  go_simp
                  exact hK.out _ W (stp_of hmo d (Below.refl _ _)) (if_pos rfl)
                case o13 =>
                  intro At yy W hy hb d hd K hK
                  have e8 : yy 8 = .agg #[.int .i64 x.1, .int .i64 x.2.1, .int .i64 x.2.2] := by obtain ⟨_, _, _, _, e⟩ := hd ⟨8, .data⟩ (by simp) rfl rfl; exact e
                  have e12 : yy 12 = .agg #[.int .i64 x.1, .int .i64 x.2.1, .int .i64 x.2.2] := by obtain ⟨_, _, _, _, e⟩ := hd ⟨12, .data⟩ (by simp) rfl rfl; exact e
                  have e4 : yy 4 = .bool true := by obtain ⟨_, _, _, _, e⟩ := hd ⟨4, .guard⟩ (by simp) rfl rfl; exact e
                  have s52 := (hy 4 _ 52 rfl rfl).trans e4
                  have s52' := s52
                  rw [Array.getD_eq_getD_getElem?] at s52'
                  have s56 := (hy 8 _ 56 rfl rfl).trans e8
                  have s56' := s56
                  rw [Array.getD_eq_getD_getElem?] at s56'
                  have s60 := (hy 12 _ 60 rfl rfl).trans e12
                  have s60' := s60
                  rw [Array.getD_eq_getD_getElem?] at s60'
                  have g52 := got_bool s52
                  clear hd hy hb
                  go_simp
                  exact hK.out _ W (stp_of hmo d (Below.refl _ _)) (if_pos rfl)
                case o14 =>
                  intro At yy W hy hb d hd K hK
                  have e4 : yy 4 = .bool true := by obtain ⟨_, _, _, _, e⟩ := hd ⟨4, .data⟩ (by simp) rfl rfl; exact e
                  have e13 : yy 13 = .bool true := by obtain ⟨_, _, _, _, e⟩ := hd ⟨13, .data⟩ (by simp) rfl rfl; exact e
                  have s52 := (hy 4 _ 52 rfl rfl).trans e4
                  have s52' := s52
                  rw [Array.getD_eq_getD_getElem?] at s52'
                  have s61 := (hy 13 _ 61 rfl rfl).trans e13
                  have s61' := s61
                  rw [Array.getD_eq_getD_getElem?] at s61'
                  clear hd hy hb
                  go_simp
                  exact hK.out _ W (stp_of hmo d (Below.refl _ _)) (if_pos rfl)
                case fin =>
                  intro yy lo hi W hM
                  show wpList _ _ _ [] _ _
                  have e0 : yy 0 = .int .i64 i := hM.fact 0 (by simp) rfl (notR_all 0 rfl)
                  have e1 : yy 1 = .slice (some ⟨ga, oa, none⟩) A.length ca := hM.fact 1 (by simp) rfl (notR_all 1 rfl)
                  have e2 : yy 2 = .int .i64 (A.length : Int) := hM.fact 2 (by simp) rfl (notR_all 2 rfl)
                  have e3 : yy 3 = .bool true := hM.fact 3 (by simp) rfl (notR_all 3 rfl)
                  have e4 : yy 4 = .bool true := hM.fact 4 (by simp) rfl (notR_all 4 rfl)
                  have e5 : yy 5 = .slice (some ⟨ga, oa, none⟩) A.length ca := hM.fact 5 (by simp) rfl (notR_all 5 rfl)
                  have e6 : yy 6 = .int .i64 i := hM.fact 6 (by simp) rfl (notR_all 6 rfl)
                  have e7 : yy 7 = .pointer (some ⟨ga, oa + i * 3, none⟩) := hM.fact 7 (by simp) rfl (notR_all 7 rfl)
                  have e8 : yy 8 = .agg #[.int .i64 x.1, .int .i64 x.2.1, .int .i64 x.2.2] := hM.fact 8 (by simp) rfl (notR_all 8 rfl)
                  have e9 : yy 9 = .slice (some ⟨gb, ob, none⟩) B.length cb := hM.fact 9 (by simp) rfl (notR_all 9 rfl)
                  have e10 : yy 10 = .int .i64 k := hM.fact 10 (by simp) rfl (notR_all 10 rfl)
                  have e11 : yy 11 = .pointer (some ⟨gb, ob + k * 3, none⟩) := hM.fact 11 (by simp) rfl (notR_all 11 rfl)
                  have e12 : yy 12 = .agg #[.int .i64 x.1, .int .i64 x.2.1, .int .i64 x.2.2] := hM.fact 12 (by simp) rfl (notR_all 12 rfl)
                  have e13 : yy 13 = .bool true := hM.fact 13 (by simp) rfl (notR_all 13 rfl)
                  have e14 : yy 14 = .bool true := hM.fact 14 (by simp) rfl (notR_all 14 rfl)
                  have DW := hide (HYB.out.trans (hM.d.mono HYB.out.size))
                  have OW := hide (own_below HYO.out hM.d)
                  simp only [fills, Act.put, List.take, List.length, List.setIfInBounds_toArray, List.set_cons_zero, List.set_cons_succ, e0, e1, e2, e3, e4, e5, e6, e7, e8, e9, e10, e11, e12, e13, e14]
                  clear hM hmo e0 e1 e2 e3 e4 e5 e6 e7 e8 e9 e10 e11 e12 e13 e14
                  go_wp2_with fail
                  go_meet
                  exact ⟨rfl, OW, DW⟩

              case rest =>
                obtain ⟨rfl, HYO, HYB⟩ := hcut
                rename World => wk
                obtain ⟨q1, q2, q3⟩ := RB.out wk HYB.out
                go_wp2_with (at_builtin; refine wpList_appE rfl _ _ rfl w.heap.size u5 X rfl (own_below HYO.out ((Below.refl _ _).alloc (Nat.le_refl _) _)) wk.heap.size x rfl (World.alloc_heap_new _ _) (by have := HXL.out; omega) w (HYB.out.alloc HYB.out.size _) (Nat.le_refl _) ?_; intro v2 w2 HO2 HD2)
                go_roundw
                case rel => exact ⟨i + 1, k + 1, X ++ [x], by omega, by omega, by go_num, by go_num, hide ⟨HO2.out, HN.out, HD2.out⟩⟩
                case measure => simp [intOf]; omega

            · have HN := hide (NB.out hlt hxy)
              have hne : Hid (¬ (x.1 = y.1 ∧ x.2.1 = y.2.1 ∧ x.2.2 = y.2.2)) := hide (fun h => hxy (Prod.ext h.1 (Prod.ext h.2.1 h.2.2)))
              clear hxy hlt
              go_cut [62] from 48 to 62 (fun v W => v = .bool false ∧ Hid (W.ownsRow w.heap.size 59 3 u5 X.length (X.flatMap encE)) ∧ Hid (Below w.heap.size w W))
              case first =>
                have hmo : MonIL 0 [vI 0 (.int .i64 i), vI 1 (.slice (some ⟨ga, oa, none⟩) A.length ca), vI 2 (.int .i64 (A.length : Int)), vI 3 (.bool true), vI 4 (.bool true), vI 5 (.slice (some ⟨ga, oa, none⟩) A.length ca), vI 6 (.int .i64 i), vI 7 (.pointer (some ⟨ga, oa + i * 3, none⟩)), vI 8 (.agg #[.int .i64 x.1, .int .i64 x.2.1, .int .i64 x.2.2]), vI 9 (.slice (some ⟨gb, ob, none⟩) B.length cb), vI 10 (.int .i64 k), vI 11 (.pointer (some ⟨gb, ob + k * 3, none⟩)), vI 12 (.agg #[.int .i64 y.1, .int .i64 y.2.1, .int .i64 y.2.2]), vI 13 (.bool false), vI 14 (.bool false)] := ⟨vI_mono _ _, vI_mono _ _, vI_mono _ _, vI_mono _ _, vI_mono _ _, vI_mono _ _, vI_mono _ _, vI_mono _ _, vI_mono _ _, vI_mono _ _, vI_mono _ _, vI_mono _ _, vI_mono _ _, vI_mono _ _, vI_mono _ _, trivial⟩
                refine wp_region_sl [vI 0 (.int .i64 i), vI 1 (.slice (some ⟨ga, oa, none⟩) A.length ca), vI 2 (.int .i64 (A.length : Int)), vI 3 (.bool true), vI 4 (.bool true), vI 5 (.slice (some ⟨ga, oa, none⟩) A.length ca), vI 6 (.int .i64 i), vI 7 (.pointer (some ⟨ga, oa + i * 3, none⟩)), vI 8 (.agg #[.int .i64 x.1, .int .i64 x.2.1, .int .i64 x.2.2]), vI 9 (.slice (some ⟨gb, ob, none⟩) B.length cb), vI 10 (.int .i64 k), vI 11 (.pointer (some ⟨gb, ob + k * 3, none⟩)), vI 12 (.agg #[.int .i64 y.1, .int .i64 y.2.1, .int .i64 y.2.2]), vI 13 (.bool false), vI 14 (.bool false)] (by kernel_rfl) (by kernel_rfl) (by kernel_rfl) (by kernel_rfl) hmo ⟨?o0, ?o1, ?o2, ?o3, ?o4, ?o5, ?o6, ?o7, ?o8, ?o9, ?o10, ?o11, ?o12, ?o13, ?o14, trivial⟩ ?fin
                case o0 =>
                  intro At yy W hy hb d hd K hK
                  have s6 : At.tmps.getD 6 undef = .int .i64 i := hb 6 rfl
                  have s6' := s6
                  rw [Array.getD_eq_getD_getElem?] at s6'
                  clear hd hy hb
                  go_simp
                  exact hK.out _ W (stp_of hmo d (Below.refl _ _)) (if_pos rfl)
                case o1 =>
                  intro At yy W hy hb d hd K hK
                  have s0 : At.tmps.getD 0 undef = .slice (some ⟨ga, oa, none⟩) A.length ca := hb 0 rfl
                  have s0' := s0
                  rw [Array.getD_eq_getD_getElem?] at s0'
                  clear hd hy hb
                  go_simp
                  exact hK.out _ W (stp_of hmo d (Below.refl _ _)) (if_pos rfl)
                case o2 =>
                  intro At yy W hy hb d hd K hK
                  have e1 : yy 1 = .slice (some ⟨ga, oa, none⟩) A.length ca := by obtain ⟨_, _, _, _, e⟩ := hd ⟨1, .data⟩ (by simp) rfl rfl; exact e
                  have s49 := (hy 1 _ 49 rfl rfl).trans e1
                  have s49' := s49
                  rw [Array.getD_eq_getD_getElem?] at s49'
                  clear hd hy hb
                  go_simp
                  exact hK.out _ W (stp_of hmo d (Below.refl _ _)) (if_pos rfl)
                case o3 =>
                  intro At yy W hy hb d hd K hK
                  have e0 : yy 0 = .int .i64 i := by obtain ⟨_, _, _, _, e⟩ := hd ⟨0, .data⟩ (by simp) rfl rfl; exact e
                  have e2 : yy 2 = .int .i64 (A.length : Int) := by obtain ⟨_, _, _, _, e⟩ := hd ⟨2, .data⟩ (by simp) rfl rfl; exact e
                  have s48 := (hy 0 _ 48 rfl rfl).trans e0
                  have s48' := s48
                  rw [Array.getD_eq_getD_getElem?] at s48'
                  have s50 := (hy 2 _ 50 rfl rfl).trans e2
                  have s50' := s50
                  rw [Array.getD_eq_getD_getElem?] at s50'
                  clear hd hy hb
                  go_simp
                  exact hK.out _ W (stp_of hmo d (Below.refl _ _)) (if_pos rfl)
                case o4 =>
                  intro At yy W hy hb d hd K hK
                  have e3 : yy 3 = .bool true := by obtain ⟨_, _, _, _, e⟩ := hd ⟨3, .data⟩ (by simp) rfl rfl; exact e
                  have s51 := (hy 3 _ 51 rfl rfl).trans e3
                  have s51' := s51
                  rw [Array.getD_eq_getD_getElem?] at s51'
                  clear hd hy hb
                  go_simp
                  exact hK.out _ W (stp_of hmo d (Below.refl _ _)) (if_pos rfl)
                case o5 =>
                  intro At yy W hy hb d hd K hK
                  have e4 : yy 4 = .bool true := by obtain ⟨_, _, _, _, e⟩ := hd ⟨4, .guard⟩ (by simp) rfl rfl; exact e
                  have s0 : At.tmps.getD 0 undef = .slice (some ⟨ga, oa, none⟩) A.length ca := hb 0 rfl
                  have s0' := s0
                  rw [Array.getD_eq_getD_getElem?] at s0'
                  have s52 := (hy 4 _ 52 rfl rfl).trans e4
                  have s52' := s52
                  rw [Array.getD_eq_getD_getElem?] at s52'
                  have g52 := got_bool s52
                  clear hd hy hb
                  go_simp
                  exact hK.out _ W (stp_of hmo d (Below.refl _ _)) (if_pos rfl)
                case o6 =>
                  intro At yy W hy hb d hd K hK
                  have e4 : yy 4 = .bool true := by obtain ⟨_, _, _, _, e⟩ := hd ⟨4, .guard⟩ (by simp) rfl rfl; exact e
                  have s6 : At.tmps.getD 6 undef = .int .i64 i := hb 6 rfl
                  have s6' := s6
                  rw [Array.getD_eq_getD_getElem?] at s6'
                  have s52 := (hy 4 _ 52 rfl rfl).trans e4
                  have s52' := s52
                  rw [Array.getD_eq_getD_getElem?] at s52'
                  have g52 := got_bool s52
                  clear hd hy hb
                  go_simp
                  exact hK.out _ W (stp_of hmo d (Below.refl _ _)) (if_pos rfl)
                case o7 =>
                  intro At yy W hy hb d hd K hK
                  have e5 : yy 5 = .slice (some ⟨ga, oa, none⟩) A.length ca := by obtain ⟨_, _, _, _, e⟩ := hd ⟨5, .data⟩ (by simp) rfl rfl; exact e
                  have e6 : yy 6 = .int .i64 i := by obtain ⟨_, _, _, _, e⟩ := hd ⟨6, .data⟩ (by simp) rfl rfl; exact e
                  have e4 : yy 4 = .bool true := by obtain ⟨_, _, _, _, e⟩ := hd ⟨4, .guard⟩ (by simp) rfl rfl; exact e
                  have s52 := (hy 4 _ 52 rfl rfl).trans e4
                  have s52' := s52
                  rw [Array.getD_eq_getD_getElem?] at s52'
                  have s53 := (hy 5 _ 53 rfl rfl).trans e5
                  have s53' := s53
                  rw [Array.getD_eq_getD_getElem?] at s53'
                  have s54 := (hy 6 _ 54 rfl rfl).trans e6
                  have s54' := s54
                  rw [Array.getD_eq_getD_getElem?] at s54'
                  have g52 := got_bool s52
                  clear hd hy hb
                  go_simp
                  exact hK.out _ W (stp_of hmo d (Below.refl _ _)) (if_pos rfl)
                case o8 =>
                  intro At yy W hy hb d hd K hK
                  have e7 : yy 7 = .pointer (some ⟨ga, oa + i * 3, none⟩) := by obtain ⟨_, _, _, _, e⟩ := hd ⟨7, .data⟩ (by simp) rfl rfl; exact e
                  have e4 : yy 4 = .bool true := by obtain ⟨_, _, _, _, e⟩ := hd ⟨4, .guard⟩ (by simp) rfl rfl; exact e
                  have s52 := (hy 4 _ 52 rfl rfl).trans e4
                  have s52' := s52
                  rw [Array.getD_eq_getD_getElem?] at s52'
                  have s55 := (hy 7 _ 55 rfl rfl).trans e7
                  have s55' := s55
                  rw [Array.getD_eq_getD_getElem?] at s55'
                  have g52 := got_bool s52
                  clear hd hy hb
                  obtain ⟨q1, q2, q3⟩ := RA.out W (HYB.out.trans (d.mono HYB.out.size))
                  go_simp
                  exact hK.out _ W (stp_of hmo d (Below.refl _ _)) (if_pos rfl)
                case o9 =>
                  intro At yy W hy hb d hd K hK
                  have e4 : yy 4 = .bool true := by obtain ⟨_, _, _, _, e⟩ := hd ⟨4, .guard⟩ (by simp) rfl rfl; exact e
                  have s1 : At.tmps.getD 1 undef = .slice (some ⟨gb, ob, none⟩) B.length cb := hb 1 rfl
                  have s1' := s1
                  rw [Array.getD_eq_getD_getElem?] at s1'
                  have s52 := (hy 4 _ 52 rfl rfl).trans e4
                  have s52' := s52
                  rw [Array.getD_eq_getD_getElem?] at s52'
                  have g52 := got_bool s52
                  clear hd hy hb
                  go_simp
                  exact hK.out _ W (stp_of hmo d (Below.refl _ _)) (if_pos rfl)
                case o10 =>
                  intro At yy W hy hb d hd K hK
                  have e4 : yy 4 = .bool true := by obtain ⟨_, _, _, _, e⟩ := hd ⟨4, .guard⟩ (by simp) rfl rfl; exact e
                  have s7 : At.tmps.getD 7 undef = .int .i64 k := hb 7 rfl
                  have s7' := s7
                  rw [Array.getD_eq_getD_getElem?] at s7'
                  have s52 := (hy 4 _ 52 rfl rfl).trans e4
                  have s52' := s52
                  rw [Array.getD_eq_getD_getElem?] at s52'
                  have g52 := got_bool s52
                  clear hd hy hb
                  go_simp
                  exact hK.out _ W (stp_of hmo d (Below.refl _ _)) (if_pos rfl)
                case o11 =>
                  intro At yy W hy hb d hd K hK
                  have e9 : yy 9 = .slice (some ⟨gb, ob, none⟩) B.length cb := by obtain ⟨_, _, _, _, e⟩ := hd ⟨9, .data⟩ (by simp) rfl rfl; exact e
                  have e10 : yy 10 = .int .i64 k := by obtain ⟨_, _, _, _, e⟩ := hd ⟨10, .data⟩ (by simp) rfl rfl; exact e
                  have e4 : yy 4 = .bool true := by obtain ⟨_, _, _, _, e⟩ := hd ⟨4, .guard⟩ (by simp) rfl rfl; exact e
                  have s52 := (hy 4 _ 52 rfl rfl).trans e4
                  have s52' := s52
                  rw [Array.getD_eq_getD_getElem?] at s52'
                  have s57 := (hy 9 _ 57 rfl rfl).trans e9
                  have s57' := s57
                  rw [Array.getD_eq_getD_getElem?] at s57'
                  have s58 := (hy 10 _ 58 rfl rfl).trans e10
                  have s58' := s58
                  rw [Array.getD_eq_getD_getElem?] at s58'
                  have g52 := got_bool s52
                  clear hd hy hb
                  go_simp
                  exact hK.out _ W (stp_of hmo d (Below.refl _ _)) (if_pos rfl)
                case o12 =>
                  intro At yy W hy hb d hd K hK
                  have e11 : yy 11 = .pointer (some ⟨gb, ob + k * 3, none⟩) := by obtain ⟨_, _, _, _, e⟩ := hd ⟨11, .data⟩ (by simp) rfl rfl; exact e
                  have e4 : yy 4 = .bool true := by obtain ⟨_, _, _, _, e⟩ := hd ⟨4, .guard⟩ (by simp) rfl rfl; exact e
                  have s52 := (hy 4 _ 52 rfl rfl).trans e4
                  have s52' := s52
                  rw [Array.getD_eq_getD_getElem?] at s52'
                  have s59 := (hy 11 _ 59 rfl rfl).trans e11
                  have s59' := s59
                  rw [Array.getD_eq_getD_getElem?] at s59'
                  have g52 := got_bool s52
                  clear hd hy hb
                  obtain ⟨q1, q2, q3⟩ := RB.out W (HYB.out.trans (d.mono HYB.out.size))
                  go_simp
                  exact hK.out _ W (stp_of hmo d (Below.refl _ _)) (if_pos rfl)
                case o13 =>
                  intro At yy W hy hb d hd K hK
                  have e8 : yy 8 = .agg #[.int .i64 x.1, .int .i64 x.2.1, .int .i64 x.2.2] := by obtain ⟨_, _, _, _, e⟩ := hd ⟨8, .data⟩ (by simp) rfl rfl; exact e
                  have e12 : yy 12 = .agg #[.int .i64 y.1, .int .i64 y.2.1, .int .i64 y.2.2] := by obtain ⟨_, _, _, _, e⟩ := hd ⟨12, .data⟩ (by simp) rfl rfl; exact e
                  have e4 : yy 4 = .bool true := by obtain ⟨_, _, _, _, e⟩ := hd ⟨4, .guard⟩ (by simp) rfl rfl; exact e
                  have s52 := (hy 4 _ 52 rfl rfl).trans e4
                  have s52' := s52
                  rw [Array.getD_eq_getD_getElem?] at s52'
                  have s56 := (hy 8 _ 56 rfl rfl).trans e8
                  have s56' := s56
                  rw [Array.getD_eq_getD_getElem?] at s56'
                  have s60 := (hy 12 _ 60 rfl rfl).trans e12
                  have s60' := s60
                  rw [Array.getD_eq_getD_getElem?] at s60'
                  have g52 := got_bool s52
                  clear hd hy hb
                  go_simp
                  rw [ite3 hne.out]
                  simp only [Oper.upon]
                  exact hK.out _ W (stp_of hmo d (Below.refl _ _)) (if_pos rfl)
                case o14 =>
                  intro At yy W hy hb d hd K hK
                  have e4 : yy 4 = .bool true := by obtain ⟨_, _, _, _, e⟩ := hd ⟨4, .data⟩ (by simp) rfl rfl; exact e
                  have e13 : yy 13 = .bool false := by obtain ⟨_, _, _, _, e⟩ := hd ⟨13, .data⟩ (by simp) rfl rfl; exact e
                  have s52 := (hy 4 _ 52 rfl rfl).trans e4
                  have s52' := s52
                  rw [Array.getD_eq_getD_getElem?] at s52'
                  have s61 := (hy 13 _ 61 rfl rfl).trans e13
                  have s61' := s61
                  rw [Array.getD_eq_getD_getElem?] at s61'
                  clear hd hy hb
                  go_simp
                  exact hK.out _ W (stp_of hmo d (Below.refl _ _)) (if_pos rfl)
                case fin =>
                  intro yy lo hi W hM
                  show wpList _ _ _ [] _ _
                  have e0 : yy 0 = .int .i64 i := hM.fact 0 (by simp) rfl (notR_all 0 rfl)
                  have e1 : yy 1 = .slice (some ⟨ga, oa, none⟩) A.length ca := hM.fact 1 (by simp) rfl (notR_all 1 rfl)
                  have e2 : yy 2 = .int .i64 (A.length : Int) := hM.fact 2 (by simp) rfl (notR_all 2 rfl)
                  have e3 : yy 3 = .bool true := hM.fact 3 (by simp) rfl (notR_all 3 rfl)
                  have e4 : yy 4 = .bool true := hM.fact 4 (by simp) rfl (notR_all 4 rfl)
                  have e5 : yy 5 = .slice (some ⟨ga, oa, none⟩) A.length ca := hM.fact 5 (by simp) rfl (notR_all 5 rfl)
                  have e6 : yy 6 = .int .i64 i := hM.fact 6 (by simp) rfl (notR_all 6 rfl)
                  have e7 : yy 7 = .pointer (some ⟨ga, oa + i * 3, none⟩) := hM.fact 7 (by simp) rfl (notR_all 7 rfl)
                  have e8 : yy 8 = .agg #[.int .i64 x.1, .int .i64 x.2.1, .int .i64 x.2.2] := hM.fact 8 (by simp) rfl (notR_all 8 rfl)
                  have e9 : yy 9 = .slice (some ⟨gb, ob, none⟩) B.length cb := hM.fact 9 (by simp) rfl (notR_all 9 rfl)
                  have e10 : yy 10 = .int .i64 k := hM.fact 10 (by simp) rfl (notR_all 10 rfl)
                  have e11 : yy 11 = .pointer (some ⟨gb, ob + k * 3, none⟩) := hM.fact 11 (by simp) rfl (notR_all 11 rfl)
                  have e12 : yy 12 = .agg #[.int .i64 y.1, .int .i64 y.2.1, .int .i64 y.2.2] := hM.fact 12 (by simp) rfl (notR_all 12 rfl)
                  have e13 : yy 13 = .bool false := hM.fact 13 (by simp) rfl (notR_all 13 rfl)
                  have e14 : yy 14 = .bool false := hM.fact 14 (by simp) rfl (notR_all 14 rfl)
                  have DW := hide (HYB.out.trans (hM.d.mono HYB.out.size))
                  have OW := hide (own_below HYO.out hM.d)
                  simp only [fills, Act.put, List.take, List.length, List.setIfInBounds_toArray, List.set_cons_zero, List.set_cons_succ, e0, e1, e2, e3, e4, e5, e6, e7, e8, e9, e10, e11, e12, e13, e14]
                  clear hM hmo e0 e1 e2 e3 e4 e5 e6 e7 e8 e9 e10 e11 e12 e13 e14
                  go_wp2_with fail
                  go_meet
                  exact ⟨rfl, OW, DW⟩

              case rest =>
                obtain ⟨rfl, HYO, HYB⟩ := hcut
                rename World => wk
                obtain ⟨q1, q2, q3⟩ := RB.out wk HYB.out
                go_wp2_with (at_builtin; refine wpList_appE rfl _ _ rfl w.heap.size u5 X rfl (own_below HYO.out ((Below.refl _ _).alloc (Nat.le_refl _) _)) wk.heap.size y rfl (World.alloc_heap_new _ _) (by have := HXL.out; omega) w (HYB.out.alloc HYB.out.size _) (Nat.le_refl _) ?_; intro v2 w2 HO2 HD2)
                go_roundw
                case rel => exact ⟨i, k + 1, X ++ [y], by omega, by omega, rfl, by go_num, hide ⟨HO2.out, HN.out, HD2.out⟩⟩
                case measure => simp [intOf]; omega

      · have k0 : ¬ (k : Int) < (B.length : Int) := by omega
        have keq : ((k : Int) == (B.length : Int)) = true := by simp; omega
        have HNA : Hid (mrgE A B = X ++ [A[i]] ++ mrgE (A.drop (i + 1)) (B.drop k)) := hide (by rw [HYE.out, mrg_ea hia hkb]; simp)
        generalize A[i] = x at RA HNA
        go_upto_region 5 with fail
        go_cut [38] from 18 to 38 (fun v W => v = .bool true ∧ Hid (W.ownsRow w.heap.size 59 3 u5 X.length (X.flatMap encE)) ∧ Hid (Below w.heap.size w W))
        case first =>
          have hmo : MonIL 0 [vI 0 (.int .i64 k), vI 1 (.slice ab B.length cb), vI 2 (.int .i64 (B.length : Int)), vI 3 (.bool true), vI 4 (.bool true), vI 5 (undef), vI 6 (undef), vI 7 (undef), vI 8 (undef), vI 9 (undef), vI 10 (undef), vI 11 (undef), vI 12 (undef), vI 13 (undef), vI 14 (undef), vI 15 (undef), vI 16 (undef), vI 17 (undef), vI 18 (undef), vI 19 (undef), vI 20 (.bool true)] := ⟨vI_mono _ _, vI_mono _ _, vI_mono _ _, vI_mono _ _, vI_mono _ _, vI_mono _ _, vI_mono _ _, vI_mono _ _, vI_mono _ _, vI_mono _ _, vI_mono _ _, vI_mono _ _, vI_mono _ _, vI_mono _ _, vI_mono _ _, vI_mono _ _, vI_mono _ _, vI_mono _ _, vI_mono _ _, vI_mono _ _, vI_mono _ _, trivial⟩
          refine wp_region_sl [vI 0 (.int .i64 k), vI 1 (.slice ab B.length cb), vI 2 (.int .i64 (B.length : Int)), vI 3 (.bool true), vI 4 (.bool true), vI 5 (undef), vI 6 (undef), vI 7 (undef), vI 8 (undef), vI 9 (undef), vI 10 (undef), vI 11 (undef), vI 12 (undef), vI 13 (undef), vI 14 (undef), vI 15 (undef), vI 16 (undef), vI 17 (undef), vI 18 (undef), vI 19 (undef), vI 20 (.bool true)] (by kernel_rfl) (by kernel_rfl) (by kernel_rfl) (by kernel_rfl) hmo ⟨?o0, ?o1, ?o2, ?o3, ?o4, ?o5, ?o6, ?o7, ?o8, ?o9, ?o10, ?o11, ?o12, ?o13, ?o14, ?o15, ?o16, ?o17, ?o18, ?o19, ?o20, trivial⟩ ?fin
          case o0 =>
            intro At yy W hy hb d hd K hK
            have s7 : At.tmps.getD 7 undef = .int .i64 k := hb 7 rfl
            have s7' := s7
            rw [Array.getD_eq_getD_getElem?] at s7'
            clear hd hy hb
            go_simp
            exact hK.out _ W (stp_of hmo d (Below.refl _ _)) (if_pos rfl)
          case o1 =>
            intro At yy W hy hb d hd K hK
            have s1 : At.tmps.getD 1 undef = .slice ab B.length cb := hb 1 rfl
            have s1' := s1
            rw [Array.getD_eq_getD_getElem?] at s1'
            clear hd hy hb
            go_simp
            exact hK.out _ W (stp_of hmo d (Below.refl _ _)) (if_pos rfl)
          case o2 =>
            intro At yy W hy hb d hd K hK
            have e1 : yy 1 = .slice ab B.length cb := by obtain ⟨_, _, _, _, e⟩ := hd ⟨1, .data⟩ (by simp) rfl rfl; exact e
            have s19 := (hy 1 _ 19 rfl rfl).trans e1
            have s19' := s19
            rw [Array.getD_eq_getD_getElem?] at s19'
            clear hd hy hb
            go_simp
            exact hK.out _ W (stp_of hmo d (Below.refl _ _)) (if_pos rfl)
          case o3 =>
            intro At yy W hy hb d hd K hK
            have e0 : yy 0 = .int .i64 k := by obtain ⟨_, _, _, _, e⟩ := hd ⟨0, .data⟩ (by simp) rfl rfl; exact e
            have e2 : yy 2 = .int .i64 (B.length : Int) := by obtain ⟨_, _, _, _, e⟩ := hd ⟨2, .data⟩ (by simp) rfl rfl; exact e
            have s18 := (hy 0 _ 18 rfl rfl).trans e0
            have s18' := s18
            rw [Array.getD_eq_getD_getElem?] at s18'
            have s20 := (hy 2 _ 20 rfl rfl).trans e2
            have s20' := s20
            rw [Array.getD_eq_getD_getElem?] at s20'
            clear hd hy hb
            go_simp
            exact hK.out _ W (stp_of hmo d (Below.refl _ _)) (if_pos rfl)
          case o4 =>
            intro At yy W hy hb d hd K hK
            have e3 : yy 3 = .bool true := by obtain ⟨_, _, _, _, e⟩ := hd ⟨3, .data⟩ (by simp) rfl rfl; exact e
            have s21 := (hy 3 _ 21 rfl rfl).trans e3
            have s21' := s21
            rw [Array.getD_eq_getD_getElem?] at s21'
            clear hd hy hb
            go_simp
            exact hK.out _ W (stp_of hmo d (Below.refl _ _)) (if_pos rfl)
          case o5 =>
            intro At yy W hy hb d hd K hK
            have e4 : yy 4 = .bool true := by obtain ⟨_, _, _, _, e⟩ := hd ⟨4, .guard⟩ (by simp) rfl rfl; exact e
            have s22 := (hy 4 _ 22 rfl rfl).trans e4
            have s22' := s22
            rw [Array.getD_eq_getD_getElem?] at s22'
            have g22 := got_bool s22
            clear hd hy hb
            go_simp
            exact hK.out _ W (stp_of hmo d (Below.refl _ _)) (if_pos rfl)
          case o6 =>
            intro At yy W hy hb d hd K hK
            have e4 : yy 4 = .bool true := by obtain ⟨_, _, _, _, e⟩ := hd ⟨4, .guard⟩ (by simp) rfl rfl; exact e
            have s22 := (hy 4 _ 22 rfl rfl).trans e4
            have s22' := s22
            rw [Array.getD_eq_getD_getElem?] at s22'
            have g22 := got_bool s22
            clear hd hy hb
            go_simp
            exact hK.out _ W (stp_of hmo d (Below.refl _ _)) (if_pos rfl)
          case o7 =>
            intro At yy W hy hb d hd K hK
            have e6 : yy 6 = undef := by obtain ⟨_, _, _, _, e⟩ := hd ⟨6, .data⟩ (by simp) rfl rfl; exact e
            have e4 : yy 4 = .bool true := by obtain ⟨_, _, _, _, e⟩ := hd ⟨4, .guard⟩ (by simp) rfl rfl; exact e
            have s22 := (hy 4 _ 22 rfl rfl).trans e4
            have s22' := s22
            rw [Array.getD_eq_getD_getElem?] at s22'
            have g22 := got_bool s22
            clear hd hy hb
            go_simp
            exact hK.out _ W (stp_of hmo d (Below.refl _ _)) (if_pos rfl)
          case o8 =>
            intro At yy W hy hb d hd K hK
            have e5 : yy 5 = undef := by obtain ⟨_, _, _, _, e⟩ := hd ⟨5, .data⟩ (by simp) rfl rfl; exact e
            have e7 : yy 7 = undef := by obtain ⟨_, _, _, _, e⟩ := hd ⟨7, .data⟩ (by simp) rfl rfl; exact e
            have e4 : yy 4 = .bool true := by obtain ⟨_, _, _, _, e⟩ := hd ⟨4, .guard⟩ (by simp) rfl rfl; exact e
            have s22 := (hy 4 _ 22 rfl rfl).trans e4
            have s22' := s22
            rw [Array.getD_eq_getD_getElem?] at s22'
            have g22 := got_bool s22
            clear hd hy hb
            go_simp
            exact hK.out _ W (stp_of hmo d (Below.refl _ _)) (if_pos rfl)
          case o9 =>
            intro At yy W hy hb d hd K hK
            have e8 : yy 8 = undef := by obtain ⟨_, _, _, _, e⟩ := hd ⟨8, .data⟩ (by simp) rfl rfl; exact e
            have e4 : yy 4 = .bool true := by obtain ⟨_, _, _, _, e⟩ := hd ⟨4, .guard⟩ (by simp) rfl rfl; exact e
            have s22 := (hy 4 _ 22 rfl rfl).trans e4
            have s22' := s22
            rw [Array.getD_eq_getD_getElem?] at s22'
            have g22 := got_bool s22
            clear hd hy hb
            go_simp
            exact hK.out _ W (stp_of hmo d (Below.refl _ _)) (if_pos rfl)
          case o10 =>
            intro At yy W hy hb d hd K hK
            have e9 : yy 9 = undef := by obtain ⟨_, _, _, _, e⟩ := hd ⟨9, .guard⟩ (by simp) rfl rfl; exact e
            have s27 := (hy 9 _ 27 rfl rfl).trans e9
            have s27' := s27
            rw [Array.getD_eq_getD_getElem?] at s27'
            have g27 := got_undef s27
            clear hd hy hb
            rcases g27 with g27 | g27
            · go_simp
              exact hK.out _ W (stp_of hmo d (Below.refl _ _)) (if_pos rfl)
            · go_simp
              exact hK.out _ W (stp_of hmo d (Below.refl _ _)) (if_pos rfl)
          case o11 =>
            intro At yy W hy hb d hd K hK
            have e9 : yy 9 = undef := by obtain ⟨_, _, _, _, e⟩ := hd ⟨9, .guard⟩ (by simp) rfl rfl; exact e
            have s27 := (hy 9 _ 27 rfl rfl).trans e9
            have s27' := s27
            rw [Array.getD_eq_getD_getElem?] at s27'
            have g27 := got_undef s27
            clear hd hy hb
            rcases g27 with g27 | g27
            · go_simp
              exact hK.out _ W (stp_of hmo d (Below.refl _ _)) (if_pos rfl)
            · go_simp
              exact hK.out _ W (stp_of hmo d (Below.refl _ _)) (if_pos rfl)
          case o12 =>
            intro At yy W hy hb d hd K hK
            have e10 : yy 10 = undef := by obtain ⟨_, _, _, _, e⟩ := hd ⟨10, .data⟩ (by simp) rfl rfl; exact e
            have e11 : yy 11 = undef := by obtain ⟨_, _, _, _, e⟩ := hd ⟨11, .data⟩ (by simp) rfl rfl; exact e
            have e9 : yy 9 = undef := by obtain ⟨_, _, _, _, e⟩ := hd ⟨9, .guard⟩ (by simp) rfl rfl; exact e
            have s27 := (hy 9 _ 27 rfl rfl).trans e9
            have s27' := s27
            rw [Array.getD_eq_getD_getElem?] at s27'
            have g27 := got_undef s27
            clear hd hy hb
            rcases g27 with g27 | g27
            · go_simp
              exact hK.out _ W (stp_of hmo d (Below.refl _ _)) (if_pos rfl)
            · go_simp
              exact hK.out _ W (stp_of hmo d (Below.refl _ _)) (if_pos rfl)
          case o13 =>
            intro At yy W hy hb d hd K hK
            have e12 : yy 12 = undef := by obtain ⟨_, _, _, _, e⟩ := hd ⟨12, .data⟩ (by simp) rfl rfl; exact e
            have e9 : yy 9 = undef := by obtain ⟨_, _, _, _, e⟩ := hd ⟨9, .guard⟩ (by simp) rfl rfl; exact e
            have s27 := (hy 9 _ 27 rfl rfl).trans e9
            have s27' := s27
            rw [Array.getD_eq_getD_getElem?] at s27'
            have g27 := got_undef s27
            clear hd hy hb
            rcases g27 with g27 | g27
            · go_simp
              exact hK.out _ W (stp_of hmo d (Below.refl _ _)) (if_pos rfl)
            · go_simp
              exact hK.out _ W (stp_of hmo d (Below.refl _ _)) (if_pos rfl)
          case o14 =>
            intro At yy W hy hb d hd K hK
            have e9 : yy 9 = undef := by obtain ⟨_, _, _, _, e⟩ := hd ⟨9, .guard⟩ (by simp) rfl rfl; exact e
            have s27 := (hy 9 _ 27 rfl rfl).trans e9
            have s27' := s27
            rw [Array.getD_eq_getD_getElem?] at s27'
            have g27 := got_undef s27
            clear hd hy hb
            rcases g27 with g27 | g27
            · go_simp
              exact hK.out _ W (stp_of hmo d (Below.refl _ _)) (if_pos rfl)
            · go_simp
              exact hK.out _ W (stp_of hmo d (Below.refl _ _)) (if_pos rfl)
          case o15 =>
            intro At yy W hy hb d hd K hK
            have e9 : yy 9 = undef := by obtain ⟨_, _, _, _, e⟩ := hd ⟨9, .guard⟩ (by simp) rfl rfl; exact e
            have s27 := (hy 9 _ 27 rfl rfl).trans e9
            have s27' := s27
            rw [Array.getD_eq_getD_getElem?] at s27'
            have g27 := got_undef s27
            clear hd hy hb
            rcases g27 with g27 | g27
            · go_simp
              exact hK.out _ W (stp_of hmo d (Below.refl _ _)) (if_pos rfl)
            · go_simp
              exact hK.out _ W (stp_of hmo d (Below.refl _ _)) (if_pos rfl)
          case o16 =>
            intro At yy W hy hb d hd K hK
            have e14 : yy 14 = undef := by obtain ⟨_, _, _, _, e⟩ := hd ⟨14, .data⟩ (by simp) rfl rfl; exact e
            have e15 : yy 15 = undef := by obtain ⟨_, _, _, _, e⟩ := hd ⟨15, .data⟩ (by simp) rfl rfl; exact e
            have e9 : yy 9 = undef := by obtain ⟨_, _, _, _, e⟩ := hd ⟨9, .guard⟩ (by simp) rfl rfl; exact e
            have s27 := (hy 9 _ 27 rfl rfl).trans e9
            have s27' := s27
            rw [Array.getD_eq_getD_getElem?] at s27'
            have g27 := got_undef s27
            clear hd hy hb
            rcases g27 with g27 | g27
            · go_simp
              exact hK.out _ W (stp_of hmo d (Below.refl _ _)) (if_pos rfl)
            · go_simp
              exact hK.out _ W (stp_of hmo d (Below.refl _ _)) (if_pos rfl)
          case o17 =>
            intro At yy W hy hb d hd K hK
            have e16 : yy 16 = undef := by obtain ⟨_, _, _, _, e⟩ := hd ⟨16, .data⟩ (by simp) rfl rfl; exact e
            have e9 : yy 9 = undef := by obtain ⟨_, _, _, _, e⟩ := hd ⟨9, .guard⟩ (by simp) rfl rfl; exact e
            have s27 := (hy 9 _ 27 rfl rfl).trans e9
            have s27' := s27
            rw [Array.getD_eq_getD_getElem?] at s27'
            have g27 := got_undef s27
            clear hd hy hb
            rcases g27 with g27 | g27
            · go_simp
              exact hK.out _ W (stp_of hmo d (Below.refl _ _)) (if_pos rfl)
            · go_simp
              exact hK.out _ W (stp_of hmo d (Below.refl _ _)) (if_pos rfl)
          case o18 =>
            intro At yy W hy hb d hd K hK
            have e13 : yy 13 = undef := by obtain ⟨_, _, _, _, e⟩ := hd ⟨13, .data⟩ (by simp) rfl rfl; exact e
            have e17 : yy 17 = undef := by obtain ⟨_, _, _, _, e⟩ := hd ⟨17, .data⟩ (by simp) rfl rfl; exact e
            have e9 : yy 9 = undef := by obtain ⟨_, _, _, _, e⟩ := hd ⟨9, .guard⟩ (by simp) rfl rfl; exact e
            have s27 := (hy 9 _ 27 rfl rfl).trans e9
            have s27' := s27
            rw [Array.getD_eq_getD_getElem?] at s27'
            have g27 := got_undef s27
            clear hd hy hb
            rcases g27 with g27 | g27
            · go_simp
              exact hK.out _ W (stp_of hmo d (Below.refl _ _)) (if_pos rfl)
            · go_simp
              exact hK.out _ W (stp_of hmo d (Below.refl _ _)) (if_pos rfl)
          case o19 =>
            intro At yy W hy hb d hd K hK
            have e9 : yy 9 = undef := by obtain ⟨_, _, _, _, e⟩ := hd ⟨9, .data⟩ (by simp) rfl rfl; exact e
            have e18 : yy 18 = undef := by obtain ⟨_, _, _, _, e⟩ := hd ⟨18, .data⟩ (by simp) rfl rfl; exact e
            have e4 : yy 4 = .bool true := by obtain ⟨_, _, _, _, e⟩ := hd ⟨4, .guard⟩ (by simp) rfl rfl; exact e
            have s22 := (hy 4 _ 22 rfl rfl).trans e4
            have s22' := s22
            rw [Array.getD_eq_getD_getElem?] at s22'
            have g22 := got_bool s22
            clear hd hy hb
            go_simp
            exact hK.out _ W (stp_of hmo d (Below.refl _ _)) (if_pos rfl)
          case o20 =>
            intro At yy W hy hb d hd K hK
            have e4 : yy 4 = .bool true := by obtain ⟨_, _, _, _, e⟩ := hd ⟨4, .data⟩ (by simp) rfl rfl; exact e
            have e19 : yy 19 = undef := by obtain ⟨_, _, _, _, e⟩ := hd ⟨19, .data⟩ (by simp) rfl rfl; exact e
            have s22 := (hy 4 _ 22 rfl rfl).trans e4
            have s22' := s22
            rw [Array.getD_eq_getD_getElem?] at s22'
            have s37 := (hy 19 _ 37 rfl rfl).trans e19
            have s37' := s37
            rw [Array.getD_eq_getD_getElem?] at s37'
            clear hd hy hb
            go_simp
            exact hK.out _ W (stp_of hmo d (Below.refl _ _)) (if_pos rfl)
          case fin =>
            intro yy lo hi W hM
            show wpList _ _ _ [] _ _
            have e0 : yy 0 = .int .i64 k := hM.fact 0 (by simp) rfl (notR_all 0 rfl)
            have e1 : yy 1 = .slice ab B.length cb := hM.fact 1 (by simp) rfl (notR_all 1 rfl)
            have e2 : yy 2 = .int .i64 (B.length : Int) := hM.fact 2 (by simp) rfl (notR_all 2 rfl)
            have e3 : yy 3 = .bool true := hM.fact 3 (by simp) rfl (notR_all 3 rfl)
            have e4 : yy 4 = .bool true := hM.fact 4 (by simp) rfl (notR_all 4 rfl)
            have e5 : yy 5 = undef := hM.fact 5 (by simp) rfl (notR_all 5 rfl)
            have e6 : yy 6 = undef := hM.fact 6 (by simp) rfl (notR_all 6 rfl)
            have e7 : yy 7 = undef := hM.fact 7 (by simp) rfl (notR_all 7 rfl)
            have e8 : yy 8 = undef := hM.fact 8 (by simp) rfl (notR_all 8 rfl)
            have e9 : yy 9 = undef := hM.fact 9 (by simp) rfl (notR_all 9 rfl)
            have e10 : yy 10 = undef := hM.fact 10 (by simp) rfl (notR_all 10 rfl)
            have e11 : yy 11 = undef := hM.fact 11 (by simp) rfl (notR_all 11 rfl)
            have e12 : yy 12 = undef := hM.fact 12 (by simp) rfl (notR_all 12 rfl)
            have e13 : yy 13 = undef := hM.fact 13 (by simp) rfl (notR_all 13 rfl)
            have e14 : yy 14 = undef := hM.fact 14 (by simp) rfl (notR_all 14 rfl)
            have e15 : yy 15 = undef := hM.fact 15 (by simp) rfl (notR_all 15 rfl)
            have e16 : yy 16 = undef := hM.fact 16 (by simp) rfl (notR_all 16 rfl)
            have e17 : yy 17 = undef := hM.fact 17 (by simp) rfl (notR_all 17 rfl)
            have e18 : yy 18 = undef := hM.fact 18 (by simp) rfl (notR_all 18 rfl)
            have e19 : yy 19 = undef := hM.fact 19 (by simp) rfl (notR_all 19 rfl)
            have e20 : yy 20 = .bool true := hM.fact 20 (by simp) rfl (notR_all 20 rfl)
            have DW := hide (HYB.out.trans (hM.d.mono HYB.out.size))
            have OW := hide (own_below HYO.out hM.d)
            simp only [fills, Act.put, List.take, List.length, List.setIfInBounds_toArray, List.set_cons_zero, List.set_cons_succ, e0, e1, e2, e3, e4, e5, e6, e7, e8, e9, e10, e11, e12, e13, e14, e15, e16, e17, e18, e19, e20]
            clear hM hmo e0 e1 e2 e3 e4 e5 e6 e7 e8 e9 e10 e11 e12 e13 e14 e15 e16 e17 e18 e19 e20
            go_wp2_with fail
            go_meet
            exact ⟨rfl, OW, DW⟩

        case rest =>
          obtain ⟨rfl, HYO, HYB⟩ := hcut
          rename World => wk
          obtain ⟨q1, q2, q3⟩ := RA.out wk HYB.out
          go_wp2_with (at_builtin; refine wpList_appE rfl _ _ rfl w.heap.size u5 X rfl (own_below HYO.out ((Below.refl _ _).alloc (Nat.le_refl _) _)) wk.heap.size x rfl (World.alloc_heap_new _ _) (by have := HXL.out; omega) w (HYB.out.alloc HYB.out.size _) (Nat.le_refl _) ?_; intro v2 w2 HO2 HD2)
          go_roundw
          case rel => exact ⟨i + 1, k, X ++ [x], by omega, by omega, by go_num, rfl, hide ⟨HO2.out, HNA.out, HD2.out⟩⟩
          case measure => simp [intOf]; omega

    · have i0 : ¬ (i : Int) < (A.length : Int) := by omega
      by_cases hkb : k < B.length
      · have k0 : (k : Int) < (B.length : Int) := by omega
        have kne : ((k : Int) == (B.length : Int)) = false := by simp; omega
        obtain ⟨gb, ob, hbb, p1, p2, p3⟩ := hB.out k hkb
        subst hbb
        have RB : Hid (∀ W, Below w.heap.size w W → W.cell? ⟨gb, ob + k * 3, none⟩ = some (.int .i64 B[k].1) ∧ W.cell? ⟨gb, ob + k * 3 + 1, none⟩ = some (.int .i64 B[k].2.1) ∧ W.cell? ⟨gb, ob + k * 3 + 2, none⟩ = some (.int .i64 B[k].2.2)) := hide (fun W d => ⟨(d.cell (p := ⟨gb, ob + k * 3, none⟩) (World.block_lt_of_cell? w _ p1)).trans p1, (d.cell (p := ⟨gb, ob + k * 3 + 1, none⟩) (World.block_lt_of_cell? w _ p2)).trans p2, (d.cell (p := ⟨gb, ob + k * 3 + 2, none⟩) (World.block_lt_of_cell? w _ p3)).trans p3⟩)
        clear p1 p2 p3
        have HN : Hid (mrgE A B = X ++ [B[k]] ++ mrgE (A.drop i) (B.drop (k + 1))) := hide (by rw [HYE.out, mrg_eb hia hkb]; simp)
        generalize B[k] = y at RB HN
        go_upto_region 5 with fail
        go_cut [38] from 18 to 38 (fun v W => v = .bool false ∧ Hid (W.ownsRow w.heap.size 59 3 u5 X.length (X.flatMap encE)) ∧ Hid (Below w.heap.size w W))
        case first =>
          have hmo : MonIL 0 [vI 0 (.int .i64 k), vI 1 (.slice (some ⟨gb, ob, none⟩) B.length cb), vI 2 (.int .i64 (B.length : Int)), vI 3 (.bool false), vI 4 (.bool false), vI 5 (.int .i64 i), vI 6 (.slice aa A.length ca), vI 7 (.int .i64 (A.length : Int)), vI 8 (.bool false), vI 9 (.bool false), vI 10 (undef), vI 11 (undef), vI 12 (undef), vI 13 (undef), vI 14 (undef), vI 15 (undef), vI 16 (undef), vI 17 (undef), vI 18 (undef), vI 19 (.bool false), vI 20 (.bool false)] := ⟨vI_mono _ _, vI_mono _ _, vI_mono _ _, vI_mono _ _, vI_mono _ _, vI_mono _ _, vI_mono _ _, vI_mono _ _, vI_mono _ _, vI_mono _ _, vI_mono _ _, vI_mono _ _, vI_mono _ _, vI_mono _ _, vI_mono _ _, vI_mono _ _, vI_mono _ _, vI_mono _ _, vI_mono _ _, vI_mono _ _, vI_mono _ _, trivial⟩
          refine wp_region_sl [vI 0 (.int .i64 k), vI 1 (.slice (some ⟨gb, ob, none⟩) B.length cb), vI 2 (.int .i64 (B.length : Int)), vI 3 (.bool false), vI 4 (.bool false), vI 5 (.int .i64 i), vI 6 (.slice aa A.length ca), vI 7 (.int .i64 (A.length : Int)), vI 8 (.bool false), vI 9 (.bool false), vI 10 (undef), vI 11 (undef), vI 12 (undef), vI 13 (undef), vI 14 (undef), vI 15 (undef), vI 16 (undef), vI 17 (undef), vI 18 (undef), vI 19 (.bool false), vI 20 (.bool false)] (by kernel_rfl) (by kernel_rfl) (by kernel_rfl) (by kernel_rfl) hmo ⟨?o0, ?o1, ?o2, ?o3, ?o4, ?o5, ?o6, ?o7, ?o8, ?o9, ?o10, ?o11, ?o12, ?o13, ?o14, ?o15, ?o16, ?o17, ?o18, ?o19, ?o20, trivial⟩ ?fin
          case o0 =>
            intro At yy W hy hb d hd K hK
            have s7 : At.tmps.getD 7 undef = .int .i64 k := hb 7 rfl
            have s7' := s7
            rw [Array.getD_eq_getD_getElem?] at s7'
            clear hd hy hb
            go_simp
            exact hK.out _ W (stp_of hmo d (Below.refl _ _)) (if_pos rfl)
          case o1 =>
            intro At yy W hy hb d hd K hK
            have s1 : At.tmps.getD 1 undef = .slice (some ⟨gb, ob, none⟩) B.length cb := hb 1 rfl
            have s1' := s1
            rw [Array.getD_eq_getD_getElem?] at s1'
            clear hd hy hb
            go_simp
            exact hK.out _ W (stp_of hmo d (Below.refl _ _)) (if_pos rfl)
          case o2 =>
            intro At yy W hy hb d hd K hK
            have e1 : yy 1 = .slice (some ⟨gb, ob, none⟩) B.length cb := by obtain ⟨_, _, _, _, e⟩ := hd ⟨1, .data⟩ (by simp) rfl rfl; exact e
            have s19 := (hy 1 _ 19 rfl rfl).trans e1
            have s19' := s19
            rw [Array.getD_eq_getD_getElem?] at s19'
            clear hd hy hb
            go_simp
            exact hK.out _ W (stp_of hmo d (Below.refl _ _)) (if_pos rfl)
          case o3 =>
            intro At yy W hy hb d hd K hK
            have e0 : yy 0 = .int .i64 k := by obtain ⟨_, _, _, _, e⟩ := hd ⟨0, .data⟩ (by simp) rfl rfl; exact e
            have e2 : yy 2 = .int .i64 (B.length : Int) := by obtain ⟨_, _, _, _, e⟩ := hd ⟨2, .data⟩ (by simp) rfl rfl; exact e
            have s18 := (hy 0 _ 18 rfl rfl).trans e0
            have s18' := s18
            rw [Array.getD_eq_getD_getElem?] at s18'
            have s20 := (hy 2 _ 20 rfl rfl).trans e2
            have s20' := s20
            rw [Array.getD_eq_getD_getElem?] at s20'
            clear hd hy hb
            go_simp
            exact hK.out _ W (stp_of hmo d (Below.refl _ _)) (if_pos rfl)
          case o4 =>
            intro At yy W hy hb d hd K hK
            have e3 : yy 3 = .bool false := by obtain ⟨_, _, _, _, e⟩ := hd ⟨3, .data⟩ (by simp) rfl rfl; exact e
            have s21 := (hy 3 _ 21 rfl rfl).trans e3
            have s21' := s21
            rw [Array.getD_eq_getD_getElem?] at s21'
            clear hd hy hb
            go_simp
            exact hK.out _ W (stp_of hmo d (Below.refl _ _)) (if_pos rfl)
          case o5 =>
            intro At yy W hy hb d hd K hK
            have e4 : yy 4 = .bool false := by obtain ⟨_, _, _, _, e⟩ := hd ⟨4, .guard⟩ (by simp) rfl rfl; exact e
            have s6 : At.tmps.getD 6 undef = .int .i64 i := hb 6 rfl
            have s6' := s6
            rw [Array.getD_eq_getD_getElem?] at s6'
            have s22 := (hy 4 _ 22 rfl rfl).trans e4
            have s22' := s22
            rw [Array.getD_eq_getD_getElem?] at s22'
            have g22 := got_bool s22
            clear hd hy hb
            go_simp
            exact hK.out _ W (stp_of hmo d (Below.refl _ _)) (if_pos rfl)
          case o6 =>
            intro At yy W hy hb d hd K hK
            have e4 : yy 4 = .bool false := by obtain ⟨_, _, _, _, e⟩ := hd ⟨4, .guard⟩ (by simp) rfl rfl; exact e
            have s0 : At.tmps.getD 0 undef = .slice aa A.length ca := hb 0 rfl
            have s0' := s0
            rw [Array.getD_eq_getD_getElem?] at s0'
            have s22 := (hy 4 _ 22 rfl rfl).trans e4
            have s22' := s22
            rw [Array.getD_eq_getD_getElem?] at s22'
            have g22 := got_bool s22
            clear hd hy hb
            go_simp
            exact hK.out _ W (stp_of hmo d (Below.refl _ _)) (if_pos rfl)
          case o7 =>
            intro At yy W hy hb d hd K hK
            have e6 : yy 6 = .slice aa A.length ca := by obtain ⟨_, _, _, _, e⟩ := hd ⟨6, .data⟩ (by simp) rfl rfl; exact e
            have e4 : yy 4 = .bool false := by obtain ⟨_, _, _, _, e⟩ := hd ⟨4, .guard⟩ (by simp) rfl rfl; exact e
            have s22 := (hy 4 _ 22 rfl rfl).trans e4
            have s22' := s22
            rw [Array.getD_eq_getD_getElem?] at s22'
            have s24 := (hy 6 _ 24 rfl rfl).trans e6
            have s24' := s24
            rw [Array.getD_eq_getD_getElem?] at s24'
            have g22 := got_bool s22
            clear hd hy hb
            go_simp
            exact hK.out _ W (stp_of hmo d (Below.refl _ _)) (if_pos rfl)
          case o8 =>
            intro At yy W hy hb d hd K hK
            have e5 : yy 5 = .int .i64 i := by obtain ⟨_, _, _, _, e⟩ := hd ⟨5, .data⟩ (by simp) rfl rfl; exact e
            have e7 : yy 7 = .int .i64 (A.length : Int) := by obtain ⟨_, _, _, _, e⟩ := hd ⟨7, .data⟩ (by simp) rfl rfl; exact e
            have e4 : yy 4 = .bool false := by obtain ⟨_, _, _, _, e⟩ := hd ⟨4, .guard⟩ (by simp) rfl rfl; exact e
            have s22 := (hy 4 _ 22 rfl rfl).trans e4
            have s22' := s22
            rw [Array.getD_eq_getD_getElem?] at s22'
            have s23 := (hy 5 _ 23 rfl rfl).trans e5
            have s23' := s23
            rw [Array.getD_eq_getD_getElem?] at s23'
            have s25 := (hy 7 _ 25 rfl rfl).trans e7
            have s25' := s25
            rw [Array.getD_eq_getD_getElem?] at s25'
            have g22 := got_bool s22
            clear hd hy hb
            go_simp
            exact hK.out _ W (stp_of hmo d (Below.refl _ _)) (if_pos rfl)
          case o9 =>
            intro At yy W hy hb d hd K hK
            have e8 : yy 8 = .bool false := by obtain ⟨_, _, _, _, e⟩ := hd ⟨8, .data⟩ (by simp) rfl rfl; exact e
            have e4 : yy 4 = .bool false := by obtain ⟨_, _, _, _, e⟩ := hd ⟨4, .guard⟩ (by simp) rfl rfl; exact e
            have s22 := (hy 4 _ 22 rfl rfl).trans e4
            have s22' := s22
            rw [Array.getD_eq_getD_getElem?] at s22'
            have s26 := (hy 8 _ 26 rfl rfl).trans e8
            have s26' := s26
            rw [Array.getD_eq_getD_getElem?] at s26'
            have g22 := got_bool s22
            clear hd hy hb
            go_simp
            exact hK.out _ W (stp_of hmo d (Below.refl _ _)) (if_pos rfl)
          case o10 =>
            intro At yy W hy hb d hd K hK
            have e9 : yy 9 = .bool false := by obtain ⟨_, _, _, _, e⟩ := hd ⟨9, .guard⟩ (by simp) rfl rfl; exact e
            have s27 := (hy 9 _ 27 rfl rfl).trans e9
            have s27' := s27
            rw [Array.getD_eq_getD_getElem?] at s27'
            have g27 := got_bool s27
            clear hd hy hb
            go_simp
            exact hK.out _ W (stp_of hmo d (Below.refl _ _)) (if_pos rfl)
          case o11 =>
            intro At yy W hy hb d hd K hK
            have e9 : yy 9 = .bool false := by obtain ⟨_, _, _, _, e⟩ := hd ⟨9, .guard⟩ (by simp) rfl rfl; exact e
            have s27 := (hy 9 _ 27 rfl rfl).trans e9
            have s27' := s27
            rw [Array.getD_eq_getD_getElem?] at s27'
            have g27 := got_bool s27
            clear hd hy hb
            go_simp
            exact hK.out _ W (stp_of hmo d (Below.refl _ _)) (if_pos rfl)
          case o12 =>
            intro At yy W hy hb d hd K hK
            have e10 : yy 10 = undef := by obtain ⟨_, _, _, _, e⟩ := hd ⟨10, .data⟩ (by simp) rfl rfl; exact e
            have e11 : yy 11 = undef := by obtain ⟨_, _, _, _, e⟩ := hd ⟨11, .data⟩ (by simp) rfl rfl; exact e
            have e9 : yy 9 = .bool false := by obtain ⟨_, _, _, _, e⟩ := hd ⟨9, .guard⟩ (by simp) rfl rfl; exact e
            have s27 := (hy 9 _ 27 rfl rfl).trans e9
            have s27' := s27
            rw [Array.getD_eq_getD_getElem?] at s27'
            have g27 := got_bool s27
            clear hd hy hb
            go_simp
            exact hK.out _ W (stp_of hmo d (Below.refl _ _)) (if_pos rfl)
          case o13 =>
            intro At yy W hy hb d hd K hK
            have e12 : yy 12 = undef := by obtain ⟨_, _, _, _, e⟩ := hd ⟨12, .data⟩ (by simp) rfl rfl; exact e
            have e9 : yy 9 = .bool false := by obtain ⟨_, _, _, _, e⟩ := hd ⟨9, .guard⟩ (by simp) rfl rfl; exact e
            have s27 := (hy 9 _ 27 rfl rfl).trans e9
            have s27' := s27
            rw [Array.getD_eq_getD_getElem?] at s27'
            have g27 := got_bool s27
            clear hd hy hb
            go_simp
            exact hK.out _ W (stp_of hmo d (Below.refl _ _)) (if_pos rfl)
          case o14 =>
            intro At yy W hy hb d hd K hK
            have e9 : yy 9 = .bool false := by obtain ⟨_, _, _, _, e⟩ := hd ⟨9, .guard⟩ (by simp) rfl rfl; exact e
            have s27 := (hy 9 _ 27 rfl rfl).trans e9
            have s27' := s27
            rw [Array.getD_eq_getD_getElem?] at s27'
            have g27 := got_bool s27
            clear hd hy hb
            go_simp
            exact hK.out _ W (stp_of hmo d (Below.refl _ _)) (if_pos rfl)
          case o15 =>
            intro At yy W hy hb d hd K hK
            have e9 : yy 9 = .bool false := by obtain ⟨_, _, _, _, e⟩ := hd ⟨9, .guard⟩ (by simp) rfl rfl; exact e
            have s27 := (hy 9 _ 27 rfl rfl).trans e9
            have s27' := s27
            rw [Array.getD_eq_getD_getElem?] at s27'
            have g27 := got_bool s27
            clear hd hy hb
            go_simp
            exact hK.out _ W (stp_of hmo d (Below.refl _ _)) (if_pos rfl)
          case o16 =>
            intro At yy W hy hb d hd K hK
            have e14 : yy 14 = undef := by obtain ⟨_, _, _, _, e⟩ := hd ⟨14, .data⟩ (by simp) rfl rfl; exact e
            have e15 : yy 15 = undef := by obtain ⟨_, _, _, _, e⟩ := hd ⟨15, .data⟩ (by simp) rfl rfl; exact e
            have e9 : yy 9 = .bool false := by obtain ⟨_, _, _, _, e⟩ := hd ⟨9, .guard⟩ (by simp) rfl rfl; exact e
            have s27 := (hy 9 _ 27 rfl rfl).trans e9
            have s27' := s27
            rw [Array.getD_eq_getD_getElem?] at s27'
            have g27 := got_bool s27
            clear hd hy hb
            go_simp
            exact hK.out _ W (stp_of hmo d (Below.refl _ _)) (if_pos rfl)
          case o17 =>
            intro At yy W hy hb d hd K hK
            have e16 : yy 16 = undef := by obtain ⟨_, _, _, _, e⟩ := hd ⟨16, .data⟩ (by simp) rfl rfl; exact e
            have e9 : yy 9 = .bool false := by obtain ⟨_, _, _, _, e⟩ := hd ⟨9, .guard⟩ (by simp) rfl rfl; exact e
            have s27 := (hy 9 _ 27 rfl rfl).trans e9
            have s27' := s27
            rw [Array.getD_eq_getD_getElem?] at s27'
            have g27 := got_bool s27
            clear hd hy hb
            go_simp
            exact hK.out _ W (stp_of hmo d (Below.refl _ _)) (if_pos rfl)
          case o18 =>
            intro At yy W hy hb d hd K hK
            have e13 : yy 13 = undef := by obtain ⟨_, _, _, _, e⟩ := hd ⟨13, .data⟩ (by simp) rfl rfl; exact e
            have e17 : yy 17 = undef := by obtain ⟨_, _, _, _, e⟩ := hd ⟨17, .data⟩ (by simp) rfl rfl; exact e
            have e9 : yy 9 = .bool false := by obtain ⟨_, _, _, _, e⟩ := hd ⟨9, .guard⟩ (by simp) rfl rfl; exact e
            have s27 := (hy 9 _ 27 rfl rfl).trans e9
            have s27' := s27
            rw [Array.getD_eq_getD_getElem?] at s27'
            have g27 := got_bool s27
            clear hd hy hb
            go_simp
            exact hK.out _ W (stp_of hmo d (Below.refl _ _)) (if_pos rfl)
          case o19 =>
            intro At yy W hy hb d hd K hK
            have e9 : yy 9 = .bool false := by obtain ⟨_, _, _, _, e⟩ := hd ⟨9, .data⟩ (by simp) rfl rfl; exact e
            have e18 : yy 18 = undef := by obtain ⟨_, _, _, _, e⟩ := hd ⟨18, .data⟩ (by simp) rfl rfl; exact e
            have e4 : yy 4 = .bool false := by obtain ⟨_, _, _, _, e⟩ := hd ⟨4, .guard⟩ (by simp) rfl rfl; exact e
            have s22 := (hy 4 _ 22 rfl rfl).trans e4
            have s22' := s22
            rw [Array.getD_eq_getD_getElem?] at s22'
            have s27 := (hy 9 _ 27 rfl rfl).trans e9
            have s27' := s27
            rw [Array.getD_eq_getD_getElem?] at s27'
            have s36 := (hy 18 _ 36 rfl rfl).trans e18
            have s36' := s36
            rw [Array.getD_eq_getD_getElem?] at s36'
            have g22 := got_bool s22
            clear hd hy hb
            go_simp
            exact hK.out _ W (stp_of hmo d (Below.refl _ _)) (if_pos rfl)
          case o20 =>
            intro At yy W hy hb d hd K hK
            have e4 : yy 4 = .bool false := by obtain ⟨_, _, _, _, e⟩ := hd ⟨4, .data⟩ (by simp) rfl rfl; exact e
            have e19 : yy 19 = .bool false := by obtain ⟨_, _, _, _, e⟩ := hd ⟨19, .data⟩ (by simp) rfl rfl; exact e
            have s22 := (hy 4 _ 22 rfl rfl).trans e4
            have s22' := s22
            rw [Array.getD_eq_getD_getElem?] at s22'
            have s37 := (hy 19 _ 37 rfl rfl).trans e19
            have s37' := s37
            rw [Array.getD_eq_getD_getElem?] at s37'
            clear hd hy hb
            go_simp
            exact hK.out _ W (stp_of hmo d (Below.refl _ _)) (if_pos rfl)
          case fin =>
            intro yy lo hi W hM
            show wpList _ _ _ [] _ _
            have e0 : yy 0 = .int .i64 k := hM.fact 0 (by simp) rfl (notR_all 0 rfl)
            have e1 : yy 1 = .slice (some ⟨gb, ob, none⟩) B.length cb := hM.fact 1 (by simp) rfl (notR_all 1 rfl)
            have e2 : yy 2 = .int .i64 (B.length : Int) := hM.fact 2 (by simp) rfl (notR_all 2 rfl)
            have e3 : yy 3 = .bool false := hM.fact 3 (by simp) rfl (notR_all 3 rfl)
            have e4 : yy 4 = .bool false := hM.fact 4 (by simp) rfl (notR_all 4 rfl)
            have e5 : yy 5 = .int .i64 i := hM.fact 5 (by simp) rfl (notR_all 5 rfl)
            have e6 : yy 6 = .slice aa A.length ca := hM.fact 6 (by simp) rfl (notR_all 6 rfl)
            have e7 : yy 7 = .int .i64 (A.length : Int) := hM.fact 7 (by simp) rfl (notR_all 7 rfl)
            have e8 : yy 8 = .bool false := hM.fact 8 (by simp) rfl (notR_all 8 rfl)
            have e9 : yy 9 = .bool false := hM.fact 9 (by simp) rfl (notR_all 9 rfl)
            have e10 : yy 10 = undef := hM.fact 10 (by simp) rfl (notR_all 10 rfl)
            have e11 : yy 11 = undef := hM.fact 11 (by simp) rfl (notR_all 11 rfl)
            have e12 : yy 12 = undef := hM.fact 12 (by simp) rfl (notR_all 12 rfl)
            have e13 : yy 13 = undef := hM.fact 13 (by simp) rfl (notR_all 13 rfl)
            have e14 : yy 14 = undef := hM.fact 14 (by simp) rfl (notR_all 14 rfl)
            have e15 : yy 15 = undef := hM.fact 15 (by simp) rfl (notR_all 15 rfl)
            have e16 : yy 16 = undef := hM.fact 16 (by simp) rfl (notR_all 16 rfl)
            have e17 : yy 17 = undef := hM.fact 17 (by simp) rfl (notR_all 17 rfl)
            have e18 : yy 18 = undef := hM.fact 18 (by simp) rfl (notR_all 18 rfl)
            have e19 : yy 19 = .bool false := hM.fact 19 (by simp) rfl (notR_all 19 rfl)
            have e20 : yy 20 = .bool false := hM.fact 20 (by simp) rfl (notR_all 20 rfl)
            have DW := hide (HYB.out.trans (hM.d.mono HYB.out.size))
            have OW := hide (own_below HYO.out hM.d)
            simp only [fills, Act.put, List.take, List.length, List.setIfInBounds_toArray, List.set_cons_zero, List.set_cons_succ, e0, e1, e2, e3, e4, e5, e6, e7, e8, e9, e10, e11, e12, e13, e14, e15, e16, e17, e18, e19, e20]
            clear hM hmo e0 e1 e2 e3 e4 e5 e6 e7 e8 e9 e10 e11 e12 e13 e14 e15 e16 e17 e18 e19 e20
            go_wp2_with fail
            go_meet
            exact ⟨rfl, OW, DW⟩

        case rest =>
          obtain ⟨rfl, HYO, HYB⟩ := hcut
          rename World => wk
          go_upto_region 8 with fail
          go_cut [62] from 48 to 62 (fun v W => v = .bool false ∧ Hid (W.ownsRow w.heap.size 59 3 u5 X.length (X.flatMap encE)) ∧ Hid (Below w.heap.size w W))
          case first =>
            have hmo : MonIL 0 [vI 0 (.int .i64 i), vI 1 (.slice aa A.length ca), vI 2 (.int .i64 (A.length : Int)), vI 3 (.bool false), vI 4 (.bool false), vI 5 (undef), vI 6 (undef), vI 7 (undef), vI 8 (undef), vI 9 (undef), vI 10 (undef), vI 11 (undef), vI 12 (undef), vI 13 (undef), vI 14 (.bool false)] := ⟨vI_mono _ _, vI_mono _ _, vI_mono _ _, vI_mono _ _, vI_mono _ _, vI_mono _ _, vI_mono _ _, vI_mono _ _, vI_mono _ _, vI_mono _ _, vI_mono _ _, vI_mono _ _, vI_mono _ _, vI_mono _ _, vI_mono _ _, trivial⟩
            refine wp_region_sl [vI 0 (.int .i64 i), vI 1 (.slice aa A.length ca), vI 2 (.int .i64 (A.length : Int)), vI 3 (.bool false), vI 4 (.bool false), vI 5 (undef), vI 6 (undef), vI 7 (undef), vI 8 (undef), vI 9 (undef), vI 10 (undef), vI 11 (undef), vI 12 (undef), vI 13 (undef), vI 14 (.bool false)] (by kernel_rfl) (by kernel_rfl) (by kernel_rfl) (by kernel_rfl) hmo ⟨?o0, ?o1, ?o2, ?o3, ?o4, ?o5, ?o6, ?o7, ?o8, ?o9, ?o10, ?o11, ?o12, ?o13, ?o14, trivial⟩ ?fin
            case o0 =>
              intro At yy W hy hb d hd K hK
              have s6 : At.tmps.getD 6 undef = .int .i64 i := hb 6 rfl
              have s6' := s6
              rw [Array.getD_eq_getD_getElem?] at s6'
              clear hd hy hb
              go_simp
              exact hK.out _ W (stp_of hmo d (Below.refl _ _)) (if_pos rfl)
            case o1 =>
              intro At yy W hy hb d hd K hK
              have s0 : At.tmps.getD 0 undef = .slice aa A.length ca := hb 0 rfl
              have s0' := s0
              rw [Array.getD_eq_getD_getElem?] at s0'
              clear hd hy hb
              go_simp
              exact hK.out _ W (stp_of hmo d (Below.refl _ _)) (if_pos rfl)
            case o2 =>
              intro At yy W hy hb d hd K hK
              have e1 : yy 1 = .slice aa A.length ca := by obtain ⟨_, _, _, _, e⟩ := hd ⟨1, .data⟩ (by simp) rfl rfl; exact e
              have s49 := (hy 1 _ 49 rfl rfl).trans e1
              have s49' := s49
              rw [Array.getD_eq_getD_getElem?] at s49'
              clear hd hy hb
              go_simp
              exact hK.out _ W (stp_of hmo d (Below.refl _ _)) (if_pos rfl)
            case o3 =>
              intro At yy W hy hb d hd K hK
              have e0 : yy 0 = .int .i64 i := by obtain ⟨_, _, _, _, e⟩ := hd ⟨0, .data⟩ (by simp) rfl rfl; exact e
              have e2 : yy 2 = .int .i64 (A.length : Int) := by obtain ⟨_, _, _, _, e⟩ := hd ⟨2, .data⟩ (by simp) rfl rfl; exact e
              have s48 := (hy 0 _ 48 rfl rfl).trans e0
              have s48' := s48
              rw [Array.getD_eq_getD_getElem?] at s48'
              have s50 := (hy 2 _ 50 rfl rfl).trans e2
              have s50' := s50
              rw [Array.getD_eq_getD_getElem?] at s50'
              clear hd hy hb
              go_simp
              exact hK.out _ W (stp_of hmo d (Below.refl _ _)) (if_pos rfl)
            case o4 =>
              intro At yy W hy hb d hd K hK
              have e3 : yy 3 = .bool false := by obtain ⟨_, _, _, _, e⟩ := hd ⟨3, .data⟩ (by simp) rfl rfl; exact e
              have s51 := (hy 3 _ 51 rfl rfl).trans e3
              have s51' := s51
              rw [Array.getD_eq_getD_getElem?] at s51'
              clear hd hy hb
              go_simp
              exact hK.out _ W (stp_of hmo d (Below.refl _ _)) (if_pos rfl)
            case o5 =>
              intro At yy W hy hb d hd K hK
              have e4 : yy 4 = .bool false := by obtain ⟨_, _, _, _, e⟩ := hd ⟨4, .guard⟩ (by simp) rfl rfl; exact e
              have s52 := (hy 4 _ 52 rfl rfl).trans e4
              have s52' := s52
              rw [Array.getD_eq_getD_getElem?] at s52'
              have g52 := got_bool s52
              clear hd hy hb
              go_simp
              exact hK.out _ W (stp_of hmo d (Below.refl _ _)) (if_pos rfl)
            case o6 =>
              intro At yy W hy hb d hd K hK
              have e4 : yy 4 = .bool false := by obtain ⟨_, _, _, _, e⟩ := hd ⟨4, .guard⟩ (by simp) rfl rfl; exact e
              have s52 := (hy 4 _ 52 rfl rfl).trans e4
              have s52' := s52
              rw [Array.getD_eq_getD_getElem?] at s52'
              have g52 := got_bool s52
              clear hd hy hb
              go_simp
              exact hK.out _ W (stp_of hmo d (Below.refl _ _)) (if_pos rfl)
            case o7 =>
              intro At yy W hy hb d hd K hK
              have e5 : yy 5 = undef := by obtain ⟨_, _, _, _, e⟩ := hd ⟨5, .data⟩ (by simp) rfl rfl; exact e
              have e6 : yy 6 = undef := by obtain ⟨_, _, _, _, e⟩ := hd ⟨6, .data⟩ (by simp) rfl rfl; exact e
              have e4 : yy 4 = .bool false := by obtain ⟨_, _, _, _, e⟩ := hd ⟨4, .guard⟩ (by simp) rfl rfl; exact e
              have s52 := (hy 4 _ 52 rfl rfl).trans e4
              have s52' := s52
              rw [Array.getD_eq_getD_getElem?] at s52'
              have g52 := got_bool s52
              clear hd hy hb
              go_simp
              exact hK.out _ W (stp_of hmo d (Below.refl _ _)) (if_pos rfl)
            case o8 =>
              intro At yy W hy hb d hd K hK
              have e7 : yy 7 = undef := by obtain ⟨_, _, _, _, e⟩ := hd ⟨7, .data⟩ (by simp) rfl rfl; exact e
              have e4 : yy 4 = .bool false := by obtain ⟨_, _, _, _, e⟩ := hd ⟨4, .guard⟩ (by simp) rfl rfl; exact e
              have s52 := (hy 4 _ 52 rfl rfl).trans e4
              have s52' := s52
              rw [Array.getD_eq_getD_getElem?] at s52'
              have g52 := got_bool s52
              clear hd hy hb
              go_simp
              exact hK.out _ W (stp_of hmo d (Below.refl _ _)) (if_pos rfl)
            case o9 =>
              intro At yy W hy hb d hd K hK
              have e4 : yy 4 = .bool false := by obtain ⟨_, _, _, _, e⟩ := hd ⟨4, .guard⟩ (by simp) rfl rfl; exact e
              have s52 := (hy 4 _ 52 rfl rfl).trans e4
              have s52' := s52
              rw [Array.getD_eq_getD_getElem?] at s52'
              have g52 := got_bool s52
              clear hd hy hb
              go_simp
              exact hK.out _ W (stp_of hmo d (Below.refl _ _)) (if_pos rfl)
            case o10 =>
              intro At yy W hy hb d hd K hK
              have e4 : yy 4 = .bool false := by obtain ⟨_, _, _, _, e⟩ := hd ⟨4, .guard⟩ (by simp) rfl rfl; exact e
              have s52 := (hy 4 _ 52 rfl rfl).trans e4
              have s52' := s52
              rw [Array.getD_eq_getD_getElem?] at s52'
              have g52 := got_bool s52
              clear hd hy hb
              go_simp
              exact hK.out _ W (stp_of hmo d (Below.refl _ _)) (if_pos rfl)
            case o11 =>
              intro At yy W hy hb d hd K hK
              have e9 : yy 9 = undef := by obtain ⟨_, _, _, _, e⟩ := hd ⟨9, .data⟩ (by simp) rfl rfl; exact e
              have e10 : yy 10 = undef := by obtain ⟨_, _, _, _, e⟩ := hd ⟨10, .data⟩ (by simp) rfl rfl; exact e
              have e4 : yy 4 = .bool false := by obtain ⟨_, _, _, _, e⟩ := hd ⟨4, .guard⟩ (by simp) rfl rfl; exact e
              have s52 := (hy 4 _ 52 rfl rfl).trans e4
              have s52' := s52
              rw [Array.getD_eq_getD_getElem?] at s52'
              have g52 := got_bool s52
              clear hd hy hb
              go_simp
              exact hK.out _ W (stp_of hmo d (Below.refl _ _)) (if_pos rfl)
            case o12 =>
              intro At yy W hy hb d hd K hK
              have e11 : yy 11 = undef := by obtain ⟨_, _, _, _, e⟩ := hd ⟨11, .data⟩ (by simp) rfl rfl; exact e
              have e4 : yy 4 = .bool false := by obtain ⟨_, _, _, _, e⟩ := hd ⟨4, .guard⟩ (by simp) rfl rfl; exact e
              have s52 := (hy 4 _ 52 rfl rfl).trans e4
              have s52' := s52
              rw [Array.getD_eq_getD_getElem?] at s52'
              have g52 := got_bool s52
              clear hd hy hb
              go_simp
              exact hK.out _ W (stp_of hmo d (Below.refl _ _)) (if_pos rfl)
            case o13 =>
              intro At yy W hy hb d hd K hK
              have e8 : yy 8 = undef := by obtain ⟨_, _, _, _, e⟩ := hd ⟨8, .data⟩ (by simp) rfl rfl; exact e
              have e12 : yy 12 = undef := by obtain ⟨_, _, _, _, e⟩ := hd ⟨12, .data⟩ (by simp) rfl rfl; exact e
              have e4 : yy 4 = .bool false := by obtain ⟨_, _, _, _, e⟩ := hd ⟨4, .guard⟩ (by simp) rfl rfl; exact e
              have s52 := (hy 4 _ 52 rfl rfl).trans e4
              have s52' := s52
              rw [Array.getD_eq_getD_getElem?] at s52'
              have g52 := got_bool s52
              clear hd hy hb
              go_simp
              exact hK.out _ W (stp_of hmo d (Below.refl _ _)) (if_pos rfl)
            case o14 =>
              intro At yy W hy hb d hd K hK
              have e4 : yy 4 = .bool false := by obtain ⟨_, _, _, _, e⟩ := hd ⟨4, .data⟩ (by simp) rfl rfl; exact e
              have e13 : yy 13 = undef := by obtain ⟨_, _, _, _, e⟩ := hd ⟨13, .data⟩ (by simp) rfl rfl; exact e
              have s52 := (hy 4 _ 52 rfl rfl).trans e4
              have s52' := s52
              rw [Array.getD_eq_getD_getElem?] at s52'
              have s61 := (hy 13 _ 61 rfl rfl).trans e13
              have s61' := s61
              rw [Array.getD_eq_getD_getElem?] at s61'
              clear hd hy hb
              go_simp
              exact hK.out _ W (stp_of hmo d (Below.refl _ _)) (if_pos rfl)
            case fin =>
              intro yy lo hi W hM
              show wpList _ _ _ [] _ _
              have e0 : yy 0 = .int .i64 i := hM.fact 0 (by simp) rfl (notR_all 0 rfl)
              have e1 : yy 1 = .slice aa A.length ca := hM.fact 1 (by simp) rfl (notR_all 1 rfl)
              have e2 : yy 2 = .int .i64 (A.length : Int) := hM.fact 2 (by simp) rfl (notR_all 2 rfl)
              have e3 : yy 3 = .bool false := hM.fact 3 (by simp) rfl (notR_all 3 rfl)
              have e4 : yy 4 = .bool false := hM.fact 4 (by simp) rfl (notR_all 4 rfl)
              have e5 : yy 5 = undef := hM.fact 5 (by simp) rfl (notR_all 5 rfl)
              have e6 : yy 6 = undef := hM.fact 6 (by simp) rfl (notR_all 6 rfl)
              have e7 : yy 7 = undef := hM.fact 7 (by simp) rfl (notR_all 7 rfl)
              have e8 : yy 8 = undef := hM.fact 8 (by simp) rfl (notR_all 8 rfl)
              have e9 : yy 9 = undef := hM.fact 9 (by simp) rfl (notR_all 9 rfl)
              have e10 : yy 10 = undef := hM.fact 10 (by simp) rfl (notR_all 10 rfl)
              have e11 : yy 11 = undef := hM.fact 11 (by simp) rfl (notR_all 11 rfl)
              have e12 : yy 12 = undef := hM.fact 12 (by simp) rfl (notR_all 12 rfl)
              have e13 : yy 13 = undef := hM.fact 13 (by simp) rfl (notR_all 13 rfl)
              have e14 : yy 14 = .bool false := hM.fact 14 (by simp) rfl (notR_all 14 rfl)
              have DW := hide (HYB.out.trans (hM.d.mono HYB.out.size))
              have OW := hide (own_below HYO.out hM.d)
              simp only [fills, Act.put, List.take, List.length, List.setIfInBounds_toArray, List.set_cons_zero, List.set_cons_succ, e0, e1, e2, e3, e4, e5, e6, e7, e8, e9, e10, e11, e12, e13, e14]
              clear hM hmo e0 e1 e2 e3 e4 e5 e6 e7 e8 e9 e10 e11 e12 e13 e14
              go_wp2_with fail
              go_meet
              exact ⟨rfl, OW, DW⟩

          case rest =>
            obtain ⟨rfl, HYO, HYB⟩ := hcut
            rename World => wk
            obtain ⟨q1, q2, q3⟩ := RB.out wk HYB.out
            go_wp2_with (at_builtin; refine wpList_appE rfl _ _ rfl w.heap.size u5 X rfl (own_below HYO.out ((Below.refl _ _).alloc (Nat.le_refl _) _)) wk.heap.size y rfl (World.alloc_heap_new _ _) (by have := HXL.out; omega) w (HYB.out.alloc HYB.out.size _) (Nat.le_refl _) ?_; intro v2 w2 HO2 HD2)
            go_roundw
            case rel => exact ⟨i, k + 1, X ++ [y], by omega, by omega, rfl, by go_num, hide ⟨HO2.out, HN.out, HD2.out⟩⟩
            case measure => simp [intOf]; omega

      · have k0 : ¬ (k : Int) < (B.length : Int) := by omega
        have HX : Hid (mrgE A B = X) := hide (by rw [HYE.out, List.drop_eq_nil_of_le (show A.length ≤ i by omega), List.drop_eq_nil_of_le (show B.length ≤ k by omega)]; simp [mrgE])
        obtain ⟨b, c, hv⟩ := own_slice HYO.out
        subst hv
        go_wp2_with fail
        refine bodyPost_ret (results_tmp rfl _ _ _) rfl ?_
        exact ⟨b, c, by rw [HX.out]; rfl, by rw [HX.out]; exact HYO, HYB.out⟩
end Go.Proofs.YtfoahpideglghaaGreatDoor
