import Derived.Test.YtgnpdhgphkocoaaGreatDoorQac
import Derived.Shelf.Bits.Mul64
import Derived.Shelf.Slices.Reverse
import Derived.Shelf.Sort.Plain
import Derived.Shelf.Slices.Clone
import Derived.Shelf.Slices.In.SortNone
import Derived.Laws.AppendOwnNone
namespace Go.Proofs.YtgnpdhgphkocoaaGreatDoor
open Go.RowKit Go.Maps Go.Shelf
attribute [local go_sem] Oper.semAt_some
/-! ### The document's With and Set -/
theorem own_rdN {W : World} {B c : Nat} {b : Option Addr} {X : List Int} (h : W.ownsRow B 3 1 (.slice b X.length c) X.length (X.map (Value.int .i64))) : RdN W b X := by
  obtain ⟨b', c', hv, hD⟩ := rd_own h
  cases hv
  exact hD
/-- Another block written: a row stays. -/
theorem own_keep {W W' : World} {B n sz p : Nat} {e t : TypeId} {v : Value} {xs : List Value} {cs : Array Value} (h : W.ownsRow B e sz v n xs) (z : W.heap[p]? = some (.cells cs t (0, 0))) (ne : e ≠ t) (o : Only W W' (fun k => k = p)) : W'.ownsRow B e sz v n xs := by
  refine ⟨h.1, ?_⟩
  rcases h.2 with h1 | ⟨g, cap, cur, hv, hb, hg, rest⟩
  · exact Or.inl h1
  · refine Or.inr ⟨g, cap, cur, hv, hb, o.cellK hg (fun e2 => ?_), rest⟩
    subst e2
    rw [z] at hg
    injection hg with hg
    injection hg with _ h2 _
    exact ne h2.symm
theorem one_cells {W : World} {v : Value} {t : TypeId} {p : Nat} (z : W.heap[p]? = some (.cells #[v] t (0, 0))) : ∀ (j : Nat) (u : Value), [v][j]? = some u → W.cell? ((⟨p, 0, none⟩ : Addr).add j) = some u := fun j u hu => by
  cases j with
  | zero =>
    obtain rfl : v = u := by simpa using hu
    rw [Addr.add_lit]
    exact cell_of z rfl
  | succ j => simp at hu
/-- A number behind a row of one's own. -/
theorem wpList_appI {ops : Array Oper} {rest : List Oper} {o : Oper} {a : Act} {Q : Exit → Act → World → Prop} {w : World} (hgd : o.guard = none) (s x : Operand)
    (ho : o.op = .call { callee := .builtin .append, args := #[s, x], argTypes := #[22, 22] }) (B : Nat) (v : Value) (X : List Int) (hs : a.eval s = v) (hown : w.ownsRow B 3 1 v X.length (X.map (Value.int .i64))) (p : Nat) (y : Int) (hx : a.eval x = .slice (some ⟨p, 0, none⟩) 1 1) (hp : w.heap[p]? = some (.cells #[.int .i64 y] 3 (0, 0))) (hl : X.length ≤ 16777216) (w0 : World) (D : Below B w0 w) (hB : B ≤ w0.heap.size)
    (h : ∀ v' w', Hid (w'.ownsRow B 3 1 v' (X ++ [y]).length ((X ++ [y]).map (Value.int .i64))) → Hid (Below B w0 w') → wpList Tryz.prog ops Q rest (a.put o.dst v') w') : wpList Tryz.prog ops Q (o :: rest) a w := by
  obtain ⟨i3, hi3, hz30, hz31, hz32⟩ := info_parts info3
  have hs0 := D.size
  refine wpList_append_own_at _ hgd s x 22 ho B 3 i3 _ 1 8 Tryz.underlying22 hi3 hz30 hz31 hz32 rfl (by omega) v X.length (X.map (Value.int .i64)) hs hown ⟨p, 0, none⟩ 1 1 [.int .i64 y] hx rfl (one_cells hp) (by simp [Value.oneCell']) (by unfold maxLen; omega) (by omega) (by omega) ?_
  intro v2 w2 h2 hgr _ _
  have hb := hown.lt
  exact h v2 w2 (hide (by rw [List.map_append, List.length_append]; exact h2)) (hide (D.grown hgr (by omega) (fun k hk => (hb k hk).1)))
def stepW (n : Int) (s : Bool × List Int) (x : Int) : Bool × List Int :=
  let t : Bool × List Int := if s.1 = false ∧ n ≤ x then (true, s.2 ++ [n]) else s
  if x = n then t else (t.1, t.2 ++ [x])
def wS (n : Int) (L : List Int) : Bool × List Int := L.foldl (stepW n) (false, [])
def withF (L : List Int) (n : Int) : List Int := if (wS n L).1 then (wS n L).2 else (wS n L).2 ++ [n]
theorem wS_take {n : Int} {L : List Int} {i : Nat} (h : i < L.length) : wS n (L.take (i + 1)) = stepW n (wS n (L.take i)) L[i] := by
  unfold wS
  rw [List.take_succ_eq_append_getElem h, List.foldl_append]
  rfl
theorem stepW_len (n : Int) (s : Bool × List Int) (x : Int) : (stepW n s x).2.length ≤ s.2.length + 2 := by
  unfold stepW
  simp only
  split <;> split <;> simp <;> omega
theorem foldW_len (n : Int) : ∀ (L : List Int) (s : Bool × List Int), (L.foldl (stepW n) s).2.length ≤ s.2.length + 2 * L.length
  | [], s => by simp
  | x :: L, s => by
    have h1 := stepW_len n s x
    have h2 := foldW_len n L (stepW n s x)
    simp only [List.foldl_cons, List.length_cons]
    omega
theorem wS_len (n : Int) (L : List Int) (i : Nat) : (wS n (L.take i)).2.length ≤ 2 * L.length := by
  have h := foldW_len n (L.take i) (false, [])
  have h2 : (L.take i).length ≤ L.length := by rw [List.length_take]; omega
  unfold wS
  simp only [List.length_nil] at h
  omega
set_option maxRecDepth 100000 in
set_option maxHeartbeats 4000000 in
theorem with_any (w : World) (ao : Option Addr) (L : List Int) (cp : Nat) (n : Int) (hr : Hid (RdN w ao L)) (hl : L.length ≤ 4194304) :
    Calls Tryz.prog 65 #[.slice ao L.length cp, .int .i64 n] w fun e w' => ∃ b c, e = .returned (.slice b (withF L n).length c) ∧ Hid (w'.ownsRow w.heap.size 3 1 (.slice b (withF L n).length c) (withF L n).length ((withF L n).map (Value.int .i64))) ∧ Below w.heap.size w w' := by
  go_enter Tryz.func65, Tryz.ntmps65
  go_wp2
  go_loopw [5, 6, 7] (fun ov pv iv wr => ∃ i : Nat, i ≤ L.length ∧ pv = .bool (wS n (L.take i)).1 ∧ iv = .int .i64 i ∧ Hid (wr.ownsRow w.heap.size 3 1 ov (wS n (L.take i)).2.length ((wS n (L.take i)).2.map (Value.int .i64)) ∧ Below w.heap.size w wr)) (fun _ _ iv _ => L.length - (intOf iv).toNat)
  case atStart => exact ⟨0, Nat.zero_le _, rfl, rfl, hide ⟨World.ownsRow_nil _ _ _ _, Below.refl _ _⟩⟩
  case round =>
    obtain ⟨i, hi, rfl, rfl, HY⟩ := hrel
    by_cases hlt : i < L.length
    · have i0 : (i : Int) < (L.length : Int) := by omega
      have i1 : (0 : Int) ≤ (i : Int) := by omega
      have iw : IntKind.i64.wrap ((i : Int) + 1) = (i : Int) + 1 := by rw [IntKind.wrap_i64]; omega
      have HLn : Hid ((wS n (L.take i)).2.length ≤ 8388608) := hide (by have := wS_len n L i; omega)
      obtain ⟨g, o, hao, q0⟩ := hr.out i hlt
      subst hao
      have QC0 : Hid (∀ w2, Below w.heap.size w w2 → w2.cell? ⟨g, o + i, none⟩ = some (.int .i64 L[i])) := hide (fun w2 d => (d.cell (p := ⟨g, o + i, none⟩) (World.block_lt_of_cell? w _ q0)).trans q0)
      have q := QC0.out wr HY.out.2
      clear q0
      have HS := hide (wS_take (n := n) hlt)
      generalize L[i] = x at q HS QC0
      generalize wS n (L.take i) = s at HY HS HLn ⊢
      obtain ⟨p, X⟩ := s
      simp only at HY HLn ⊢
      have NX : Hid (∀ (p2 : Bool) (X2 : List Int) (v2 : Value) (w2 : World), stepW n (p, X) x = (p2, X2) → w2.ownsRow w.heap.size 3 1 v2 X2.length (X2.map (Value.int .i64)) → Below w.heap.size w w2 → ∃ j : Nat, j ≤ L.length ∧ Value.bool p2 = .bool (wS n (L.take j)).1 ∧ Value.int .i64 ((i : Int) + 1) = .int .i64 j ∧ Hid (w2.ownsRow w.heap.size 3 1 v2 (wS n (L.take j)).2.length ((wS n (L.take j)).2.map (Value.int .i64)) ∧ Below w.heap.size w w2)) := hide (fun p2 X2 v2 w2 e o d => ⟨i + 1, by omega, by rw [HS.out, e], by simp, hide ⟨by rw [HS.out, e]; exact o, d⟩⟩)
      have QC := QC0
      cases p with
      | false =>
        by_cases hge : n ≤ x
        · by_cases he : x = n
          · have b0 : (x != n) = false := by simpa using he
            have HN := hide (show stepW n (false, X) x = (true, X ++ [n]) by simp [stepW, he])
            clear he
            go_wp2_with (at_builtin; refine wpList_appI rfl _ _ rfl w.heap.size u5 X rfl (own_below HY.out.1 ((Below.refl _ _).alloc (Nat.le_refl _) _)) wr.heap.size n rfl (World.alloc_heap_new _ _) (by have := HLn.out; (try simp only [List.length_append, List.length_cons, List.length_nil]); omega) w (HY.out.2.alloc HY.out.2.size _) (Nat.le_refl _) ?_; intro v2 w2 HO2 HD2; have q2 := QC.out w2 HD2.out)
            go_roundw
            case rel => exact NX.out _ _ _ _ HN.out HO2.out HD2.out
            case measure => simp [intOf]; omega
          · have b0 : (x != n) = true := by simpa using he
            have HN := hide (show stepW n (false, X) x = (true, X ++ [n] ++ [x]) by simp [stepW, hge, he])
            clear he
            go_wp2_with (first
              | (at_builtin; refine wpList_appI rfl _ _ rfl w.heap.size u5 X rfl (own_below HY.out.1 ((Below.refl _ _).alloc (Nat.le_refl _) _)) wr.heap.size n rfl (World.alloc_heap_new _ _) (by have := HLn.out; (try simp only [List.length_append, List.length_cons, List.length_nil]); omega) w (HY.out.2.alloc HY.out.2.size _) (Nat.le_refl _) ?_; intro v2 w2 HO2 HD2; have q2 := QC.out w2 HD2.out)
              | (at_builtin; refine wpList_appI rfl _ _ rfl w.heap.size v2 (X ++ [n]) rfl (own_below HO2.out ((Below.refl _ _).alloc (Nat.le_refl _) _)) w2.heap.size x rfl (World.alloc_heap_new _ _) (by have := HLn.out; (try simp only [List.length_append, List.length_cons, List.length_nil]); omega) w (HD2.out.alloc HD2.out.size _) (Nat.le_refl _) ?_; intro v3 w3 HO3 HD3))
            go_roundw
            case rel => exact NX.out _ _ _ _ HN.out HO3.out HD3.out
            case measure => simp [intOf]; omega
        · have he : ¬ x = n := by omega
          have b0 : (x != n) = true := by simpa using he
          have HN := hide (show stepW n (false, X) x = (false, X ++ [x]) by simp [stepW, hge, he])
          clear he
          go_wp2_with (at_builtin; refine wpList_appI rfl _ _ rfl w.heap.size u5 X rfl (own_below HY.out.1 ((Below.refl _ _).alloc (Nat.le_refl _) _)) wr.heap.size x rfl (World.alloc_heap_new _ _) (by have := HLn.out; (try simp only [List.length_append, List.length_cons, List.length_nil]); omega) w (HY.out.2.alloc HY.out.2.size _) (Nat.le_refl _) ?_; intro v2 w2 HO2 HD2)
          go_roundw
          case rel => exact NX.out _ _ _ _ HN.out HO2.out HD2.out
          case measure => simp [intOf]; omega
      | true =>
        by_cases he : x = n
        · have b0 : (x != n) = false := by simpa using he
          have HN := hide (show stepW n (true, X) x = (true, X) by simp [stepW, he])
          clear he
          go_wp2_with fail
          go_roundw
          case rel => exact NX.out _ _ _ _ HN.out HY.out.1 HY.out.2
          case measure => simp [intOf]; omega
        · have b0 : (x != n) = true := by simpa using he
          have HN := hide (show stepW n (true, X) x = (true, X ++ [x]) by simp [stepW, he])
          clear he
          go_wp2_with (at_builtin; refine wpList_appI rfl _ _ rfl w.heap.size u5 X rfl (own_below HY.out.1 ((Below.refl _ _).alloc (Nat.le_refl _) _)) wr.heap.size x rfl (World.alloc_heap_new _ _) (by have := HLn.out; (try simp only [List.length_append, List.length_cons, List.length_nil]); omega) w (HY.out.2.alloc HY.out.2.size _) (Nat.le_refl _) ?_; intro v2 w2 HO2 HD2)
          go_roundw
          case rel => exact NX.out _ _ _ _ HN.out HO2.out HD2.out
          case measure => simp [intOf]; omega
    · have i0 : ¬ (i : Int) < (L.length : Int) := by omega
      have etk : L.take i = L := List.take_of_length_le (by omega)
      have HLn : Hid ((wS n (L.take i)).2.length ≤ 8388608) := hide (by have := wS_len n L i; omega)
      rw [etk] at HY HLn ⊢
      have HF : Hid (withF L n = if (wS n L).1 then (wS n L).2 else (wS n L).2 ++ [n]) := hide rfl
      generalize wS n L = s at HY HF HLn ⊢
      obtain ⟨p, X⟩ := s
      simp only at HY HF HLn ⊢
      cases p with
      | false =>
        go_wp2_with (at_builtin; refine wpList_appI rfl _ _ rfl w.heap.size u5 X rfl (own_below HY.out.1 ((Below.refl _ _).alloc (Nat.le_refl _) _)) wr.heap.size n rfl (World.alloc_heap_new _ _) (by have := HLn.out; (try simp only [List.length_append, List.length_cons, List.length_nil]); omega) w (HY.out.2.alloc HY.out.2.size _) (Nat.le_refl _) ?_; intro v2 w2 HO2 HD2; have HF2 := HF.out; simp only [Bool.false_eq_true, if_false] at HF2; obtain ⟨b, c, hv⟩ := own_slice HO2.out; subst hv; have HF3 := hide HF2; clear HF2)
        refine bodyPost_ret (results_tmp rfl _ _ _) rfl ?_
        exact ⟨b, c, by rw [HF3.out, List.length_append]; rfl, by rw [HF3.out]; exact HO2, HD2.out⟩
      | true =>
        have HF2 := HF.out
        simp only [if_true] at HF2
        have HF3 := hide HF2
        clear HF2
        obtain ⟨b, c, hv⟩ := own_slice HY.out.1
        subst hv
        go_wp2_with fail
        refine bodyPost_ret (results_tmp rfl _ _ _) rfl ?_
        exact ⟨b, c, by rw [HF3.out]; rfl, by rw [HF3.out]; exact hide HY.out.1, HY.out.2⟩
theorem foldW_put (n : Int) : ∀ (X O : List Int), X.foldl (stepW n) (true, O) = (true, O ++ X.filter (fun x => decide (x ≠ n)))
  | [], O => by simp
  | x :: X, O => by
    rw [List.foldl_cons]
    by_cases h : x = n
    · rw [show stepW n (true, O) x = (true, O) by simp [stepW, h], foldW_put n X O]
      simp [h]
    · rw [show stepW n (true, O) x = (true, O ++ [x]) by simp [stepW, h], foldW_put n X (O ++ [x])]
      simp [h]
theorem foldW_up (n : Int) : ∀ (X O : List Int), X.Pairwise (· < ·) → (if (X.foldl (stepW n) (false, O)).1 then (X.foldl (stepW n) (false, O)).2 else (X.foldl (stepW n) (false, O)).2 ++ [n]) = O ++ X.filter (fun x => decide (x < n)) ++ [n] ++ X.filter (fun x => decide (n < x))
  | [], O, _ => by simp
  | x :: X, O, h => by
    rw [List.pairwise_cons] at h
    rw [List.foldl_cons]
    by_cases hx : x < n
    · rw [show stepW n (false, O) x = (false, O ++ [x]) by simp [stepW, show ¬ n ≤ x by omega, show ¬ x = n by omega], foldW_up n X (O ++ [x]) h.2]
      simp [hx, show ¬ n < x by omega]
    · have hgt : ∀ y ∈ X, n < y := fun y hy => by have := h.1 y hy; omega
      have f1 : X.filter (fun x => decide (x < n)) = [] := List.filter_eq_nil_iff.2 fun y hy => by have := hgt y hy; simp; omega
      have f2 : X.filter (fun x => decide (n < x)) = X := List.filter_eq_self.2 fun y hy => by simpa using hgt y hy
      have f3 : X.filter (fun x => decide (x ≠ n)) = X := List.filter_eq_self.2 fun y hy => by have := hgt y hy; simp; omega
      by_cases he : x = n
      · rw [show stepW n (false, O) x = (true, O ++ [n]) by simp [stepW, he], foldW_put, f3]
        simp [f1, f2, he]
      · rw [show stepW n (false, O) x = (true, O ++ [n] ++ [x]) by simp [stepW, he, show n ≤ x by omega], foldW_put, f3]
        simp [f1, f2, hx, show n < x by omega]
theorem with_up {X : List Int} (n : Int) (h : X.Pairwise (· < ·)) : withF X n = X.filter (fun x => decide (x < n)) ++ [n] ++ X.filter (fun x => decide (n < x)) := by
  unfold withF wS
  rw [foldW_up n X [] h, List.nil_append]
theorem rise_nil : riseL [] = [] := List.eq_nil_of_length_eq_zero (Nat.le_zero.1 (riseL_len []))
theorem with_rise (A : List Int) (n : Int) : withF (riseL A) n = riseL (A ++ [n]) := by
  have hs := riseL_ss A
  refine ssL_eq _ _ ?_ (riseL_ss _) fun x => ?_
  · rw [with_up n hs, List.append_assoc, List.pairwise_append]
    refine ⟨hs.filter _, ?_, ?_⟩
    · rw [List.singleton_append, List.pairwise_cons]
      exact ⟨fun y hy => by simpa using (List.mem_filter.1 hy).2, hs.filter _⟩
    · intro a ha b hb
      have h1 : a < n := by simpa using (List.mem_filter.1 ha).2
      rw [List.singleton_append, List.mem_cons] at hb
      rcases hb with rfl | hb
      · exact h1
      · have h2 : n < b := by simpa using (List.mem_filter.1 hb).2
        omega
  · rw [with_up n hs, riseL_iff]
    simp only [List.mem_append, List.mem_filter, List.mem_singleton, decide_eq_true_eq, riseL_iff]
    constructor
    · rintro ((⟨h, _⟩ | h) | ⟨h, _⟩)
      · exact Or.inl h
      · exact Or.inr h
      · exact Or.inl h
    · rintro (h | h)
      · rcases Int.lt_trichotomy x n with h1 | h1 | h1
        · exact Or.inl (Or.inl ⟨h, h1⟩)
        · exact Or.inl (Or.inr h1)
        · exact Or.inr ⟨h, h1⟩
      · exact Or.inl (Or.inr h)
set_option maxRecDepth 100000 in
set_option maxHeartbeats 4000000 in
theorem set_any (w : World) (ao : Option Addr) (L : List Int) (cp : Nat) (hr : Hid (RdN w ao L)) (hl : L.length ≤ 4194304) :
    Calls Tryz.prog 21 #[.slice ao L.length cp] w fun e w' => ∃ b c, e = .returned (.slice b (riseL L).length c) ∧ Hid (w'.ownsRow w.heap.size 3 1 (.slice b (riseL L).length c) (riseL L).length ((riseL L).map (Value.int .i64))) ∧ Below w.heap.size w w' := by
  go_enter Tryz.func21, Tryz.ntmps21
  go_wp2
  go_loopw [3, 4] (fun ov iv wr => ∃ i b c, i ≤ L.length ∧ ov = .slice b (riseL (L.take i)).length c ∧ iv = .int .i64 (i : Nat) ∧ Hid (wr.ownsRow w.heap.size 3 1 (.slice b (riseL (L.take i)).length c) (riseL (L.take i)).length ((riseL (L.take i)).map (Value.int .i64)) ∧ Below w.heap.size w wr)) (fun _ iv _ => L.length - (intOf iv).toNat)
  case atStart => exact ⟨0, none, 0, Nat.zero_le _, by rw [List.take_zero, rise_nil]; rfl, rfl, hide ⟨by rw [List.take_zero, rise_nil]; exact World.ownsRow_nil _ _ _ _, Below.refl _ _⟩⟩
  case round =>
    obtain ⟨i, b, c, hi, rfl, rfl, HY⟩ := hrel
    by_cases hlt : i < L.length
    · have i0 : (i : Int) < (L.length : Int) := by omega
      have i1 : (0 : Int) ≤ (i : Int) := by omega
      have iw : IntKind.i64.wrap ((i : Int) + 1) = (i : Int) + 1 := by rw [IntKind.wrap_i64]; omega
      obtain ⟨g, o, hao, q⟩ := (hr.out.on HY.out.2) i hlt
      subst hao
      have hlen : (riseL (L.take i)).length ≤ 4194304 := Nat.le_trans (riseL_len _) (by rw [List.length_take]; omega)
      have T := with_any wr b (riseL (L.take i)) c L[i] (hide (own_rdN HY.out.1)) hlen
      rw [with_rise, ← List.take_succ_eq_append_getElem hlt] at T
      generalize L[i] = x at q T
      generalize riseL (L.take i) = X at HY T ⊢
      clear hlen
      obtain ⟨Y, hY⟩ : ∃ Y, riseL (L.take (i + 1)) = Y := ⟨_, rfl⟩
      rw [hY] at T
      have HE := hide hY
      clear hY
      go_wp2_with (go_at_call 65; refine T.mono ?_; rintro e w2 ⟨b2, c2, rfl, HR, d2⟩; have HD := hide (HY.out.2.trans (d2.mono HY.out.2.size)); have HR2 := hide (owns_down HR.out HY.out.2.size); clear d2 HR)
      go_roundw
      case rel => exact ⟨i + 1, b2, c2, by omega, by rw [HE.out], by go_num, hide ⟨by rw [HE.out]; exact HR2.out, HD.out⟩⟩
      case measure => simp [intOf]; omega
    · have i0 : ¬ (i : Int) < (L.length : Int) := by omega
      have etk : L.take i = L := List.take_of_length_le (by omega)
      rw [etk] at HY ⊢
      go_wp2_with fail
      refine bodyPost_ret (results_tmp rfl _ _ _) rfl ?_
      exact ⟨b, c, rfl, hide HY.out.1, HY.out.2⟩
/-! ### Rising lists -/
theorem ssI_eq : ∀ {A B : List Int}, A.Pairwise (· < ·) → B.Pairwise (· < ·) → (∀ x, x ∈ A ↔ x ∈ B) → A = B
  | [], [], _, _, _ => rfl
  | [], b :: B, _, _, h => by have := (h b).2 List.mem_cons_self; cases this
  | a :: A, [], _, _, h => by have := (h a).1 List.mem_cons_self; cases this
  | a :: A, b :: B, hA, hB, h => by
    rw [List.pairwise_cons] at hA hB
    have e : a = b := by
      have h1 := (h a).1 List.mem_cons_self
      have h2 := (h b).2 List.mem_cons_self
      rcases List.mem_cons.1 h1 with e | h1
      · exact e
      · rcases List.mem_cons.1 h2 with e | h2
        · exact e.symm
        · have := hB.1 a h1
          have := hA.1 b h2
          omega
    subst e
    refine congrArg (a :: ·) (ssI_eq hA.2 hB.2 fun x => ⟨fun hx => ?_, fun hx => ?_⟩)
    · rcases List.mem_cons.1 ((h x).1 (List.mem_cons_of_mem _ hx)) with e | h1
      · subst e; exact absurd (hA.1 x hx) (by omega)
      · exact h1
    · rcases List.mem_cons.1 ((h x).2 (List.mem_cons_of_mem _ hx)) with e | h1
      · subst e; exact absurd (hB.1 x hx) (by omega)
      · exact h1
theorem rise_old {L : List Int} {x : Int} (h : x ∈ riseL L) : riseL (L ++ [x]) = riseL L := ssI_eq (riseL_ss _) (riseL_ss _) fun y => by
  rw [riseL_iff, riseL_iff, List.mem_append, List.mem_singleton]
  rw [riseL_iff] at h
  exact ⟨fun k => k.elim id (fun e => e ▸ h), Or.inl⟩
/-- Where edges of a symbol lead from a list's states (back: to them). -/
def imgL (back : Bool) (Ed : List EdT) (Q : List Int) (sym : Int) : List Int := (Ed.filter fun e => decide (e.2.1 = sym ∧ (ends back e).1 ∈ Q)).map fun e => (ends back e).2
theorem imgL_iff {back : Bool} {Ed : List EdT} {Q : List Int} {sym x : Int} : x ∈ imgL back Ed Q sym ↔ ∃ e ∈ Ed, e.2.1 = sym ∧ (ends back e).1 ∈ Q ∧ (ends back e).2 = x := by
  unfold imgL
  simp only [List.mem_map, List.mem_filter, decide_eq_true_eq]
  exact ⟨fun ⟨e, ⟨h, a, b⟩, c⟩ => ⟨e, h, a, b, c⟩, fun ⟨e, h, a, b, c⟩ => ⟨e, ⟨h, a, b⟩, c⟩⟩
theorem imgL_len (back : Bool) (Ed : List EdT) (Q : List Int) (sym : Int) : (imgL back Ed Q sym).length ≤ Ed.length := by
  unfold imgL
  rw [List.length_map]
  exact List.length_filter_le _ _
theorem imgL_take {back : Bool} {Ed : List EdT} {Q : List Int} {sym : Int} {i : Nat} (h : i < Ed.length) : imgL back (Ed.take (i + 1)) Q sym = if Ed[i].2.1 = sym ∧ (ends back Ed[i]).1 ∈ Q then imgL back (Ed.take i) Q sym ++ [(ends back Ed[i]).2] else imgL back (Ed.take i) Q sym := by
  unfold imgL
  rw [List.take_succ_eq_append_getElem h, List.filter_append, List.map_append]
  by_cases k : Ed[i].2.1 = sym ∧ (ends back Ed[i]).1 ∈ Q
  · rw [if_pos k, List.filter_cons_of_pos (by simpa using k)]; rfl
  · rw [if_neg k, List.filter_cons_of_neg (by simpa using k)]; simp
set_option maxRecDepth 100000 in
set_option maxHeartbeats 2000000 in
theorem rnext_any (w : World) (n m : Int) (a1 a2 a3 q1 : Option Addr) (c1 c2 c3 cq : Nat) (St Fi : List Int) (Ed : List EdT) (Q : List Int) (sym : Int) (hA : Hid (RdA w a1 a2 a3 St Fi Ed)) (hQ : Hid (RdN w q1 Q)) (h3 : Ed.length ≤ 4194304) (hq : Q.length ≤ 4194304) :
    Calls Tryz.prog 57 #[.agg #[.int .i64 n, .int .i64 m, .slice a1 St.length c1, .slice a2 Fi.length c2, .slice a3 Ed.length c3], .slice q1 Q.length cq, .int .i64 sym] w fun e w' => ∃ b c, e = .returned (.slice b (riseL (imgL false Ed Q sym)).length c) ∧ Hid (w'.ownsRow w.heap.size 3 1 (.slice b (riseL (imgL false Ed Q sym)).length c) (riseL (imgL false Ed Q sym)).length ((riseL (imgL false Ed Q sym)).map (Value.int .i64))) ∧ Below w.heap.size w w' := by
  obtain ⟨W0, hW0⟩ : ∃ W0, w.alloc (.cells #[.int .i64 n, .int .i64 m, .slice a1 St.length c1, .slice a2 Fi.length c2, .slice a3 Ed.length c3] 25) = W0 := ⟨_, rfl⟩
  have H0 : Hid (Below w.heap.size w W0 ∧ W0.heap[w.heap.size]? = some (.cells #[.int .i64 n, .int .i64 m, .slice a1 St.length c1, .slice a2 Fi.length c2, .slice a3 Ed.length c3] 25 (0, 0))) := hide ⟨by rw [← hW0]; exact alloc_below _ _, by rw [← hW0]; exact World.alloc_heap_new _ _⟩
  go_enter Tryz.func57, Tryz.ntmps57
  go_wp2_with fail
  clear hW0
  go_loopw [7, 8] (fun ov iv wr => ∃ i b c, i ≤ Ed.length ∧ ov = .slice b (riseL (imgL false (Ed.take i) Q sym)).length c ∧ iv = .int .i64 (i : Nat) ∧ Hid (wr.ownsRow w.heap.size 3 1 (.slice b (riseL (imgL false (Ed.take i) Q sym)).length c) (riseL (imgL false (Ed.take i) Q sym)).length ((riseL (imgL false (Ed.take i) Q sym)).map (Value.int .i64)) ∧ Below W0.heap.size W0 wr)) (fun _ iv _ => Ed.length - (intOf iv).toNat)
  case atStart => exact ⟨0, none, 0, Nat.zero_le _, by rw [List.take_zero, show imgL false [] Q sym = [] from rfl, rise_nil]; rfl, rfl, hide ⟨by rw [List.take_zero, show imgL false [] Q sym = [] from rfl, rise_nil]; exact World.ownsRow_nil _ _ _ _, Below.refl _ _⟩⟩
  case round =>
    obtain ⟨i, b, c, hi, rfl, rfl, HY⟩ := hrel
    have eb := blk_on H0.out.2 HY.out.2
    have y4 : wr.cell? ⟨w.heap.size, 4, none⟩ = some (.slice a3 Ed.length c3) := cell_of eb rfl
    have dw := H0.out.1.trans (HY.out.2.mono H0.out.1.size)
    clear eb
    by_cases hlt : i < Ed.length
    · have i0 : (i : Int) < (Ed.length : Int) := by omega
      have i1 : (0 : Int) ≤ (i : Int) := by omega
      have iw : IntKind.i64.wrap ((i : Int) + 1) = (i : Int) + 1 := by rw [IntKind.wrap_i64]; omega
      obtain ⟨g, o, hao, q0, q1', q2⟩ := (hA.out.e.on dw) i hlt
      subst hao
      have hlen : (riseL (imgL false (Ed.take i) Q sym)).length ≤ 4194304 := Nat.le_trans (riseL_len _) (Nat.le_trans (imgL_len _ _ _ _) (by rw [List.length_take]; omega))
      have HT := hide (imgL_take (back := false) (Q := Q) (sym := sym) hlt)
      generalize Ed[i] = x at q0 q1' q2 HT
      obtain ⟨x1, x2, x3⟩ := x
      simp only [ends] at HT
      simp only [if_false, Bool.false_eq_true] at HT
      obtain ⟨w1, hw1⟩ : ∃ w1, wr.alloc (.cells #[.int .i64 x1, .int .i64 x2, .int .i64 x3] 62) = w1 := ⟨_, rfl⟩
      have H1 : Hid (Below wr.heap.size wr w1 ∧ w1.heap[wr.heap.size]? = some (.cells #[.int .i64 x1, .int .i64 x2, .int .i64 x3] 62 (0, 0))) := hide ⟨by rw [← hw1]; exact alloc_below _ _, by rw [← hw1]; exact World.alloc_heap_new _ _⟩
      have HY1 : Hid (w1.ownsRow w.heap.size 3 1 (.slice b (riseL (imgL false (Ed.take i) Q sym)).length c) (riseL (imgL false (Ed.take i) Q sym)).length ((riseL (imgL false (Ed.take i) Q sym)).map (Value.int .i64)) ∧ Below W0.heap.size W0 w1) := hide ⟨own_below HY.out.1 H1.out.1, HY.out.2.trans (H1.out.1.mono HY.out.2.size)⟩
      have HQ1 : Hid (RdN w1 q1 Q) := hide (hQ.out.on (dw.trans (H1.out.1.mono dw.size)))
      have HSZ : Hid (w.heap.size ≤ w1.heap.size) := hide (Nat.le_trans dw.size H1.out.1.size)
      have T := with_any w1 b (riseL (imgL false (Ed.take i) Q sym)) c x3 (hide (own_rdN HY1.out.1)) hlen
      rw [with_rise] at T
      have z0 : w1.cell? ⟨wr.heap.size, 0, none⟩ = some (.int .i64 x1) := cell_of H1.out.2 rfl
      have z1 : w1.cell? ⟨wr.heap.size, 1, none⟩ = some (.int .i64 x2) := cell_of H1.out.2 rfl
      have z2 : w1.cell? ⟨wr.heap.size, 2, none⟩ = some (.int .i64 x3) := cell_of H1.out.2 rfl
      clear HY dw
      have HN : Hid (∀ x, x ∈ riseL (imgL false (Ed.take i) Q sym) → riseL (imgL false (Ed.take i) Q sym ++ [x]) = riseL (imgL false (Ed.take i) Q sym)) := hide fun x h => rise_old h
      go_upto_region 6 with fail
      clear hw1 q0 q1' q2 y4
      generalize wr.heap.size = pe at z0 z1 z2 H1 ⊢
      by_cases e1 : x2 = sym
      · by_cases e2 : x1 ∈ Q
        · rw [if_pos ⟨e1, e2⟩] at HT
          have k1 : (x2 == sym) = true := by simpa using e1
          have k2 : decide (x1 ∈ Q) = true := by simpa using e2
          by_cases e3 : x3 ∈ riseL (imgL false (Ed.take i) Q sym)
          · have HE : Hid (riseL (imgL false (Ed.take (i + 1)) Q sym) = riseL (imgL false (Ed.take i) Q sym)) := hide (by rw [HT.out]; exact HN.out _ e3)
            have k3 : decide (x3 ∈ riseL (imgL false (Ed.take i) Q sym)) = true := by simpa using e3
            clear e1 e2 e3 HT HN T
            generalize riseL (imgL false (Ed.take i) Q sym) = X at HY1 HE k3 hlen ⊢
            go_wp2_with (first
              | (go_at_call_of 101 q1; refine (in60 w1 q1 Q cq x1 (hide HQ1.out) (by omega)).mono ?_; rintro e w' ⟨rfl, hw'⟩; obtain rfl := hw'.symm; clear hw'; rw [k2])
              | (go_at_call_of 101 b; refine (in60 w1 b X c x3 (hide (own_rdN HY1.out.1)) hlen).mono ?_; rintro e w' ⟨rfl, hw'⟩; obtain rfl := hw'.symm; clear hw'; rw [k3]))
            go_roundw
            case rel => exact ⟨i + 1, b, c, by omega, by rw [HE.out], by go_num, hide ⟨by rw [HE.out]; exact HY1.out.1, HY1.out.2⟩⟩
            case measure => simp [intOf]; omega
          · have k3 : decide (x3 ∈ riseL (imgL false (Ed.take i) Q sym)) = false := by simpa using e3
            have HE := hide (congrArg riseL HT.out)
            generalize riseL (imgL false (Ed.take i) Q sym ++ [x3]) = Y at T HE
            clear e1 e2 e3 HT HN
            generalize riseL (imgL false (Ed.take i) Q sym) = X at HY1 k3 hlen T ⊢
            go_wp2_with (first
              | (go_at_call_of 101 q1; refine (in60 w1 q1 Q cq x1 (hide HQ1.out) (by omega)).mono ?_; rintro e w' ⟨rfl, hw'⟩; obtain rfl := hw'.symm; clear hw'; rw [k2])
              | (go_at_call_of 101 b; refine (in60 w1 b X c x3 (hide (own_rdN HY1.out.1)) hlen).mono ?_; rintro e w' ⟨rfl, hw'⟩; obtain rfl := hw'.symm; clear hw'; rw [k3])
              | (go_at_call 65; refine T.mono ?_; rintro e w2 ⟨b2, c2, rfl, HR, d2⟩; have HD := hide (HY1.out.2.trans (d2.mono HY1.out.2.size)); have HR2 := hide (owns_down HR.out HSZ.out); clear d2 HR))
            go_roundw
            case rel => exact ⟨i + 1, b2, c2, by omega, by rw [HE.out], by go_num, hide ⟨by rw [HE.out]; exact HR2.out, HD.out⟩⟩
            case measure => simp [intOf]; omega
        · have HE : Hid (riseL (imgL false (Ed.take (i + 1)) Q sym) = riseL (imgL false (Ed.take i) Q sym)) := hide (by rw [HT.out, if_neg fun h => e2 h.2])
          have k1 : (x2 == sym) = true := by simpa using e1
          have k2 : decide (x1 ∈ Q) = false := by simpa using e2
          clear e1 e2 HT HN T
          generalize riseL (imgL false (Ed.take i) Q sym) = X at HY1 HE hlen ⊢
          go_wp2_with (first
            | (go_at_call_of 101 q1; refine (in60 w1 q1 Q cq x1 (hide HQ1.out) (by omega)).mono ?_; rintro e w' ⟨rfl, hw'⟩; obtain rfl := hw'.symm; clear hw'; rw [k2]))
          go_roundw
          case rel => exact ⟨i + 1, b, c, by omega, by rw [HE.out], by go_num, hide ⟨by rw [HE.out]; exact HY1.out.1, HY1.out.2⟩⟩
          case measure => simp [intOf]; omega
      · have HE : Hid (riseL (imgL false (Ed.take (i + 1)) Q sym) = riseL (imgL false (Ed.take i) Q sym)) := hide (by rw [HT.out, if_neg fun h => e1 h.1])
        have k1 : (x2 == sym) = false := by simpa using e1
        clear e1 HT HN T
        generalize riseL (imgL false (Ed.take i) Q sym) = X at HY1 HE hlen ⊢
        go_wp2_with fail
        go_roundw
        case rel => exact ⟨i + 1, b, c, by omega, by rw [HE.out], by go_num, hide ⟨by rw [HE.out]; exact HY1.out.1, HY1.out.2⟩⟩
        case measure => simp [intOf]; omega
    · have i0 : ¬ (i : Int) < (Ed.length : Int) := by omega
      have etk : Ed.take i = Ed := List.take_of_length_le (by omega)
      rw [etk] at HY ⊢
      go_wp2_with fail
      refine bodyPost_ret (results_tmp rfl _ _ _) rfl ?_
      exact ⟨b, c, rfl, hide HY.out.1, dw⟩
/-! ### The document's Edges -/
theorem RdE.take {W : World} {ao : Option Addr} {L : List EdT} (h : RdE W ao L) (k : Nat) : RdE W ao (L.take k) := fun j hj => by
  have hj2 : j < L.length := by rw [List.length_take] at hj; omega
  obtain ⟨g, o, e, q⟩ := h j hj2
  exact ⟨g, o, e, by simpa using q⟩
theorem RdE.drop {W : World} {g o : Nat} {L : List EdT} (h : RdE W (some ⟨g, o, none⟩) L) (k : Nat) : RdE W (some ⟨g, o + k * 3, none⟩) (L.drop k) := fun j hj => by
  have hj2 : k + j < L.length := by rw [List.length_drop] at hj; omega
  obtain ⟨g', o', e, q1, q2, q3⟩ := h (k + j) hj2
  cases e
  refine ⟨g, o + k * 3, rfl, ?_⟩
  have e1 : o + k * 3 + j * 3 = o + (k + j) * 3 := by omega
  rw [e1]
  simpa using And.intro q1 (And.intro q2 q3)
/-! ### The document's below, Valid, Normal -/
theorem may_not {n m : Int} {St Fi : List Int} {Ed : List EdT} (h : mayA n m St Fi Ed = true → False) : mayA n m St Fi Ed = false := by
  cases q : mayA n m St Fi Ed with
  | false => rfl
  | true => exact (h q).elim
set_option maxRecDepth 100000 in
theorem below_any (w : World) (ao : Option Addr) (L : List Int) (c : Nat) (n : Int) (hr : Hid (RdN w ao L)) (hl : L.length ≤ 4194304) :
    Calls Tryz.prog 100 #[.slice ao L.length c, .int .i64 n] w fun e w' => e = .returned (.bool (L.all (inB n))) ∧ w' = w := by
  go_enter Tryz.func100, Tryz.ntmps100
  go_wp2
  go_loopw [5] (fun iv wr => ∃ i : Nat, i ≤ L.length ∧ iv = .int .i64 i ∧ Hid ((L.take i).all (inB n) = true) ∧ wr = w) (fun iv _ => L.length - (intOf iv).toNat)
  case atStart => exact ⟨0, Nat.zero_le _, rfl, hide (by simp), rfl⟩
  case round =>
    obtain ⟨i, hi, rfl, HY, hw⟩ := hrel
    obtain rfl := hw.symm
    clear hw
    by_cases hlt : i < L.length
    · have l0 : (i : Int) < (L.length : Int) := by omega
      have l1 : (0 : Int) ≤ (i : Int) := by omega
      have iw : IntKind.i64.wrap ((i : Int) + 1) = (i : Int) + 1 := by rw [IntKind.wrap_i64]; omega
      obtain ⟨g, o, rfl, q⟩ := hr.out i hlt
      by_cases hb : inB n L[i] = true
      · have HN : Hid ((L.take (i + 1)).all (inB n) = true) := hide (by rw [List.take_succ_eq_append_getElem hlt, List.all_append, HY.out]; simp [hb])
        have h2 := inB_iff.1 hb
        clear hb
        generalize L[i] = x at q h2
        have x0 : ¬ x < 0 := by omega
        have x1 : ¬ x ≥ n := by omega
        clear h2
        go_wp2
        go_roundw
        case rel => exact ⟨i + 1, by omega, by go_num, HN, by simp⟩
        case measure => simp [intOf]; omega
      · have HD : Hid (L.all (inB n) = false) := hide (by
          rw [List.all_eq_false]
          exact ⟨L[i], List.getElem_mem hlt, hb⟩)
        have h2 : ¬ (0 ≤ L[i] ∧ L[i] < n) := fun h => hb (inB_iff.2 h)
        clear hb
        generalize L[i] = x at q h2
        by_cases x0 : x < 0
        · clear h2
          go_wp2
          refine bodyPost_ret (results_tmp rfl _ _ _) rfl ?_
          exact ⟨by rw [HD.out]; rfl, rfl⟩
        · have x1 : x ≥ n := by omega
          clear h2
          go_wp2
          refine bodyPost_ret (results_tmp rfl _ _ _) rfl ?_
          exact ⟨by rw [HD.out]; rfl, rfl⟩
    · have l0 : ¬ (i : Int) < (L.length : Int) := by omega
      have HD : Hid (L.all (inB n) = true) := hide (by have := HY.out; rwa [List.take_of_length_le (by omega)] at this)
      go_wp2
      refine bodyPost_ret (results_tmp rfl _ _ _) rfl ?_
      exact ⟨by rw [HD.out]; rfl, rfl⟩
set_option maxRecDepth 100000 in
set_option maxHeartbeats 4000000 in
theorem rvalid_any (w : World) (n m : Int) (a1 a2 a3 : Option Addr) (c1 c2 c3 : Nat) (St Fi : List Int) (Ed : List EdT) (hA : Hid (RdA w a1 a2 a3 St Fi Ed)) (h1 : St.length ≤ 4194304) (h2 : Fi.length ≤ 4194304) (h3 : Ed.length ≤ 4194304) :
    Calls Tryz.prog 99 #[.agg #[.int .i64 n, .int .i64 m, .slice a1 St.length c1, .slice a2 Fi.length c2, .slice a3 Ed.length c3]] w fun e w' => e = .returned (.int .i64 (if mayA n m St Fi Ed then 0 else 2)) ∧ Below w.heap.size w w' := by
  obtain ⟨r, hr⟩ : ∃ r : Int, (if mayA n m St Fi Ed then (0 : Int) else 2) = r := ⟨_, rfl⟩
  rw [hr]
  have HRr := hide hr
  clear hr
  obtain ⟨W0, hW0⟩ : ∃ W0, w.alloc (.cells #[.int .i64 n, .int .i64 m, .slice a1 St.length c1, .slice a2 Fi.length c2, .slice a3 Ed.length c3] 25) = W0 := ⟨_, rfl⟩
  have D0 : Hid (Below w.heap.size w W0) := hide (by rw [← hW0]; exact (Below.refl _ _).alloc (Nat.le_refl _) _)
  have B0 : Hid (W0.heap[w.heap.size]? = some (.cells #[.int .i64 n, .int .i64 m, .slice a1 St.length c1, .slice a2 Fi.length c2, .slice a3 Ed.length c3] 25 (0, 0))) := hide (by rw [← hW0]; exact World.alloc_heap_new _ _)
  have y0 : W0.cell? ⟨w.heap.size, 0, none⟩ = some (.int .i64 n) := cell_of B0.out rfl
  have y1 : W0.cell? ⟨w.heap.size, 1, none⟩ = some (.int .i64 m) := cell_of B0.out rfl
  have y2 : W0.cell? ⟨w.heap.size, 2, none⟩ = some (.slice a1 St.length c1) := cell_of B0.out rfl
  have y3 : W0.cell? ⟨w.heap.size, 3, none⟩ = some (.slice a2 Fi.length c2) := cell_of B0.out rfl
  have y4 : W0.cell? ⟨w.heap.size, 4, none⟩ = some (.slice a3 Ed.length c3) := cell_of B0.out rfl
  have T1 := below_any W0 a1 St c1 n (hide (hA.out.s.on D0.out)) h1
  have T2 := below_any W0 a2 Fi c2 n (hide (hA.out.f.on D0.out)) h2
  go_enter Tryz.func99, Tryz.ntmps99
  by_cases x0 : n < 0
  · have HM : Hid (mayA n m St Fi Ed = false) := hide (may_not fun h => by
      have := may_parts h
      omega)
    go_wp2_with fail
    refine bodyPost_ret (results_tmp rfl _ _ _) rfl ?_
    exact ⟨by rw [← HRr.out, HM.out]; rfl, D0.out⟩
  · by_cases x1 : n > 4096
    · have HM : Hid (mayA n m St Fi Ed = false) := hide (may_not fun h => by
        have := may_parts h
        omega)
      go_wp2_with fail
      refine bodyPost_ret (results_tmp rfl _ _ _) rfl ?_
      exact ⟨by rw [← HRr.out, HM.out]; rfl, D0.out⟩
    · by_cases x2 : m < 0
      · have HM : Hid (mayA n m St Fi Ed = false) := hide (may_not fun h => by
          have := may_parts h
          omega)
        go_wp2_with fail
        refine bodyPost_ret (results_tmp rfl _ _ _) rfl ?_
        exact ⟨by rw [← HRr.out, HM.out]; rfl, D0.out⟩
      · by_cases x3 : m > 128
        · have HM : Hid (mayA n m St Fi Ed = false) := hide (may_not fun h => by
            have := may_parts h
            omega)
          go_wp2_with fail
          refine bodyPost_ret (results_tmp rfl _ _ _) rfl ?_
          exact ⟨by rw [← HRr.out, HM.out]; rfl, D0.out⟩
        · by_cases x4 : (Ed.length : Int) > 65536
          · have HM : Hid (mayA n m St Fi Ed = false) := hide (may_not fun h => by
              have := may_parts h
              omega)
            go_wp2_with fail
            refine bodyPost_ret (results_tmp rfl _ _ _) rfl ?_
            exact ⟨by rw [← HRr.out, HM.out]; rfl, D0.out⟩
          · cases hs : St.all (inB n) with
            | false =>
              rw [hs] at T1
              have HM : Hid (mayA n m St Fi Ed = false) := hide (may_not fun h => by
                have := (may_parts h).2.2.2.1
                rw [hs] at this
                cases this)
              clear hs T2
              go_wp2_with (go_at_call 100; refine T1.mono ?_; rintro e wa ⟨rfl, hw⟩; obtain rfl := hw.symm; clear hw)
              refine bodyPost_ret (results_tmp rfl _ _ _) rfl ?_
              exact ⟨by rw [← HRr.out, HM.out]; rfl, D0.out⟩
            | true =>
              rw [hs] at T1
              cases hf : Fi.all (inB n) with
              | false =>
                rw [hf] at T2
                have HM : Hid (mayA n m St Fi Ed = false) := hide (may_not fun h => by
                  have := (may_parts h).2.2.2.2.1
                  rw [hf] at this
                  cases this)
                clear hf hs
                go_wp2_with (first
                  | (go_at_call 100; refine T1.mono ?_; rintro e wa ⟨rfl, hw⟩; obtain rfl := hw.symm; clear hw T1)
                  | (go_at_call 100; refine T2.mono ?_; rintro e wa ⟨rfl, hw⟩; obtain rfl := hw.symm; clear hw))
                refine bodyPost_ret (results_tmp rfl _ _ _) rfl ?_
                exact ⟨by rw [← HRr.out, HM.out]; rfl, D0.out⟩
              | true =>
                rw [hf] at T2
                have HSF := hide (And.intro hs hf)
                clear hf hs
                have HNM : Hid ((0 ≤ n ∧ n ≤ 4096) ∧ (0 ≤ m ∧ m ≤ 128) ∧ Ed.length ≤ 65536) := hide (by omega)
                go_wp2_with (first
                  | (go_at_call 100; refine T1.mono ?_; rintro e wa ⟨rfl, hw⟩; obtain rfl := hw.symm; clear hw T1)
                  | (go_at_call 100; refine T2.mono ?_; rintro e wa ⟨rfl, hw⟩; obtain rfl := hw.symm; clear hw T2))
                go_loopw [3] (fun iv wr => ∃ i : Nat, i ≤ Ed.length ∧ iv = .int .i64 i ∧ Hid ((∀ e ∈ Ed.take i, edOk n m e = true) ∧ Below W0.heap.size W0 wr)) (fun iv _ => Ed.length - (intOf iv).toNat)
                case atStart => exact ⟨0, Nat.zero_le _, rfl, hide ⟨by simp, Below.refl _ _⟩⟩
                case round =>
                  obtain ⟨i, hi, rfl, HY⟩ := hrel
                  clear y0 y1 y2 y3 y4
                  have KE := hide (D0.out.trans (HY.out.2.mono D0.out.size))
                  by_cases hlt : i < Ed.length
                  · have l0 : (i : Int) < (Ed.length : Int) := by omega
                    have l1 : (0 : Int) ≤ (i : Int) := by omega
                    have iw : IntKind.i64.wrap ((i : Int) + 1) = (i : Int) + 1 := by rw [IntKind.wrap_i64]; omega
                    obtain ⟨g, o, haa, q1, q2, q3⟩ := (hA.out.e.on KE.out) i hlt
                    subst haa
                    have HIN := hide (List.getElem_mem hlt)
                    have HTK := hide (List.take_succ_eq_append_getElem hlt)
                    generalize Ed[i] = x at q1 q2 q3 HIN HTK
                    obtain ⟨X1, hX1⟩ : ∃ X1, wr.alloc (.cells #[.int .i64 x.1, .int .i64 x.2.1, .int .i64 x.2.2] 62) = X1 := ⟨_, rfl⟩
                    have HX : Hid (X1.heap[wr.heap.size]? = some (.cells #[.int .i64 x.1, .int .i64 x.2.1, .int .i64 x.2.2] 62 (0, 0)) ∧ Below wr.heap.size wr X1) := hide (by rw [← hX1]; exact ⟨World.alloc_heap_new _ _, (Below.refl _ _).alloc (Nat.le_refl _) _⟩)
                    have HD := hide (HY.out.2.trans (HX.out.2.mono HY.out.2.size))
                    have KX := hide (D0.out.trans (HD.out.mono D0.out.size))
                    have z0 : X1.cell? ⟨wr.heap.size, 0, none⟩ = some (.int .i64 x.1) := cell_of HX.out.1 rfl
                    have z1 : X1.cell? ⟨wr.heap.size, 1, none⟩ = some (.int .i64 x.2.1) := cell_of HX.out.1 rfl
                    have z2 : X1.cell? ⟨wr.heap.size, 2, none⟩ = some (.int .i64 x.2.2) := cell_of HX.out.1 rfl
                    have B1 := blk_on B0.out HY.out.2
                    have B2 := blk_on B0.out HD.out
                    have y4 : wr.cell? ⟨w.heap.size, 4, none⟩ = some (.slice (some ⟨g, o, none⟩) Ed.length c3) := cell_of B1 rfl
                    have y0 : X1.cell? ⟨w.heap.size, 0, none⟩ = some (.int .i64 n) := cell_of B2 rfl
                    have y1 : X1.cell? ⟨w.heap.size, 1, none⟩ = some (.int .i64 m) := cell_of B2 rfl
                    clear B1 B2
                    have NO : Hid (edOk n m x = false → mayA n m St Fi Ed = false) := hide (fun hx => may_not fun h => by
                      have := (may_parts h).2.2.2.2.2 x HIN.out
                      rw [show edOk n m x = true by unfold edOk; simp only [Bool.and_eq_true, inB_iff]; omega] at hx
                      cases hx)
                    cases hx : edOk n m x with
                    | true =>
                      have hxx := hx
                      unfold edOk at hxx
                      simp only [Bool.and_eq_true, inB_iff] at hxx
                      have p0 : ¬ x.1 < 0 := by omega
                      have p1 : ¬ x.1 ≥ n := by omega
                      have p2 : ¬ x.2.2 < 0 := by omega
                      have p3 : ¬ x.2.2 ≥ n := by omega
                      have p4 : ¬ x.2.1 < 0 := by omega
                      have p5 : ¬ x.2.1 ≥ m := by omega
                      have HX2 : Hid (∀ e ∈ Ed.take (i + 1), edOk n m e = true) := hide (fun e he => by
                        rw [HTK.out, List.mem_append] at he
                        rcases he with he | he
                        · exact HY.out.1 e he
                        · rw [List.mem_singleton] at he
                          rw [he]
                          exact hx)
                      clear hxx hx NO
                      go_wp2_with fail
                      go_roundw
                      case rel => exact ⟨i + 1, by omega, by go_num, hide ⟨HX2.out, HD.out⟩⟩
                      case measure => simp [intOf]; omega
                    | false =>
                      have HM := hide (NO.out hx)
                      have hxx : ¬ (((0 ≤ x.1 ∧ x.1 < n) ∧ 0 ≤ x.2.1 ∧ x.2.1 < m) ∧ 0 ≤ x.2.2 ∧ x.2.2 < n) := fun h => by
                        rw [show edOk n m x = true by unfold edOk; simp only [Bool.and_eq_true, inB_iff]; exact h] at hx
                        cases hx
                      clear hx NO
                      by_cases p0 : x.1 < 0
                      · clear hxx
                        go_wp2_with fail
                        refine bodyPost_ret (results_tmp rfl _ _ _) rfl ?_
                        exact ⟨by rw [← HRr.out, HM.out]; rfl, KX.out⟩
                      · by_cases p1 : x.1 ≥ n
                        · clear hxx
                          go_wp2_with fail
                          refine bodyPost_ret (results_tmp rfl _ _ _) rfl ?_
                          exact ⟨by rw [← HRr.out, HM.out]; rfl, KX.out⟩
                        · by_cases p2 : x.2.2 < 0
                          · clear hxx
                            go_wp2_with fail
                            refine bodyPost_ret (results_tmp rfl _ _ _) rfl ?_
                            exact ⟨by rw [← HRr.out, HM.out]; rfl, KX.out⟩
                          · by_cases p3 : x.2.2 ≥ n
                            · clear hxx
                              go_wp2_with fail
                              refine bodyPost_ret (results_tmp rfl _ _ _) rfl ?_
                              exact ⟨by rw [← HRr.out, HM.out]; rfl, KX.out⟩
                            · by_cases p4 : x.2.1 < 0
                              · clear hxx
                                go_wp2_with fail
                                refine bodyPost_ret (results_tmp rfl _ _ _) rfl ?_
                                exact ⟨by rw [← HRr.out, HM.out]; rfl, KX.out⟩
                              · have p5 : x.2.1 ≥ m := by omega
                                clear hxx
                                go_wp2_with fail
                                refine bodyPost_ret (results_tmp rfl _ _ _) rfl ?_
                                exact ⟨by rw [← HRr.out, HM.out]; rfl, KX.out⟩
                  · have l0 : ¬ (i : Int) < (Ed.length : Int) := by omega
                    have y4 : wr.cell? ⟨w.heap.size, 4, none⟩ = some (.slice a3 Ed.length c3) := cell_of (blk_on B0.out HY.out.2) rfl
                    have HM : Hid (mayA n m St Fi Ed = true) := hide (by
                      have h5 := HY.out.1
                      rw [List.take_of_length_le (by omega)] at h5
                      have h6 := HNM.out
                      unfold mayA
                      simp only [Bool.and_eq_true, decide_eq_true_eq, inB_iff]
                      exact ⟨⟨⟨⟨⟨by omega, by omega⟩, by omega⟩, HSF.out.1⟩, HSF.out.2⟩, List.all_eq_true.2 h5⟩)
                    go_wp2_with fail
                    refine bodyPost_ret (results_tmp rfl _ _ _) rfl ?_
                    exact ⟨by rw [← HRr.out, HM.out]; rfl, KE.out⟩
/-- A list and an error, the list in new memory. -/
def LAns (w : World) (r : List Int × Int) (e : Ending) (w' : World) : Prop := ∃ b c, e = .returned (.tuple #[.slice b r.1.length c, .int .i64 r.2]) ∧ Hid (w'.ownsRow w.heap.size 3 1 (.slice b r.1.length c) r.1.length (r.1.map (Value.int .i64))) ∧ Below w.heap.size w w'
theorem lans_bad {w w' : World} {er : Int} {e : Ending} (he : e = .returned (.tuple #[.slice none 0 0, .int .i64 er])) (d : Below w.heap.size w w') : LAns w ([], er) e w' :=
  ⟨none, 0, he, hide (World.ownsRow_nil _ _ _ _), d⟩
set_option maxRecDepth 100000 in
set_option maxHeartbeats 2000000 in
theorem rword_any (w : World) (n m : Int) (a1 a2 a3 : Option Addr) (c1 c2 c3 : Nat) (St Fi : List Int) (Ed : List EdT) (u1 : Option Addr) (cw : Nat) (Wd : List Int) (hA : Hid (RdA w a1 a2 a3 St Fi Ed)) (hU : Hid (RdN w u1 Wd)) (h1 : St.length ≤ 4194304) (h2 : Fi.length ≤ 4194304) (h3 : Ed.length ≤ 4194304) (hw : Wd.length ≤ 4194304) :
    Calls Tryz.prog 56 #[.agg #[.int .i64 n, .int .i64 m, .slice a1 St.length c1, .slice a2 Fi.length c2, .slice a3 Ed.length c3], .slice u1 Wd.length cw] w fun e w' => e = .returned (.int .i64 (wordErr n m St Fi Ed Wd)) ∧ Below w.heap.size w w' := by
  obtain ⟨W0, hW0⟩ : ∃ W0, w.alloc (.cells #[.int .i64 n, .int .i64 m, .slice a1 St.length c1, .slice a2 Fi.length c2, .slice a3 Ed.length c3] 25) = W0 := ⟨_, rfl⟩
  have H0 : Hid (Below w.heap.size w W0 ∧ W0.heap[w.heap.size]? = some (.cells #[.int .i64 n, .int .i64 m, .slice a1 St.length c1, .slice a2 Fi.length c2, .slice a3 Ed.length c3] 25 (0, 0))) := hide ⟨by rw [← hW0]; exact alloc_below _ _, by rw [← hW0]; exact World.alloc_heap_new _ _⟩
  have y0 : W0.cell? ⟨w.heap.size, 0, none⟩ = some (.int .i64 n) := cell_of H0.out.2 rfl
  have y1 : W0.cell? ⟨w.heap.size, 1, none⟩ = some (.int .i64 m) := cell_of H0.out.2 rfl
  have y2 : W0.cell? ⟨w.heap.size, 2, none⟩ = some (.slice a1 St.length c1) := cell_of H0.out.2 rfl
  have y3 : W0.cell? ⟨w.heap.size, 3, none⟩ = some (.slice a2 Fi.length c2) := cell_of H0.out.2 rfl
  have y4 : W0.cell? ⟨w.heap.size, 4, none⟩ = some (.slice a3 Ed.length c3) := cell_of H0.out.2 rfl
  have TV := rvalid_any W0 n m a1 a2 a3 c1 c2 c3 St Fi Ed (hide (hA.out.on H0.out.1)) h1 h2 h3
  by_cases em : mayA n m St Fi Ed = true
  · rw [if_pos em] at TV
    have TB : Hid (∀ W, Below w.heap.size w W → Calls Tryz.prog 100 #[.slice u1 Wd.length cw, .int .i64 m] W fun e w' => e = .returned (.bool (Wd.all (inB m))) ∧ w' = W) := hide (fun W d => below_any W u1 Wd cw m (hide (hU.out.on d)) hw)
    have HE : Hid (wordErr n m St Fi Ed Wd = if Wd.all (inB m) then 0 else 7) := hide (by unfold wordErr; rw [if_pos em])
    clear em
    generalize Wd.all (inB m) = r at TB HE
    obtain ⟨er, he⟩ : ∃ er, wordErr n m St Fi Ed Wd = er := ⟨_, rfl⟩
    rw [he] at HE ⊢
    clear he
    cases r
    · go_enter Tryz.func56, Tryz.ntmps56
      go_wp2_with (first
        | (go_at_call 99; refine TV.mono ?_; rintro e w1 ⟨rfl, d1⟩; have H1 := hide (And.intro (H0.out.1.trans (d1.mono H0.out.1.size)) (blk_on H0.out.2 d1)); clear d1 y0 y1 y2 y3 y4; have y0 : w1.cell? ⟨w.heap.size, 0, none⟩ = some (.int .i64 n) := cell_of H1.out.2 rfl; have y1 : w1.cell? ⟨w.heap.size, 1, none⟩ = some (.int .i64 m) := cell_of H1.out.2 rfl; have y2 : w1.cell? ⟨w.heap.size, 2, none⟩ = some (.slice a1 St.length c1) := cell_of H1.out.2 rfl; have y3 : w1.cell? ⟨w.heap.size, 3, none⟩ = some (.slice a2 Fi.length c2) := cell_of H1.out.2 rfl; have y4 : w1.cell? ⟨w.heap.size, 4, none⟩ = some (.slice a3 Ed.length c3) := cell_of H1.out.2 rfl)
        | (go_at_call 100; refine (TB.out w1 H1.out.1).mono ?_; rintro e w2 ⟨rfl, hw2⟩; obtain rfl := hw2.symm; clear hw2))
      refine bodyPost_ret (results_tmp rfl _ _ _) rfl ?_
      exact ⟨by rw [HE.out]; rfl, H1.out.1⟩
    · go_enter Tryz.func56, Tryz.ntmps56
      go_wp2_with (first
        | (go_at_call 99; refine TV.mono ?_; rintro e w1 ⟨rfl, d1⟩; have H1 := hide (And.intro (H0.out.1.trans (d1.mono H0.out.1.size)) (blk_on H0.out.2 d1)); clear d1 y0 y1 y2 y3 y4; have y0 : w1.cell? ⟨w.heap.size, 0, none⟩ = some (.int .i64 n) := cell_of H1.out.2 rfl; have y1 : w1.cell? ⟨w.heap.size, 1, none⟩ = some (.int .i64 m) := cell_of H1.out.2 rfl; have y2 : w1.cell? ⟨w.heap.size, 2, none⟩ = some (.slice a1 St.length c1) := cell_of H1.out.2 rfl; have y3 : w1.cell? ⟨w.heap.size, 3, none⟩ = some (.slice a2 Fi.length c2) := cell_of H1.out.2 rfl; have y4 : w1.cell? ⟨w.heap.size, 4, none⟩ = some (.slice a3 Ed.length c3) := cell_of H1.out.2 rfl)
        | (go_at_call 100; refine (TB.out w1 H1.out.1).mono ?_; rintro e w2 ⟨rfl, hw2⟩; obtain rfl := hw2.symm; clear hw2))
      refine bodyPost_ret (results_tmp rfl _ _ _) rfl ?_
      exact ⟨by rw [HE.out]; rfl, H1.out.1⟩
  · rw [if_neg em] at TV
    have HE : Hid (wordErr n m St Fi Ed Wd = 2) := hide (by unfold wordErr; rw [if_neg em])
    clear em
    go_enter Tryz.func56, Tryz.ntmps56
    go_wp2_with (go_at_call 99; refine TV.mono ?_; rintro e w1 ⟨rfl, d1⟩; have H1 := hide d1; clear d1)
    refine bodyPost_ret (results_tmp rfl _ _ _) rfl ?_
    exact ⟨by rw [HE.out]; rfl, H0.out.1.trans (H1.out.mono H0.out.1.size)⟩
/-- Where a word leads from a rising list. -/
def aftL (Ed : List EdT) (S : List Int) (Wd : List Int) : List Int := Wd.foldl (fun S y => riseL (imgL false Ed S y)) S
theorem aftL_take {Ed : List EdT} {S Wd : List Int} {i : Nat} (h : i < Wd.length) : aftL Ed S (Wd.take (i + 1)) = riseL (imgL false Ed (aftL Ed S (Wd.take i)) Wd[i]) := by
  unfold aftL
  rw [List.take_succ_eq_append_getElem h, List.foldl_append]
  rfl
theorem aftL_len {Ed : List EdT} {S Wd : List Int} (hs : S.length ≤ 4194304) (h3 : Ed.length ≤ 4194304) : (aftL Ed S Wd).length ≤ 4194304 := by
  rcases Wd.eq_nil_or_concat with rfl | ⟨l, y, rfl⟩
  · exact hs
  · unfold aftL
    rw [List.concat_eq_append, List.foldl_append]
    exact Nat.le_trans (riseL_len _) (Nat.le_trans (imgL_len _ _ _ _) h3)
def aftA (n m : Int) (St Fi : List Int) (Ed : List EdT) (Wd : List Int) : List Int × Int := if wordErr n m St Fi Ed Wd = 0 then (aftL Ed (riseL St) Wd, 0) else ([], wordErr n m St Fi Ed Wd)
set_option maxRecDepth 100000 in
set_option maxHeartbeats 2000000 in
theorem rafter_any (w : World) (n m : Int) (a1 a2 a3 : Option Addr) (c1 c2 c3 : Nat) (St Fi : List Int) (Ed : List EdT) (u1 : Option Addr) (cw : Nat) (Wd : List Int) (hA : Hid (RdA w a1 a2 a3 St Fi Ed)) (hU : Hid (RdN w u1 Wd)) (h1 : St.length ≤ 4194304) (h2 : Fi.length ≤ 4194304) (h3 : Ed.length ≤ 4194304) (hw : Wd.length ≤ 4194304) :
    Calls Tryz.prog 12 #[.agg #[.int .i64 n, .int .i64 m, .slice a1 St.length c1, .slice a2 Fi.length c2, .slice a3 Ed.length c3], .slice u1 Wd.length cw] w (LAns w (aftA n m St Fi Ed Wd)) := by
  obtain ⟨W0, hW0⟩ : ∃ W0, w.alloc (.cells #[.int .i64 n, .int .i64 m, .slice a1 St.length c1, .slice a2 Fi.length c2, .slice a3 Ed.length c3] 25) = W0 := ⟨_, rfl⟩
  have H0 : Hid (Below w.heap.size w W0 ∧ W0.heap[w.heap.size]? = some (.cells #[.int .i64 n, .int .i64 m, .slice a1 St.length c1, .slice a2 Fi.length c2, .slice a3 Ed.length c3] 25 (0, 0))) := hide ⟨by rw [← hW0]; exact alloc_below _ _, by rw [← hW0]; exact World.alloc_heap_new _ _⟩
  have y0 : W0.cell? ⟨w.heap.size, 0, none⟩ = some (.int .i64 n) := cell_of H0.out.2 rfl
  have y1 : W0.cell? ⟨w.heap.size, 1, none⟩ = some (.int .i64 m) := cell_of H0.out.2 rfl
  have y2 : W0.cell? ⟨w.heap.size, 2, none⟩ = some (.slice a1 St.length c1) := cell_of H0.out.2 rfl
  have y3 : W0.cell? ⟨w.heap.size, 3, none⟩ = some (.slice a2 Fi.length c2) := cell_of H0.out.2 rfl
  have y4 : W0.cell? ⟨w.heap.size, 4, none⟩ = some (.slice a3 Ed.length c3) := cell_of H0.out.2 rfl
  have TA := rword_any W0 n m a1 a2 a3 c1 c2 c3 St Fi Ed u1 cw Wd (hide (hA.out.on H0.out.1)) (hide (hU.out.on H0.out.1)) h1 h2 h3 hw
  unfold aftA
  by_cases e0 : wordErr n m St Fi Ed Wd = 0
  · rw [if_pos e0]
    rw [e0] at TA
    clear e0
    have TN : Hid (∀ W b c X x, Below w.heap.size w W → RdN W b X → X.length ≤ 4194304 → Calls Tryz.prog 57 #[.agg #[.int .i64 n, .int .i64 m, .slice a1 St.length c1, .slice a2 Fi.length c2, .slice a3 Ed.length c3], .slice b X.length c, .int .i64 x] W fun e w' => ∃ b c, e = .returned (.slice b (riseL (imgL false Ed X x)).length c) ∧ Hid (w'.ownsRow W.heap.size 3 1 (.slice b (riseL (imgL false Ed X x)).length c) (riseL (imgL false Ed X x)).length ((riseL (imgL false Ed X x)).map (Value.int .i64))) ∧ Below W.heap.size W w') := hide (fun W b c X x d hx hl => rnext_any W n m a1 a2 a3 b c1 c2 c3 c St Fi Ed X x (hide (hA.out.on d)) (hide hx) h3 hl)
    have HRS : Hid ((riseL St).length ≤ 4194304) := hide (Nat.le_trans (riseL_len St) h1)
    have SB : Hid (∀ W, Below W0.heap.size W0 W → (fun W => W.cell? ⟨w.heap.size, 0, none⟩ = some (.int .i64 n) ∧ W.cell? ⟨w.heap.size, 1, none⟩ = some (.int .i64 m) ∧ W.cell? ⟨w.heap.size, 2, none⟩ = some (.slice a1 St.length c1) ∧ W.cell? ⟨w.heap.size, 3, none⟩ = some (.slice a2 Fi.length c2) ∧ W.cell? ⟨w.heap.size, 4, none⟩ = some (.slice a3 Ed.length c3)) W) := hide (fun W d => by
      have e := blk_on H0.out.2 d
      exact ⟨cell_of e rfl, cell_of e rfl, cell_of e rfl, cell_of e rfl, cell_of e rfl⟩)
    go_enter Tryz.func12, Tryz.ntmps12
    go_wp2_with (first
      | (go_at_call 56; refine TA.mono ?_; rintro e w1 ⟨rfl, d1⟩; have H1 := hide d1; clear d1 y0 y1 y2 y3 y4; obtain ⟨y0, y1, y2, y3, y4⟩ := SB.out w1 H1.out)
      | (go_at_call 21; refine (set_any w1 a1 St c1 (hide (hA.out.s.on (H0.out.1.trans (H1.out.mono H0.out.1.size)))) h1).mono ?_; rintro e w2 ⟨b0, c0, rfl, HO, d2⟩; have H2 := hide (And.intro (owns_down HO.out (Nat.le_trans H0.out.1.size H1.out.size)) (H1.out.trans (d2.mono H1.out.size))); clear d2 HO y0 y1 y2 y3 y4))
    clear hW0
    go_loopw [7, 8] (fun ov iv wr => ∃ i b c, i ≤ Wd.length ∧ ov = .slice b (aftL Ed (riseL St) (Wd.take i)).length c ∧ iv = .int .i64 (i : Nat) ∧ Hid (wr.ownsRow w.heap.size 3 1 (.slice b (aftL Ed (riseL St) (Wd.take i)).length c) (aftL Ed (riseL St) (Wd.take i)).length ((aftL Ed (riseL St) (Wd.take i)).map (Value.int .i64)) ∧ Below W0.heap.size W0 wr)) (fun _ iv _ => Wd.length - (intOf iv).toNat)
    case atStart => exact ⟨0, b0, c0, Nat.zero_le _, rfl, rfl, hide ⟨H2.out.1, H2.out.2⟩⟩
    case round =>
      obtain ⟨i, b, c, hi, rfl, rfl, HY⟩ := hrel
      by_cases hlt : i < Wd.length
      · have i0 : (i : Int) < (Wd.length : Int) := by omega
        have i1 : (0 : Int) ≤ (i : Int) := by omega
        have iw : IntKind.i64.wrap ((i : Int) + 1) = (i : Int) + 1 := by rw [IntKind.wrap_i64]; omega
        have HDW := hide (H0.out.1.trans (HY.out.2.mono H0.out.1.size))
        obtain ⟨gu, ou, hao, q⟩ := (hU.out.on HDW.out) i hlt
        subst hao
        have hlen : (aftL Ed (riseL St) (Wd.take i)).length ≤ 4194304 := aftL_len HRS.out h3
        have HE := hide (aftL_take (Ed := Ed) (S := riseL St) hlt)
        generalize Wd[i] = x at q HE
        generalize aftL Ed (riseL St) (Wd.take i) = X at HY hlen HE ⊢
        have SQ : Hid (∀ W, Below wr.heap.size wr W → W.cell? ⟨gu, ou + i, none⟩ = some (.int .i64 x)) := hide (fun W d => (d.cell (p := ⟨gu, ou + i, none⟩) (World.block_lt_of_cell? wr _ q)).trans q)
        have SX : Hid (∀ W, Below wr.heap.size wr W → (fun W => (fun W => W.cell? ⟨w.heap.size, 0, none⟩ = some (.int .i64 n) ∧ W.cell? ⟨w.heap.size, 1, none⟩ = some (.int .i64 m) ∧ W.cell? ⟨w.heap.size, 2, none⟩ = some (.slice a1 St.length c1) ∧ W.cell? ⟨w.heap.size, 3, none⟩ = some (.slice a2 Fi.length c2) ∧ W.cell? ⟨w.heap.size, 4, none⟩ = some (.slice a3 Ed.length c3)) W ∧ W.cell? ⟨gu, ou + i, none⟩ = some (.int .i64 x)) W) := hide (fun W d => ⟨SB.out W (HY.out.2.trans (d.mono HY.out.2.size)), SQ.out W d⟩)
        have HX := hide (own_rdN HY.out.1)
        have S0 := SX.out wr.drew (Below.refl _ _).drew
        clear q
        go_upto_region 8 with fail
        go_region_held3 (fun W => (fun W => W.cell? ⟨w.heap.size, 0, none⟩ = some (.int .i64 n) ∧ W.cell? ⟨w.heap.size, 1, none⟩ = some (.int .i64 m) ∧ W.cell? ⟨w.heap.size, 2, none⟩ = some (.slice a1 St.length c1) ∧ W.cell? ⟨w.heap.size, 3, none⟩ = some (.slice a2 Fi.length c2) ∧ W.cell? ⟨w.heap.size, 4, none⟩ = some (.slice a3 Ed.length c3)) W ∧ W.cell? ⟨gu, ou + i, none⟩ = some (.int .i64 x))
          (with_reducible assumption)
          ((go_at_call 57; refine (TN.out _ _ _ _ _ HDW.out.drew (HX.out.on (Below.refl _ wr).drew) hlen).mono ?_; rintro e w3 ⟨b2, c2, rfl, HO, d3⟩; have D3 : Below wr.heap.size wr w3 := ⟨d3.os, d3.tape, d3.output, d3.size, d3.block⟩; have S3 := SX.out w3 D3; have HD3 := hide D3; clear d3 D3))
        clear S0 S3
        go_wp2_with fail
        go_roundw
        case rel => exact ⟨i + 1, b2, c2, by omega, by rw [HE.out], by go_num, hide ⟨by rw [HE.out]; exact owns_down HO.out HDW.out.size, HY.out.2.trans (HD3.out.mono HY.out.2.size)⟩⟩
        case measure => simp [intOf]; omega
      · have i0 : ¬ (i : Int) < (Wd.length : Int) := by omega
        have etk : Wd.take i = Wd := List.take_of_length_le (by omega)
        rw [etk] at HY ⊢
        go_wp2_with fail
        go_ret2
        exact ⟨b, c, rfl, hide HY.out.1, H0.out.1.trans (HY.out.2.mono H0.out.1.size)⟩
  · rw [if_neg e0]
    generalize wordErr n m St Fi Ed Wd = er at e0 TA ⊢
    have e1 : (er != 0) = true := by simpa using e0
    clear e0
    go_enter Tryz.func12, Tryz.ntmps12
    go_wp2_with (go_at_call 56; refine TA.mono ?_; rintro e w1 ⟨rfl, d1⟩; have H1 := hide (H0.out.1.trans (d1.mono H0.out.1.size)); clear d1)
    go_ret2
    exact lans_bad rfl H1.out
/-- Whether a word is taken, or the error. -/
def accA (n m : Int) (St Fi : List Int) (Ed : List EdT) (Wd : List Int) : Bool × Int := ((aftA n m St Fi Ed Wd).1.any fun x => decide (x ∈ Fi), (aftA n m St Fi Ed Wd).2)
theorem aftA_len {n m : Int} {St Fi : List Int} {Ed : List EdT} {Wd : List Int} (h1 : St.length ≤ 4194304) (h3 : Ed.length ≤ 4194304) : (aftA n m St Fi Ed Wd).1.length ≤ 4194304 := by
  unfold aftA
  by_cases e0 : wordErr n m St Fi Ed Wd = 0
  · rw [if_pos e0]; exact aftL_len (Nat.le_trans (riseL_len St) h1) h3
  · rw [if_neg e0]; exact Nat.zero_le _
set_option maxRecDepth 100000 in
set_option maxHeartbeats 2000000 in
theorem raccepts_any (w : World) (n m : Int) (a1 a2 a3 : Option Addr) (c1 c2 c3 : Nat) (St Fi : List Int) (Ed : List EdT) (u1 : Option Addr) (cw : Nat) (Wd : List Int) (hA : Hid (RdA w a1 a2 a3 St Fi Ed)) (hU : Hid (RdN w u1 Wd)) (h1 : St.length ≤ 4194304) (h2 : Fi.length ≤ 4194304) (h3 : Ed.length ≤ 4194304) (hw : Wd.length ≤ 4194304) :
    Calls Tryz.prog 13 #[.agg #[.int .i64 n, .int .i64 m, .slice a1 St.length c1, .slice a2 Fi.length c2, .slice a3 Ed.length c3], .slice u1 Wd.length cw] w fun e w' => e = .returned (.tuple #[.bool (accA n m St Fi Ed Wd).1, .int .i64 (accA n m St Fi Ed Wd).2]) ∧ Below w.heap.size w w' := by
  obtain ⟨W0, hW0⟩ : ∃ W0, w.alloc (.cells #[.int .i64 n, .int .i64 m, .slice a1 St.length c1, .slice a2 Fi.length c2, .slice a3 Ed.length c3] 25) = W0 := ⟨_, rfl⟩
  have H0 : Hid (Below w.heap.size w W0 ∧ W0.heap[w.heap.size]? = some (.cells #[.int .i64 n, .int .i64 m, .slice a1 St.length c1, .slice a2 Fi.length c2, .slice a3 Ed.length c3] 25 (0, 0))) := hide ⟨by rw [← hW0]; exact alloc_below _ _, by rw [← hW0]; exact World.alloc_heap_new _ _⟩
  have y0 : W0.cell? ⟨w.heap.size, 0, none⟩ = some (.int .i64 n) := cell_of H0.out.2 rfl
  have y1 : W0.cell? ⟨w.heap.size, 1, none⟩ = some (.int .i64 m) := cell_of H0.out.2 rfl
  have y2 : W0.cell? ⟨w.heap.size, 2, none⟩ = some (.slice a1 St.length c1) := cell_of H0.out.2 rfl
  have y3 : W0.cell? ⟨w.heap.size, 3, none⟩ = some (.slice a2 Fi.length c2) := cell_of H0.out.2 rfl
  have y4 : W0.cell? ⟨w.heap.size, 4, none⟩ = some (.slice a3 Ed.length c3) := cell_of H0.out.2 rfl
  have TA := rafter_any W0 n m a1 a2 a3 c1 c2 c3 St Fi Ed u1 cw Wd (hide (hA.out.on H0.out.1)) (hide (hU.out.on H0.out.1)) h1 h2 h3 hw
  have hlen := aftA_len (n := n) (m := m) (Fi := Fi) (Wd := Wd) h1 h3
  unfold accA
  generalize aftA n m St Fi Ed Wd = r at TA hlen ⊢
  obtain ⟨L, er⟩ := r
  have HF : Hid (∀ W, Below w.heap.size w W → RdN W a2 Fi) := hide (fun W d => hA.out.f.on d)
  obtain ⟨k, hk⟩ : ∃ k, (L.any fun x => decide (x ∈ Fi)) = k := ⟨_, rfl⟩
  have HK := hide hk
  simp only [hk]
  clear hk
  go_enter Tryz.func13, Tryz.ntmps13
  go_wp2_with (first
    | (go_at_call 12; refine TA.mono ?_; rintro e w1 ⟨b, c, rfl, HO, d1⟩; have H1 := hide (And.intro (H0.out.1.trans (d1.mono H0.out.1.size)) (blk_on H0.out.2 d1)); clear d1 y0 y1 y2 y3 y4; have y0 : w1.cell? ⟨w.heap.size, 0, none⟩ = some (.int .i64 n) := cell_of H1.out.2 rfl; have y1 : w1.cell? ⟨w.heap.size, 1, none⟩ = some (.int .i64 m) := cell_of H1.out.2 rfl; have y2 : w1.cell? ⟨w.heap.size, 2, none⟩ = some (.slice a1 St.length c1) := cell_of H1.out.2 rfl; have y3 : w1.cell? ⟨w.heap.size, 3, none⟩ = some (.slice a2 Fi.length c2) := cell_of H1.out.2 rfl; have y4 : w1.cell? ⟨w.heap.size, 4, none⟩ = some (.slice a3 Ed.length c3) := cell_of H1.out.2 rfl)
    | (go_at_call 58; refine (meets18 w1 b a2 L Fi c c2 (hide (own_rdN HO.out)) (hide (HF.out w1 H1.out.1)) hlen h2).mono ?_; rintro e w2 ⟨rfl, hw2⟩; obtain rfl := hw2.symm; clear hw2; rw [HK.out]))
  go_ret2
  exact ⟨rfl, H1.out.1⟩
section
variable {P : Program} {md : Region.Mode} {ops : Array Oper} {C : World → Prop}
end
set_option maxRecDepth 100000 in
theorem dwithin_any (x n : Int) (w : World) : Calls Tryz.prog 79 #[.int .i64 x, .int .i64 n] w fun e w' => e = .returned (.bool (inB n x)) ∧ w' = w := by
  by_cases h : 0 ≤ x
  · go_enter Tryz.func79, Tryz.ntmps79
    go_wp2
    go_ret
    exact ⟨by simp [inB, h], rfl⟩
  · go_enter Tryz.func79, Tryz.ntmps79
    go_wp2
    go_ret
    exact ⟨by simp [inB]; omega, rfl⟩
set_option maxRecDepth 100000 in
set_option maxHeartbeats 1000000 in
theorem dallWithin_any (ao : Option Addr) (cp : Nat) (L : List Int) (n : Int) (w : World) (hr : Hid (RdN w ao L)) (hl : L.length ≤ 4194304) : Calls Tryz.prog 80 #[.slice ao L.length cp, .int .i64 n] w fun e w' => e = .returned (.bool (L.all (inB n))) ∧ w' = w := by
  obtain ⟨m, hm⟩ : ∃ m, m = L.length := ⟨_, rfl⟩
  have HL := hide hm
  rw [← hm]
  rw [← hm] at hl
  clear hm
  go_enter Tryz.func80, Tryz.ntmps80
  go_wp2
  go_loopw [9] (fun iv wr => ∃ i : Nat, i ≤ m ∧ iv = .int .i64 i ∧ wr = w ∧ Hid ((L.take i).all (inB n) = true)) (fun iv _ => m - (intOf iv).toNat)
  case atStart => exact ⟨0, Nat.zero_le _, rfl, rfl, hide (by simp)⟩
  case round =>
    obtain ⟨i, hi, rfl, hw, HY⟩ := hrel
    obtain rfl := hw
    by_cases hil : i < m
    · have i0 : (0 : Int) ≤ (i : Int) := by omega
      have i1 : (i : Int) < (m : Int) := by omega
      have hi2 : i < L.length := by rw [← HL.out]; exact hil
      obtain ⟨g, o, rfl, c⟩ := hr.out i hi2
      have HT := hide (show L.take (i + 1) = L.take i ++ [L[i]] by rw [List.take_add_one, List.getElem?_eq_getElem hi2]; rfl)
      have HM := hide (List.getElem_mem hi2)
      obtain ⟨x, hx⟩ : ∃ x, L[i] = x := ⟨_, rfl⟩
      rw [hx] at c HT HM
      clear hx
      cases hb : inB n x
      · go_wp2_with (go_at_call 79; refine (dwithin_any x n wr).mono ?_; rintro e w2 ⟨rfl, rfl⟩)
        go_wp2
        go_ret
        refine ⟨?_, rfl⟩
        have : L.all (inB n) = false := List.all_eq_false.2 ⟨x, HM.out, by rw [hb]; simp⟩
        rw [this]
        rfl
      · go_wp2_with (go_at_call 79; refine (dwithin_any x n wr).mono ?_; rintro e w2 ⟨rfl, rfl⟩)
        go_wp2
        go_roundw
        case rel => exact ⟨i + 1, by omega, by go_num, trivial, hide (by rw [HT.out, List.all_append, HY.out]; simp [hb])⟩
        case measure => simp [intOf]; omega
    · obtain rfl : m = i := by omega
      have i1 : ¬ (m : Int) < (m : Int) := by omega
      go_wp2
      go_ret
      refine ⟨?_, rfl⟩
      have q := HY.out
      rw [HL.out, List.take_length] at q
      rw [q]
      rfl
/-- A table that can be read: its finals, its followers. -/
structure TbR (w : World) (M N gf : Nat) (aN : Option Addr) (fin : Nat → Bool) (Nx : List Int) : Prop where
  fi : Mrw w gf 4 N (fun q => .bool (fin q)) N
  nx : RdN w aN Nx
  len : Nx.length = N * M
  inr : ∀ x ∈ Nx, 0 ≤ x ∧ x < (N : Int)
theorem TbR.on {w w' : World} {M N gf : Nat} {aN : Option Addr} {fin : Nat → Bool} {Nx : List Int} (h : TbR w M N gf aN fin Nx) (d : Below w.heap.size w w') : TbR w' M N gf aN fin Nx :=
  ⟨h.fi.below d h.fi.lt, h.nx.on d, h.len, h.inr⟩
/-- Where a symbol leads. -/
def dl (Nx : List Int) (M s a : Nat) : Nat := (Nx.getD (s * M + a) 0).toNat
theorem place_lt {N M s a : Nat} (hs : s < N) (ha : a < M) : s * M + a < N * M := by
  have : (s + 1) * M ≤ N * M := Nat.mul_le_mul_right M hs
  rw [Nat.succ_mul] at this
  omega
theorem dl_spec {N M s a : Nat} {Nx : List Int} (hl : Nx.length = N * M) (hi : ∀ x ∈ Nx, 0 ≤ x ∧ x < (N : Int)) (hs : s < N) (ha : a < M) : ∃ h : s * M + a < Nx.length, Nx[s * M + a] = (dl Nx M s a : Int) ∧ dl Nx M s a < N := by
  have h : s * M + a < Nx.length := by rw [hl]; exact place_lt hs ha
  refine ⟨h, ?_⟩
  have := hi _ (List.getElem_mem h)
  have e : Nx.getD (s * M + a) 0 = Nx[s * M + a] := by simp [List.getD, h]
  unfold dl
  rw [e]
  omega
/-- Steps that can be read. -/
def RdS (W : World) (ao : Option Addr) (L : List (Int × Int)) : Prop := ∀ (j : Nat) (h : j < L.length), ∃ g o, ao = some ⟨g, o, none⟩ ∧ W.cell? ⟨g, o + j * 2, none⟩ = some (.int .i64 L[j].1) ∧ W.cell? ⟨g, o + j * 2 + 1, none⟩ = some (.int .i64 L[j].2)
theorem RdS.on {W W' : World} {ao : Option Addr} {L : List (Int × Int)} (h : RdS W ao L) (d : Below W.heap.size W W') : RdS W' ao L := fun j hj => by
  obtain ⟨g, o, rfl, c1, c2⟩ := h j hj
  have hg : g < W.heap.size := World.block_lt_of_cell? W ⟨g, o + j * 2, none⟩ c1
  exact ⟨g, o, rfl, (d.cell (p := ⟨g, o + j * 2, none⟩) hg).trans c1, (d.cell (p := ⟨g, o + j * 2 + 1, none⟩) hg).trans c2⟩
/-- Is it a table that the document allows? -/
def vd (N M st : Int) (Fi Nx : List Int) : Bool := decide (1 ≤ N) && decide (N ≤ 4096) && inB 129 M && inB N st && decide ((Nx.length : Int) = N * M) && Nx.all (inB N) && Fi.all (inB N)
set_option maxRecDepth 100000 in
set_option maxHeartbeats 1000000 in
theorem dvalid_any (w : World) (N M st : Int) (aF aN : Option Addr) (lF cF lN cN : Nat) (Fi Nx : List Int) (hF : RdN w aF Fi) (hN : RdN w aN Nx) (hlF : Fi.length = lF) (hlN : Nx.length = lN) (bF : lF ≤ 4194304) (bN : lN ≤ 4194304) :
    Calls Tryz.prog 33 #[.agg #[.int .i64 N, .int .i64 M, .int .i64 st, .slice aF lF cF, .slice aN lN cN]] w fun e w' => e = .returned (.int .i64 (if vd N M st Fi Nx then 0 else 3)) ∧ Below w.heap.size w w' := by
  obtain ⟨W0, hW0⟩ : ∃ W0, w.alloc (.cells #[.int .i64 N, .int .i64 M, .int .i64 st, .slice aF lF cF, .slice aN lN cN] 27) = W0 := ⟨_, rfl⟩
  have d0 : Below w.heap.size w W0 := by rw [← hW0]; exact (Below.refl _ _).alloc (Nat.le_refl _) _
  have B0 : W0.heap[w.heap.size]? = some (.cells #[.int .i64 N, .int .i64 M, .int .i64 st, .slice aF lF cF, .slice aN lN cN] 27 (0, 0)) := by rw [← hW0]; exact World.alloc_heap_new _ _
  have k0 : W0.cell? ⟨w.heap.size, 0, none⟩ = some (.int .i64 N) := cell_of B0 rfl
  have k1 : W0.cell? ⟨w.heap.size, 1, none⟩ = some (.int .i64 M) := cell_of B0 rfl
  have k2 : W0.cell? ⟨w.heap.size, 2, none⟩ = some (.int .i64 st) := cell_of B0 rfl
  have k3 : W0.cell? ⟨w.heap.size, 3, none⟩ = some (.slice aF lF cF) := cell_of B0 rfl
  have k4 : W0.cell? ⟨w.heap.size, 4, none⟩ = some (.slice aN lN cN) := cell_of B0 rfl
  have TM := dwithin_any M 129 W0
  have TS := dwithin_any st N W0
  have HD := hide d0
  have TN : Hid (Calls Tryz.prog 80 #[.slice aN lN cN, .int .i64 N] W0 fun e w' => e = .returned (.bool (Nx.all (inB N))) ∧ w' = W0) := hide (by subst hlN; exact dallWithin_any aN cN Nx N _ (hide (hN.on d0)) bN)
  have TF : Hid (Calls Tryz.prog 80 #[.slice aF lF cF, .int .i64 N] W0 fun e w' => e = .returned (.bool (Fi.all (inB N))) ∧ w' = W0) := hide (by subst hlF; exact dallWithin_any aF cF Fi N _ (hide (hF.on d0)) bF)
  have HV : Hid (vd N M st Fi Nx = (decide (1 ≤ N) && decide (N ≤ 4096) && inB 129 M && inB N st && decide ((lN : Int) = N * M) && Nx.all (inB N) && Fi.all (inB N))) := hide (by subst hlN; rfl)
  generalize vd N M st Fi Nx = vv at *
  generalize Nx.all (inB N) = bNx at *
  generalize Fi.all (inB N) = bFi at *
  clear d0 B0 hF hN hlF hlN
  by_cases a1 : N < 1
  · have : vv = false := by rw [HV.out]; simp; omega
    subst this
    clear TM TS
    go_enter Tryz.func33, Tryz.ntmps33
    go_wp2
    go_ret
    exact ⟨rfl, HD.out⟩
  by_cases a2 : 4096 < N
  · have : vv = false := by rw [HV.out]; simp; omega
    subst this
    clear TM TS
    go_enter Tryz.func33, Tryz.ntmps33
    go_wp2
    go_ret
    exact ⟨rfl, HD.out⟩
  have a3 : 1 ≤ N := by omega
  have a4 : N ≤ 4096 := by omega
  cases hm : inB 129 M
  · have : vv = false := by rw [HV.out, hm]; simp
    subst this
    rw [hm] at TM
    clear TS hm
    go_enter Tryz.func33, Tryz.ntmps33
    go_wp2_with (go_at_call 79; refine TM.mono ?_; rintro e w2 ⟨rfl, rfl⟩)
    go_ret
    exact ⟨rfl, HD.out⟩
  cases hs : inB N st
  · have : vv = false := by rw [HV.out, hs]; simp
    subst this
    rw [hm] at TM
    rw [hs] at TS
    clear hm hs
    go_enter Tryz.func33, Tryz.ntmps33
    go_wp2_with (first | (go_at_call_of 79 M; refine TM.mono ?_; rintro e w2 ⟨rfl, rfl⟩) | (go_at_call_of 79 st; refine TS.mono ?_; rintro e w2 ⟨rfl, rfl⟩))
    go_ret
    exact ⟨rfl, HD.out⟩
  have hM := inB_iff.1 hm
  have hw : IntKind.i64.wrap (N * M) = N * M := by
    have h1 : 0 ≤ N * M := Int.mul_nonneg (by omega) hM.1
    have h2 : N * M ≤ 4096 * 129 := Int.mul_le_mul a4 (by omega) hM.1 (by omega)
    rw [IntKind.wrap_i64]; omega
  rw [hm] at TM HV
  rw [hs] at TS HV
  clear hm hs
  have e1 : decide (1 ≤ N) = true := by simpa using a3
  have e2 : decide (N ≤ 4096) = true := by simpa using a4
  rw [e1, e2] at HV
  clear e1 e2 hM
  by_cases hl : (lN : Int) = N * M
  · have e3 : decide ((lN : Int) = N * M) = true := by simpa using hl
    rw [e3] at HV
    clear e3
    rw [← hl] at hw
    have TT : Hid (vv = (bNx && bFi)) := hide (by rw [HV.out]; simp)
    clear HV
    cases bNx
    · have : vv = false := by rw [TT.out]; simp
      subst this
      clear TT TF
      go_enter Tryz.func33, Tryz.ntmps33
      go_wp2_with (first | (go_at_call_of 79 M; refine TM.mono ?_; rintro e w2 ⟨rfl, rfl⟩) | (go_at_call_of 79 st; refine TS.mono ?_; rintro e w2 ⟨rfl, rfl⟩) | (go_at_call_of 80 lN; refine TN.out.mono ?_; rintro e w2 ⟨rfl, rfl⟩))
      go_ret
      exact ⟨rfl, HD.out⟩
    · have : vv = bFi := by rw [TT.out]; simp
      subst this
      clear TT
      cases vv
      all_goals
        go_enter Tryz.func33, Tryz.ntmps33
        go_wp2_with (first | (go_at_call_of 79 M; refine TM.mono ?_; rintro e w2 ⟨rfl, rfl⟩) | (go_at_call_of 79 st; refine TS.mono ?_; rintro e w2 ⟨rfl, rfl⟩) | (go_at_call_of 80 lN; refine TN.out.mono ?_; rintro e w2 ⟨rfl, rfl⟩) | (go_at_call_of 80 lF; refine TF.out.mono ?_; rintro e w2 ⟨rfl, rfl⟩))
        go_ret
        exact ⟨rfl, HD.out⟩
  · have : vv = false := by rw [HV.out]; simp [hl]
    subst this
    clear HV TN TF
    go_enter Tryz.func33, Tryz.ntmps33
    go_wp2_with (first | (go_at_call_of 79 M; refine TM.mono ?_; rintro e w2 ⟨rfl, rfl⟩) | (go_at_call_of 79 st; refine TS.mono ?_; rintro e w2 ⟨rfl, rfl⟩))
    go_ret
    exact ⟨rfl, HD.out⟩
/-- Where a word leads. -/
def dls (Nx : List Int) (M s : Nat) (L : List Nat) : Nat := L.foldl (dl Nx M) s
theorem dls_lt {N M : Nat} {Nx : List Int} (hl : Nx.length = N * M) (hi : ∀ x ∈ Nx, 0 ≤ x ∧ x < (N : Int)) : ∀ (L : List Nat) (s : Nat), s < N → (∀ a ∈ L, a < M) → dls Nx M s L < N
  | [], _, hs, _ => hs
  | a :: L, s, hs, h => dls_lt hl hi L _ (dl_spec hl hi hs (h a (by simp))).2.2 (fun b hb => h b (by simp [hb]))
set_option maxRecDepth 100000 in
set_option maxHeartbeats 1000000 in
theorem step_rd (w : World) (M N s a lN cN : Nat) (n st : Int) (aF : Option Addr) (lF cF : Nat) (aN : Option Addr) (Nx : List Int) (hn : RdN w aN Nx) (hl : Nx.length = N * M) (hi : ∀ x ∈ Nx, 0 ≤ x ∧ x < (N : Int)) (hlN : lN = N * M) (hs : s < N) (ha : a < M) (hNM : N * M ≤ 4194304) (hM : M ≤ 4194304) (_hN : N ≤ 4194304) :
    Calls Tryz.prog 60 #[.agg #[.int .i64 n, .int .i64 (M : Int), .int .i64 st, .slice aF lF cF, .slice aN lN cN], .int .i64 (s : Int), .int .i64 (a : Int)] w fun e w' => e = .returned (.int .i64 (dl Nx M s a : Int)) ∧ Below w.heap.size w w' := by
  obtain ⟨W0, hW0⟩ : ∃ W0, w.alloc (.cells #[.int .i64 n, .int .i64 (M : Int), .int .i64 st, .slice aF lF cF, .slice aN lN cN] 27) = W0 := ⟨_, rfl⟩
  have d0 : Below w.heap.size w W0 := by rw [← hW0]; exact (Below.refl _ _).alloc (Nat.le_refl _) _
  have B0 : W0.heap[w.heap.size]? = some (.cells #[.int .i64 n, .int .i64 (M : Int), .int .i64 st, .slice aF lF cF, .slice aN lN cN] 27 (0, 0)) := by rw [← hW0]; exact World.alloc_heap_new _ _
  have k0 : W0.cell? ⟨w.heap.size, 1, none⟩ = some (.int .i64 (M : Int)) := cell_of B0 rfl
  have k2 : W0.cell? ⟨w.heap.size, 4, none⟩ = some (.slice aN lN cN) := cell_of B0 rfl
  obtain ⟨h1, h2, h3⟩ := dl_spec hl hi hs ha
  obtain ⟨g, o, rfl, c⟩ := (hn.on d0) _ h1
  rw [h2] at c
  obtain ⟨k, hk⟩ : ∃ k, s * M + a = k := ⟨_, rfl⟩
  have hkl : k < lN := by rw [← hk, hlN]; exact place_lt hs ha
  have esm : (s : Int) * (M : Int) = ((s * M : Nat) : Int) := by simp
  have e1 : IntKind.i64.wrap ((s : Int) * (M : Int)) = (s : Int) * (M : Int) := by
    have : s * M ≤ 4194304 := by omega
    rw [esm, IntKind.wrap_i64]; omega
  have e2 : IntKind.i64.wrap ((s : Int) * (M : Int) + (a : Int)) = (k : Int) := by rw [esm, IntKind.wrap_i64]; omega
  rw [hk] at c
  have v0 : (0 : Int) ≤ (k : Int) := by omega
  have v1 : (k : Int) < (lN : Int) := by omega
  generalize dl Nx M s a = q at *
  have HD := hide d0
  clear d0 B0 hn hl hi hlN h2 h3 hk esm h1
  go_enter Tryz.func60, Tryz.ntmps60
  go_wp2
  go_ret
  exact ⟨rfl, HD.out⟩
/-- Is a state final? -/
def inF (Fi : List Int) (x : Nat) : Bool := decide ((x : Int) ∈ Fi)
theorem vd_nat {N M st : Int} {Fi Nx : List Int} (h : vd N M st Fi Nx = true) : ∃ n m s : Nat, N = n ∧ M = m ∧ st = s ∧ 1 ≤ n ∧ n ≤ 4096 ∧ m < 129 ∧ s < n ∧ Nx.length = n * m ∧ (∀ x ∈ Nx, 0 ≤ x ∧ x < (n : Int)) ∧ (∀ x ∈ Fi, 0 ≤ x ∧ x < (n : Int)) := by
  unfold vd at h
  simp only [Bool.and_eq_true, decide_eq_true_eq] at h
  obtain ⟨⟨⟨⟨⟨⟨h1, h2⟩, h3⟩, h4⟩, h5⟩, h6⟩, h7⟩ := h
  have h3 := inB_iff.1 h3
  have h4 := inB_iff.1 h4
  obtain ⟨n, rfl⟩ := Int.eq_ofNat_of_zero_le (show 0 ≤ N by omega)
  obtain ⟨m, rfl⟩ := Int.eq_ofNat_of_zero_le h3.1
  obtain ⟨s, rfl⟩ := Int.eq_ofNat_of_zero_le h4.1
  refine ⟨n, m, s, rfl, rfl, rfl, by omega, by omega, by omega, by omega, ?_, fun x hx => inB_iff.1 (List.all_eq_true.1 h6 x hx), fun x hx => inB_iff.1 (List.all_eq_true.1 h7 x hx)⟩
  have : ((n * m : Nat) : Int) = (n : Int) * (m : Int) := by simp
  omega
/-! ### A set of a list; may one thing more be kept -/
/-- What IsSet says, with its blocks new. -/
def SetN (w0 w : World) (b g cap n X : Nat) : Prop := IsSet w b g cap n X ∧ w0.heap.size ≤ b ∧ w0.heap.size ≤ g ∧ b ≠ g ∧ Below w0.heap.size w0 w
set_option maxRecDepth 100000 in
set_option maxHeartbeats 1000000 in
theorem setOf_any (w : World) (n : Nat) (ao : Option Addr) (cp : Nat) (L : List Int) (hr : RdN w ao L) (hl : L.length ≤ 4194304) (hn : n ≤ 4096) (hin : L.all (inB n) = true) :
    Calls Tryz.prog 47 #[.int .i64 n, .slice ao L.length cp] w fun e w' => ∃ b g cap, e = .returned (.pointer (some ⟨b, 0, none⟩)) ∧ SetN w w' b g cap n (setI n L) := by
  have T : Calls Tryz.prog 91 #[.int .i64 n, .slice ao L.length cp] w fun e w' => ∃ b g cap, e = .returned (.tuple #[.pointer (some ⟨b, 0, none⟩), .int .i64 0]) ∧ SetN w w' b g cap n (setI n L) := (of81_any ao cp n L w (by omega) (readsI_of hr) (by omega)).mono fun e w' h => by
    rcases h with ⟨_, h⟩ | ⟨hf, _⟩
    · exact h
    · rw [okI_of hin] at hf
      cases hf
  clear hr hl hn hin
  go_enter Tryz.func47, Tryz.ntmps47
  go_upto_region 2 with (go_at_call 91; refine T.mono ?_; rintro e w1 ⟨b, g, cap, rfl, hs⟩; have HS := hide hs; clear hs)
  go_wp2
  go_ret
  exact ⟨b, g, cap, rfl, HS.out⟩
/-- May one thing more be kept? -/
def moreE (n bud : Int) : Int := if 0 < bud ∧ bud ≤ n then 9 else if 4096 ≤ n then 8 else 0
set_option maxRecDepth 100000 in
set_option maxHeartbeats 1000000 in
theorem oneMore_any (w : World) (n bud : Int) :
    Calls Tryz.prog 90 #[.int .i64 n, .int .i64 bud] w fun e w' => e = .returned (.int .i64 (moreE n bud)) ∧ w' = w := by
  by_cases h1 : 0 < bud
  · by_cases h2 : bud ≤ n
    · have e : moreE n bud = 9 := by unfold moreE; rw [if_pos ⟨h1, h2⟩]
      rw [e]
      clear e
      go_enter Tryz.func90, Tryz.ntmps90
      go_wp2
      go_ret
      exact ⟨rfl, rfl⟩
    · by_cases h3 : 4096 ≤ n
      · have e : moreE n bud = 8 := by unfold moreE; rw [if_neg (by omega), if_pos h3]
        rw [e]
        clear e
        go_enter Tryz.func90, Tryz.ntmps90
        go_wp2
        go_ret
        exact ⟨rfl, rfl⟩
      · have e : moreE n bud = 0 := by unfold moreE; rw [if_neg (by omega), if_neg h3]
        rw [e]
        clear e
        go_enter Tryz.func90, Tryz.ntmps90
        go_wp2
        go_ret
        exact ⟨rfl, rfl⟩
  · by_cases h3 : 4096 ≤ n
    · have e : moreE n bud = 8 := by unfold moreE; rw [if_neg (by omega), if_pos h3]
      rw [e]
      clear e
      go_enter Tryz.func90, Tryz.ntmps90
      go_wp2
      go_ret
      exact ⟨rfl, rfl⟩
    · have e : moreE n bud = 0 := by unfold moreE; rw [if_neg (by omega), if_neg h3]
      rw [e]
      clear e
      go_enter Tryz.func90, Tryz.ntmps90
      go_wp2
      go_ret
      exact ⟨rfl, rfl⟩
end Go.Proofs.YtgnpdhgphkocoaaGreatDoor
namespace Go.Proofs.YtgnpdhgphkocoaaGreatDoor
open Go.RowKit
/-! ### A region whose operations come in whatever order, one of which changes memory that was there -/
section
variable {P : Program} {ops : Array Oper} {Q : Exit → Act → World → Prop}
/-- What a step leaves as it is. -/
def StpJ (J : Bool → World → Prop) (i0 : Nat) (b : Bool) (L : List It) (i : Nat) (y : Nat → Value) (W W' : World) : Prop := J (i == i0 || b) W' ∧ W.heap.size ≤ W'.heap.size ∧ ∀ j, j ≠ i → j ∉ (itL L i).ret → ∀ lo hi, hi ≤ W.heap.size → (itL L j).p y lo hi W → (itL L j).p y lo hi W'
def HopK (P : Program) (ops : Array Oper) (Q : Exit → Act → World → Prop) (w : World) (J : Bool → World → Prop) (i0 : Nat) (fill : (Nat → Value) → Act) (L : List It) (i : Nat) (o : Oper) : Prop :=
  ∀ (y : Nat → Value) (W : World) (b : Bool), ((i == i0) = true → b = false) → J b W → w.heap.size ≤ W.heap.size → (∀ e ∈ o.after, Region.binds .any e = true → ndB e = true → ∃ lo hi, w.heap.size ≤ lo ∧ hi ≤ W.heap.size ∧ (itL L e.on).p y lo hi W) →
    ∀ K : Act → World → Prop, Shut (∀ x a' W', StpJ J i0 b L i y W W' → (itL L i).p (updV y i x) W.heap.size W'.heap.size W' → a' = fill (updV y i x) → K a' W') → if Region.wanted o (yielded ops (fill y).tmps) = true then Oper.wp P o (fill y) W K Q else K ((fill y).put o.dst undef) W
def HopsK (P : Program) (ops : Array Oper) (Q : Exit → Act → World → Prop) (w : World) (J : Bool → World → Prop) (i0 : Nat) (fill : (Nat → Value) → Act) (L : List It) : Nat → List Oper → Prop
  | _, [] => True
  | k, o :: r => HopK P ops Q w J i0 fill L k o ∧ HopsK P ops Q w J i0 fill L (k + 1) r
theorem HopsK.at {w : World} {J : Bool → World → Prop} {i0 : Nat} {fill : (Nat → Value) → Act} {L : List It} : ∀ (l : List Oper) (k i : Nat) (o : Oper), HopsK P ops Q w J i0 fill L k l → l[i]? = some o → HopK P ops Q w J i0 fill L (k + i) o
  | [], _, _, _, _, h => by simp at h
  | o' :: r, k, 0, o, H, h => by simp at h; subst h; exact H.1
  | o' :: r, k, i + 1, o, H, h => by
    have := HopsK.at r (k + 1) i o H.2 (by simpa using h)
    rwa [show k + 1 + i = k + (i + 1) by omega] at this
/-- What has come up. -/
structure MadeJ (w : World) (J : Bool → World → Prop) (i0 : Nat) (L : List It) (ops : Array Oper) (n : Nat) (is : Nat → Bool) (y : Nat → Value) (lo hi : Nat → Nat) (W : World) : Prop where
  d : J (is i0) W
  sz : w.heap.size ≤ W.heap.size
  fact : ∀ i, i < n → is i = true → (∀ k, k < n → is k = true → i ∉ (itL L k).ret) → (itL L i).p y (lo i) (hi i) W
  at' : ∀ i, i < n → is i = true → w.heap.size ≤ lo i ∧ lo i ≤ hi i ∧ hi i ≤ W.heap.size
  apart : ∀ i j, i < n → j < n → is i = true → is j = true → i ≠ j → hi i ≤ lo j ∨ hi j ≤ lo i
  order : ∀ j o e, j < n → is j = true → ops[j]? = some o → e ∈ o.after → Region.binds .any e = true → hi e.on ≤ lo j
theorem stj_go {w : World} {J : Bool → World → Prop} {i0 : Nat} {fill : (Nat → Value) → Act} {L : List It} {n : Nat} {l2 : List Oper} {l1 : List Oper}
    (hi0 : i0 < n) (hp : phasedB .any ops n = true) (hdep : depsB ops n = true) (hret : retB ops n (L.map It.ret) (L.map It.reads) = true) (hl1 : ∀ j o, l1[j]? = some o ↔ (j < n ∧ ops[j]? = some o)) (hl2 : ∀ j o, l2[j]? = some o → ops[n + j]? = some o)
    (hline : ∀ listed : Array Bool, listed.size = ops.size → (∀ i, listed.getD i true = decide (i < n ∨ ops.size ≤ i)) → lineB .any ops l2.length n listed = true)
    (hmono : MonIL 0 L) (hop : HopsK P ops Q w J i0 fill L 0 l1)
    (hfin : ∀ y lo hi W, MadeJ w J i0 L ops n (fun _ => true) y lo hi W → wpList P ops Q l2 (fill y) W) :
    ∀ (m : Nat) (x : Nat) (listed : Array Bool) (y : Nat → Value) (lo hi : Nat → Nat) (W : World), listed.size = ops.size → (∀ i, n ≤ i → i < ops.size → listed.getD i true = false) → ClosedL .any ops listed → cntM (fun i => !listed.getD i true) n = m →
      MadeJ w J i0 L ops n (fun i => listed.getD i true) y lo hi W → wpAny P .any ops Q (l2.length + m + x) listed (fill y) W := by
  intro m
  induction m with
  | zero =>
    intro x listed y lo hi W hsz hge hc hcnt hM
    have hall : ∀ i, i < n → listed.getD i true = true := fun i hi => by
      have := cntM_zero n hcnt i hi
      simpa using this
    refine line_more x n listed (fill y) W hl2 (hline listed hsz ?_) (hfin y lo hi W ?_)
    · intro i
      rcases Nat.lt_or_ge i n with h | h
      · rw [hall i h]; simp [h]
      · rcases Nat.lt_or_ge i ops.size with h2 | h2
        · rw [hge i h h2]; symm; simp; omega
        · rw [show listed.getD i true = true by simp [Array.getElem?_eq_none (show listed.size ≤ i by omega)]]; symm; simp; omega
    · exact ⟨by have q := hM.d; simp only [hall i0 hi0] at q; exact q, hM.sz, fun i hi _ hr => hM.fact i hi (hall i hi) (fun k hk _ => hr k hk rfl), fun i hi _ => hM.at' i hi (hall i hi), fun i j hi hj _ _ h => hM.apart i j hi hj (hall i hi) (hall j hj) h, fun j o e hj _ ho he hb => hM.order j o e hj (hall j hj) ho he hb⟩
  | succ m ih =>
    intro x listed y lo hi W hsz hge hc hcnt hM
    obtain ⟨i9, hi9, hf0, hless⟩ := cntM_least (f := fun i => !listed.getD i true) n (by omega)
    have hun : listed.getD i9 true = false := by simpa using hf0
    obtain ⟨o0, ho0, hd0⟩ := depsB_at hdep hi9
    have hin : ∀ i, i < n → i < listed.size := fun i hi => by
      obtain ⟨o, ho, _⟩ := depsB_at hdep hi
      have := (Array.getElem?_eq_some_iff.1 ho).1
      omega
    have hready : i9 ∈ Region.ready .any ops listed := mem_ready.2 ⟨hun, o0, ho0, fun e he hb => by
      have h1 := hd0 e he hb
      have h2 := hless e.on h1
      have h3 : listed.getD e.on true = true := by simpa using h2
      have h4 := hin e.on (by omega)
      simpa [h4] using h3⟩
    rw [show l2.length + (m + 1) + x = (l2.length + m + x) + 1 by omega]
    refine ⟨fun h => (by rw [h] at hready; cases hready), fun j hj => ?_⟩
    have hjn : j < n := phased_lt hp hc hi9 hun hj
    obtain ⟨hjun, oj, hoj, hall⟩ := mem_ready.1 hj
    have H := HopsK.at l1 0 j oj hop ((hl1 j oj).2 ⟨hjn, hoj⟩)
    rw [Nat.zero_add] at H
    refine wpOp_step hoj (fun K' hK => H y W (listed.getD i0 true) (fun e => (eq_of_beq e) ▸ hjun) hM.d hM.sz (fun e he hb hnd => ?_) K' ?_)
    · have h1 := hall e he hb
      obtain ⟨o', ho', hd'⟩ := depsB_at hdep hjn
      rw [hoj] at ho'
      cases ho'
      have h2 := hd' e he hb
      have h3 := getD_to _ _ h1
      refine ⟨lo e.on, hi e.on, (hM.at' e.on (by omega) h3).1, (hM.at' e.on (by omega) h3).2.2, hM.fact e.on (by omega) h3 (fun k hk hlk hmem => ?_)⟩
      have hkj : j ≠ k := fun h => by rw [h] at hjun; rw [hjun] at hlk; cases hlk
      have := waits_listed hc (retB_at hret hk hjn hkj hmem hoj he hb hnd rfl) hlk
      rw [hjun] at this
      cases this
    · rintro v a' W' ⟨hD, hs2, hkeep⟩ hΦ rfl
      have hsj := hin j hjn
      have g1 : (listed.setIfInBounds j true).getD j true = true := by simp [hsj]
      refine hK _ _ ?_
      refine ih x (listed.setIfInBounds j true) (updV y j v) (fun i => if i = j then W.heap.size else lo i) (fun i => if i = j then W'.heap.size else hi i) W' (by simp [hsz]) (fun i h1 h2 => ?_) (hc.set hj) ?_ ?_
      · rw [getD_set_ne true (by omega)]; exact hge i h1 h2
      · have := cntM_drop (f := fun i => !listed.getD i true) (g := fun i => !(listed.setIfInBounds j true).getD i true) (j := j) (by simp only [hjun]; rfl) (by simp only [g1]; rfl) (fun i hi => by simp only [getD_set_ne true (Ne.symm hi)]) n hjn
        omega
      · have old : ∀ i, i ≠ j → (listed.setIfInBounds j true).getD i true = true → listed.getD i true = true := fun i h1 h2 => by rwa [getD_set_ne true (Ne.symm h1)] at h2
        have new : ∀ i, listed.getD i true = true → (listed.setIfInBounds j true).getD i true = true := fun i h => by
          by_cases e : j = i
          · subst e; exact g1
          · rwa [getD_set_ne true e]
        have hs := hM.sz
        refine ⟨?_, Nat.le_trans hs hs2, fun i hi h hr => ?_, fun i hi h => ?_, fun i k hi hk h1 h2 hne => ?_, fun k o e hk h1 ho he hb => ?_⟩
        · show J ((listed.setIfInBounds j true).getD i0 true) W'
          by_cases e : j = i0
          · subst e; rw [g1]; simpa using hD
          · rw [getD_set_ne true e]; rw [show (j == i0) = false by simpa using e, Bool.false_or] at hD; exact hD
        · by_cases e : i = j
          · subst e; simp only [if_pos]; exact hΦ
          · simp only [if_neg e]
            have hli := old i e h
            have h5 := hkeep i e (hr j hjn g1) _ _ (hM.at' i hi hli).2.2 (hM.fact i hi hli (fun k hk hlk => hr k hk (new k hlk)))
            have h6 := MonIL.at L 0 i hmono y (updV y j v) (lo i) _ W' W' (Nat.le_trans (hM.at' i hi hli).2.2 hs2) (Below.refl _ _) (fun q hq => by
              rw [Nat.zero_add] at hq
              have hne : q ≠ j := by
                rcases hq with hq | hq
                · rw [hq]; exact e
                · intro hqj
                  have := waits_listed hc (readB_at hret hi hq) hli
                  rw [hqj, hjun] at this
                  cases this
              simp [updV, hne])
            exact h6 h5
        · by_cases e : i = j
          · subst e; simp only [if_pos]; exact ⟨hs, hs2, Nat.le_refl _⟩
          · simp only [if_neg e]; have := hM.at' i hi (old i e h); exact ⟨this.1, this.2.1, by omega⟩
        · by_cases e : i = j
          · have e2 : k ≠ j := fun h => hne (by rw [e, h])
            simp only [if_pos e, if_neg e2]
            exact Or.inr (hM.at' k hk (old k e2 h2)).2.2
          · by_cases e2 : k = j
            · simp only [if_neg e, if_pos e2]
              exact Or.inl (hM.at' i hi (old i e h1)).2.2
            · simp only [if_neg e, if_neg e2]
              exact hM.apart i k hi hk (old i e h1) (old k e2 h2) hne
        · obtain ⟨o', ho', hd'⟩ := depsB_at hdep hk
          rw [ho] at ho'
          cases ho'
          have hlt := hd' e he hb
          by_cases e1 : k = j
          · subst e1
            rw [hoj] at ho
            cases ho
            have h3 := getD_to _ _ (hall e he hb)
            have e2 : e.on ≠ k := by omega
            simp only [if_pos, if_neg e2]
            exact (hM.at' e.on (by omega) h3).2.2
          · have h4 := old k e1 h1
            have h5 := getD_to _ _ (hc k o ho h4 e he hb)
            have e2 : e.on ≠ j := fun h => by rw [h, hjun] at h5; cases h5
            simp only [if_neg e1, if_neg e2]
            exact hM.order k o e hk h4 ho he hb
/-- **A region whose first operations come in whatever order, each with a fact of its own.** -/
theorem wp_region_stj {id : Nat} {a : Act} {w : World} {l : List Oper} (J : Bool → World → Prop) (i0 : Nat) (L : List It) (hi0 : Nat.blt i0 L.length = true) (hJ0 : J false (w.drewN 1)) (hm : P.follows .mixedOrders = true) (hB : stB l.toArray L.length (L.map It.ret) (L.map It.reads) = true) (hmono : MonIL 0 L)
    (h : ∀ F : (Nat → Value) → Act, F = (fun y => fills 0 (l.take L.length) y a) → HopsK P l.toArray Q w J i0 F L 0 (l.take L.length) ∧ ∀ y lo hi W, MadeJ w J i0 L l.toArray L.length (fun _ => true) y lo hi W → wpList P l.toArray Q (l.drop L.length) (F y) W) : (Code.region id l.toArray true).wp P Q a w := by
  unfold stB makeB at hB
  simp only [Bool.and_eq_true] at hB
  obtain ⟨⟨⟨⟨h0, h2⟩, h3⟩, h4⟩, h5⟩ := hB
  have hn : L.length ≤ l.length := by simpa using Nat.le_of_ble_eq_true h0
  refine wp_region_any hm ?_
  have hl2 : (l.drop L.length).length = l.toArray.size - L.length := by simp
  have F := stj_go (P := P) (Q := Q) (w := w) (J := J) (i0 := i0) (fill := fun y => fills 0 (l.take L.length) y a) (L := L) (n := L.length) (ops := l.toArray) (l1 := l.take L.length) (l2 := l.drop L.length) (by simpa using hi0) h2 h3 h5
    (fun j o => by
      rw [List.getElem?_take]
      split
      · rename_i h; simp [h]
      · rename_i h; constructor
        · intro h'; cases h'
        · intro h'; exact absurd h'.1 h)
    (fun j o ho => by rw [List.getElem?_drop] at ho; simpa using ho)
    (fun listed hs hg => by
      rw [hl2]
      have e : listed = Array.ofFn (n := l.toArray.size) fun i => decide (i.1 < L.length) := by
        refine Array.ext (by simp [hs]) (fun i h5 h6 => ?_)
        have := hg i
        simp only [Array.getElem_ofFn]
        have e1 : listed.getD i true = listed[i] := by simp [h5]
        rw [← e1, this]
        have : i < l.toArray.size := by omega
        by_cases h7 : i < L.length
        · simp [h7]
        · simp only [h7, false_or, decide_false, decide_eq_false_iff_not]; omega
      rw [e]; exact h4)
    hmono (h _ rfl).1 (h _ rfl).2 L.length 0 (Array.replicate l.toArray.size false) (firstY l a) (fun _ => 0) (fun _ => 0) (w.drewN 1) (by simp) (fun i h5 h6 => by simp at h6; simp [h6]) (closed_none _ _) ?_ ?_
  · have e : (l.drop L.length).length + L.length + 0 = l.toArray.size := by rw [hl2]; simp; omega
    rw [e, fills_self l a (l.take L.length) 0 (fun j o ho => by
      rw [List.getElem?_take] at ho
      split at ho
      · simpa using ho
      · cases ho)] at F
    exact F
  · have : ∀ k, k ≤ L.length → cntM (fun i => !(Array.replicate l.toArray.size false).getD i true) k = k := by
      intro k
      induction k with
      | zero => intro _; rfl
      | succ k ih =>
        intro hk
        have h5 : k < l.toArray.size := by simp; omega
        simp only [cntM]
        rw [ih (by omega)]
        have : (Array.replicate l.toArray.size false).getD k true = false := by simp at h5; simp [h5]
        simp only [this]; rfl
    exact this L.length (Nat.le_refl _)
  · have none : ∀ i, i < L.length → (Array.replicate l.toArray.size false).getD i true = true → False := fun i hi h => by
      have : i < l.length := by omega
      simp [this] at h
    have hi1 : i0 < l.length := by
      have : i0 < L.length := by simpa using hi0
      omega
    exact ⟨by simpa [hi1] using hJ0, Nat.le_refl _, fun i hi h => (none i hi h).elim, fun i hi h => (none i hi h).elim, fun i j hi _ h _ _ => (none i hi h).elim, fun j o e hj h _ _ _ => (none j hj h).elim⟩
/-- What is asked of an operation: A is the state, told by its slots. -/
def HopL (P : Program) (ops : Array Oper) (Q : Exit → Act → World → Prop) (w : World) (J : Bool → World → Prop) (i0 : Nat) (a : Act) (l : List Oper) (L : List It) (i : Nat) (o : Oper) : Prop :=
  ∀ (A : Act) (y : Nat → Value) (W : World) (b : Bool), (∀ (j : Nat) (o' : Oper) (d : Nat), l[j]? = some o' → o'.dst = some d → A.tmps.getD d undef = y j) → (∀ d, wrB d l = false → A.tmps.getD d undef = a.tmps.getD d undef) → ((i == i0) = true → b = false) → J b W → w.heap.size ≤ W.heap.size → (∀ e ∈ o.after, Region.binds .any e = true → ndB e = true → ∃ lo hi, w.heap.size ≤ lo ∧ hi ≤ W.heap.size ∧ (itL L e.on).p y lo hi W) →
    ∀ K : Act → World → Prop, Shut (∀ x W', StpJ J i0 b L i y W W' → (itL L i).p (updV y i x) W.heap.size W'.heap.size W' → K (A.put o.dst x) W') → if Region.wanted o (yielded ops A.tmps) = true then Oper.wp P o A W K Q else K (A.put o.dst undef) W
def HopsL (P : Program) (ops : Array Oper) (Q : Exit → Act → World → Prop) (w : World) (J : Bool → World → Prop) (i0 : Nat) (a : Act) (l : List Oper) (L : List It) : Nat → List Oper → Prop
  | _, [] => True
  | k, o :: r => HopL P ops Q w J i0 a l L k o ∧ HopsL P ops Q w J i0 a l L (k + 1) r
theorem hopsl_of {ops : Array Oper} {w : World} {J : Bool → World → Prop} {i0 : Nat} {a : Act} {l : List Oper} {L : List It} (hs : slotsB a.tmps.size l = true) (h1 : onceB l = true) : ∀ (r : List Oper) (k : Nat), (∀ j o, r[j]? = some o → l[k + j]? = some o) → HopsL P ops Q w J i0 a l L k r → HopsK P ops Q w J i0 (fun y => fills 0 l y a) L k r
  | [], _, _, _ => trivial
  | o :: r, k, hl, H => by
    refine ⟨fun y W b hb d hz hd K hK => ?_, hopsl_of hs h1 r (k + 1) (fun j o' ho => by have := hl (j + 1) o' (by simpa using ho); rwa [show k + 1 + j = k + (j + 1) by omega]) H.2⟩
    have hk : l[k]? = some o := hl 0 o rfl
    refine H.1 (fills 0 l y a) y W b (fun j o' d' hj hd' => ?_) (fun d' hd' => fills_other l 0 y a d' hd') hb d hz hd K (fun x W' hst hp => ?_)
    · have hlt : d' < a.tmps.size := by
        unfold slotsB at hs
        rw [List.all_eq_true] at hs
        have := hs o' (List.mem_of_getElem? hj)
        rw [hd'] at this
        simpa using this
      have := fills_at l 0 j y a o' d' h1 hj hd' hlt
      rwa [Nat.zero_add] at this
    · refine hK x _ W' hst hp ?_
      have := fills_upd l 0 k y a o x h1 hk
      rwa [Nat.zero_add] at this
/-- **A region whose first operations come in whatever order, the state told by its slots.** -/
theorem wp_region_sj {id : Nat} {a : Act} {w : World} {l : List Oper} (J : Bool → World → Prop) (i0 : Nat) (L : List It) (hi0 : Nat.blt i0 L.length = true) (hJ0 : J false (w.drewN 1)) (hm : P.follows .mixedOrders = true) (hB : stB l.toArray L.length (L.map It.ret) (L.map It.reads) = true) (hO : onceB (l.take L.length) = true) (hS : slotsB a.tmps.size (l.take L.length) = true) (hmono : MonIL 0 L)
    (hop : HopsL P l.toArray Q w J i0 a (l.take L.length) L 0 (l.take L.length))
    (hfin : ∀ y lo hi W, MadeJ w J i0 L l.toArray L.length (fun _ => true) y lo hi W → wpList P l.toArray Q (l.drop L.length) (fills 0 (l.take L.length) y a) W) : (Code.region id l.toArray true).wp P Q a w :=
  wp_region_stj J i0 L hi0 hJ0 hm hB hmono (fun F hF => by
    subst hF
    exact ⟨hopsl_of hS hO _ 0 (fun j o ho => by rwa [Nat.zero_add]) hop, hfin⟩)
end
end Go.Proofs.YtgnpdhgphkocoaaGreatDoor
namespace Go.Proofs.YtgnpdhgphkocoaaGreatDoor
open Go.RowKit Go.Maps Go.Shelf
attribute [local go_sem] Oper.semAt_some
/-! ### Symbols -/
/-! ### Marks of states -/
/-! ### finals -/
def finB (Fi : List Int) (q : Nat) : Bool := decide ((q : Int) ∈ Fi)
/-! ### Rows by state and symbol -/
/-- An edge by its row. -/
def kE (m : Nat) (L : List EdT) : List EdT := L.map fun e => (e.1 * (m : Int) + e.2.1, 0, e.2.2)
def toL (L : List EdT) : List Int := L.map fun e => e.2.2
/-- What newRows answers: the ends in their order, and where each row begins. -/
structure RwA (B : Nat) (w : World) (m R : Nat) (Ed : List EdT) (aE : Option Addr) (n cE g : Nat) : Prop where
  ow : w.ownsRow B 3 1 (.slice aE n cE) n ((toL Ed).map (Value.int .i64))
  fi : Mrw w g 3 (R + 1) (fun c => .int .i64 ((lessC (kE m Ed) c : Nat) : Int)) (R + 1)
  ge : B ≤ g
end Go.Proofs.YtgnpdhgphkocoaaGreatDoor
namespace Go.Proofs
open Go.Shelf Go.RowKit Go.Lib Go.Sort
open Go.Sort Go.RowKit in
def Tryz.laysNm215_ren : Go.Shelf.Ren := ⟨fun | 15 => 64 | n => n, fun | 22 => 22 | 3 => 3 | 4 => 4 | n => n, fun | n => n⟩
theorem Tryz.laysNm215 : Go.Proofs.Lays2.n15 Tryz.prog Tryz.laysNm215_ren := {
  mixed := by kernel_rfl
  f15 := Tryz.func64.trans (congrArg some (by kernel_rfl))
  t3 := Tryz.underlying3
  a3 := Tryz.isAgg3
  z3 := Tryz.sizeOf3
  v3 := Tryz.zeroValue3
  t4 := Tryz.underlying4
  a4 := Tryz.isAgg4
  z4 := Tryz.sizeOf4
  v4 := Tryz.zeroValue4
  t22 := Tryz.underlying22
  a22 := Tryz.isAgg22
  z22 := Tryz.sizeOf22
  v22 := Tryz.zeroValue22
  i3 := by kernel_rfl }
theorem Tryz.slices_Clone_int (b off n c : Nat) (zs : List Int) (w : World) (hz : n ≤ zs.length) (hbig : n * 8 ≤ 140737488355328) (hc : ∀ j, j < zs.length → w.cell? ⟨b, off + j, none⟩ = some (.int .i64 (zs.getD j 0))) :
    Calls Tryz.prog 64 #[.slice (some ⟨b, off, none⟩) n c] w fun e w' => ∃ v', e = .returned v' ∧ w'.ownsRow w.heap.size 3 1 v' n ((zs.take n).map (Value.int .i64)) ∧ v' ≠ .slice none 0 0 ∧ Below w.heap.size w w' := Any.slices_Clone_int Tryz.laysNm215 b off n c zs w hz hbig hc
theorem Tryz.slices_Clone_int_nil (n c : Nat) (w : World) :
    Calls Tryz.prog 64 #[.slice none n c] w fun e w' => e = .returned (.slice none 0 0) ∧ w' = w := Any.slices_Clone_int_nil Tryz.laysNm215 n c w
theorem Tryz.slices_Clone_int_zero (a : Addr) (c : Nat) (w : World) :
    Calls Tryz.prog 64 #[.slice (some a) 0 c] w fun e w' => ∃ v', e = .returned v' ∧ w'.ownsRow w.heap.size 3 1 v' 0 [] ∧ v' ≠ .slice none 0 0 ∧ Below w.heap.size w w' := Any.slices_Clone_int_zero Tryz.laysNm215 a c w
end Go.Proofs
namespace Go.Proofs.YtgnpdhgphkocoaaGreatDoor
open Go.RowKit Go.Maps Go.Sort Go.Proofs
theorem clone_own (w : World) (ao : Option Addr) (n c : Nat) (L : List Int) (hn : L.length = n) (hA : Hid (RdN w ao L)) (hl : n ≤ 4194304) :
    Calls Tryz.prog 64 #[.slice ao n c] w fun e w' => ∃ v', e = .returned v' ∧ Hid (w'.ownsRow w.heap.size 3 1 v' n (L.map (Value.int .i64)) ∧ Below w.heap.size w w') := by
  subst hn
  cases ao with
  | none =>
    obtain rfl : L = [] := by
      cases L with
      | nil => rfl
      | cons x L => obtain ⟨g, o, e, _⟩ := hA.out 0 (by simp); cases e
    refine (Tryz.slices_Clone_int_nil _ c w).mono ?_
    rintro e w' ⟨rfl, rfl⟩
    exact ⟨_, rfl, hide ⟨World.ownsRow_nil _ _ _ _, Below.refl _ _⟩⟩
  | some a =>
    by_cases h0 : L.length = 0
    · obtain rfl := List.eq_nil_of_length_eq_zero h0
      refine (Tryz.slices_Clone_int_zero a c w).mono ?_
      rintro e w' ⟨v, rfl, o, _, d⟩
      exact ⟨v, rfl, hide ⟨o, d⟩⟩
    · obtain ⟨g, o, e, _⟩ := hA.out 0 (by omega)
      cases e
      refine (Tryz.slices_Clone_int g o L.length c L w (Nat.le_refl _) (by omega) (fun j hj => by
        obtain ⟨g', o', e, q⟩ := hA.out j hj
        cases e
        rw [q]
        simp [List.getD, List.getElem?_eq_getElem hj])).mono ?_
      rintro e w' ⟨v, rfl, o, _, d⟩
      rw [List.take_length] at o
      exact ⟨v, rfl, hide ⟨o, d⟩⟩
end Go.Proofs.YtgnpdhgphkocoaaGreatDoor
namespace Go.Proofs.YtgnpdhgphkocoaaGreatDoor
open Go.RowKit Go.Maps Go.Shelf
attribute [local go_sem] Oper.semAt_some
/-! ### lead: edges behind a row, to each of some ends once -/
/-- The edges, and one from p by s to each of the ends, rising, once. -/
def ledL (E : List EdT) (p s : Int) (C : List Int) : List EdT := E ++ C.map fun q => (p, s, q)
/-- What lead holds. -/
structure LedI (w : World) (B : Nat) (E : List EdT) (p s : Int) (C : List Int) (i : Nat) (vc v : Value) (wr : World) : Prop where
  ed : wr.ownsRow B 62 3 v (ledL E p s (C.take i)).length ((ledL E p s (C.take i)).flatMap encE)
  en : wr.ownsRow B 3 1 vc C.length (C.map (Value.int .i64))
  be : Below B w wr
/-! ### bridged: the edges, with those that lead on from a final state to a beginning -/
theorem RwA.on {B : Nat} {w w' : World} {m R : Nat} {Ed : List EdT} {aE : Option Addr} {n cE g : Nat} (h : RwA B w m R Ed aE n cE g) (d : Below w.heap.size w w') : RwA B w' m R Ed aE n cE g := ⟨own_below h.ow d, h.fi.below d h.fi.lt, h.ge⟩
/-- What bridged holds all the while: the rows and the final states, in boxes. -/
structure BrA (w W : World) (N m R n : Nat) (Ed : List EdT) (Fi : List Int) (p6 p7 : Nat) (aE : Option Addr) (cE g gf : Nat) : Prop where
  b6 : W.heap[p6]? = some (.cells #[.int .i64 (m : Int), .slice aE n cE, .slice (some ⟨g, 0, none⟩) (R + 1) (R + 1)] 93 (0, 0))
  b7 : W.heap[p7]? = some (.cells #[.slice (some ⟨gf, 0, none⟩) N N] 9077 (0, 0))
  rw : RwA 0 W m R Ed aE n cE g
  fi : Mrw W gf 4 N (fun c => .bool (finB Fi c)) N
  be : Below w.heap.size w W
theorem BrA.on {w W W' : World} {N m R n : Nat} {Ed : List EdT} {Fi : List Int} {p6 p7 : Nat} {aE : Option Addr} {cE g gf : Nat} (h : BrA w W N m R n Ed Fi p6 p7 aE cE g gf) (d : Below W.heap.size W W') : BrA w W' N m R n Ed Fi p6 p7 aE cE g gf :=
  ⟨blk_on h.b6 d, blk_on h.b7 d, h.rw.on d, h.fi.below d h.fi.lt, h.be.trans (d.mono h.be.size)⟩
/-- What bridged has made. -/
structure BrI (wx : World) (E : List EdT) (v : Value) (wr : World) : Prop where
  ow : wr.ownsRow wx.heap.size 62 3 v E.length (E.flatMap encE)
  be : Below wx.heap.size wx wr
  le : E.length ≤ 65536
/-! ### The document's Normal -/
/-- An automaton's lists, each in a row of one's own. -/
structure OwnO (B : Nat) (w : World) (v1 v2 v3 : Value) (S F : List Int) (E : List EdT) : Prop where
  s : w.ownsRow B 3 1 v1 S.length (S.map (Value.int .i64))
  f : w.ownsRow B 3 1 v2 F.length (F.map (Value.int .i64))
  e : w.ownsRow B 62 3 v3 E.length (E.flatMap encE)
  ne : ∀ g, v1.ownBlock = some g → v2.ownBlock ≠ some g
theorem OwnO.on {B : Nat} {w w' : World} {v1 v2 v3 : Value} {S F : List Int} {E : List EdT} (h : OwnO B w v1 v2 v3 S F E) (d : Below w.heap.size w w') : OwnO B w' v1 v2 v3 S F E := ⟨own_below h.s d, own_below h.f d, own_below h.e d, h.ne⟩
theorem OwnO.keep {B p : Nat} {w w' : World} {v1 v2 v3 : Value} {S F : List Int} {E : List EdT} {cs : Array Value} (h : OwnO B w v1 v2 v3 S F E) (z : w.heap[p]? = some (.cells cs 25 (0, 0))) (o : Only w w' (fun k => k = p)) : OwnO B w' v1 v2 v3 S F E := ⟨own_keep h.s z (by decide) o, own_keep h.f z (by decide) o, own_keep h.e z (by decide) o, h.ne⟩
theorem OwnO.rd {B : Nat} {w : World} {b1 b2 b3 : Option Addr} {k1 k2 k3 : Nat} {S F : List Int} {E : List EdT} (h : OwnO B w (.slice b1 S.length k1) (.slice b2 F.length k2) (.slice b3 E.length k3) S F E) : RdA w b1 b2 b3 S F E := ⟨own_rdN h.s, own_rdN h.f, own_rdE h.e⟩
/-! ### moved: an automaton whose states are moved by a number -/
/-- What moved has made: a box, and rows of its own. -/
structure MvA (w W : World) (p : Nat) (n m : Int) (v1 v2 v3 : Value) (S F : List Int) (E : List EdT) : Prop where
  bx : W.heap[p]? = some (.cells #[.int .i64 n, .int .i64 m, v1, v2, v3] 25 (0, 0))
  ge : w.heap.size ≤ p
  ow : OwnO w.heap.size W v1 v2 v3 S F E
  be : Below w.heap.size w W
section
variable {P : Program} {md : Region.Mode} {ops : Array Oper} {C : World → Prop}
end
theorem grown_only {w w' : World} {r : Option Nat} (h : w.grownBy w' r) : Only w w' (fun k => r = some k) := ⟨h.os, h.tape, h.output, h.size, fun k hk hn => h.block k hk (fun e => hn e.symm)⟩
theorem mrw_row {W : World} {B H n : Nat} {K : List Int} (h : Mrw W H 3 n (fun c => .int .i64 (K.getD c 0)) n) (hK : K.length = n) (hB : B ≤ H) (hn : n ≤ maxLen) : W.ownsRow B 3 1 (.slice (some ⟨H, 0, none⟩) n n) n (K.map (Value.int .i64)) := by
  obtain ⟨cur, h1, h2, h3⟩ := h
  refine ⟨by simp [hK], .inr ⟨H, n, cur, rfl, hB, h1, Nat.le_refl _, hn, by omega, ?_⟩⟩
  rw [Nat.mul_one, List.take_of_length_le (by simp; omega)]
  apply List.ext_getElem?
  intro j
  by_cases hj : j < n
  · rw [Array.getElem?_toList, h3 j hj, List.getElem?_map, List.getElem?_eq_getElem (by omega)]
    simp [List.getD, List.getElem?_eq_getElem (show j < K.length by omega)]
  · rw [List.getElem?_eq_none (by simp; omega), List.getElem?_eq_none (by simp; omega)]
section
variable {P : Program} {ops : Array Oper} {Q : Exit → Act → World → Prop}
end
section
variable {P : Program} {ops : Array Oper} {Q : Exit → Act → World → Prop}
end
section
variable {P : Program} {Q : Exit → Act → World → Prop}
end
section
variable {P : Program} {ops : Array Oper} {Q : Exit → Act → World → Prop}
end
def OwI (W : World) (B : Nat) (v : Value) (L : List Int) : Prop := W.ownsRow B 3 1 v L.length (L.map (Value.int .i64))
theorem owI_nil (W : World) (B : Nat) : OwI W B (.slice none 0 0) [] := World.ownsRow_nil _ _ _ _
theorem owI_rd {W : World} {B c : Nat} {b : Option Addr} {n : Nat} {X : List Int} (h : OwI W B (.slice b n c) X) : n = X.length ∧ RdN W b X := by
  unfold OwI at h
  rcases h.2 with ⟨hv, hn⟩ | ⟨g, cap, cur, hv, hB, hg, h1, h2, h3, h4⟩
  · cases hv
    exact ⟨hn.symm, fun j hj => by omega⟩
  · cases hv
    refine ⟨rfl, fun j hj => ⟨g, 0, rfl, ?_⟩⟩
    rw [Nat.mul_one] at h4
    have e : cur.toList[j]? = some (.int .i64 X[j]) := by
      have q : (cur.toList.take X.length)[j]? = (X.map (Value.int .i64))[j]? := by rw [h4]
      rw [List.getElem?_take_of_lt hj] at q
      rw [q]
      simp [hj]
    rw [Nat.zero_add]
    exact cell_of hg (by simpa using e)
/-- A number behind a row of one's own. -/
theorem dwpList_appI {ops : Array Oper} {rest : List Oper} {o : Oper} {a : Act} {Q : Exit → Act → World → Prop} {w : World} (hgd : o.guard = none) (s x : Operand)
    (ho : o.op = .call { callee := .builtin .append, args := #[s, x], argTypes := #[22, 22] }) (B : Nat) (v : Value) (X : List Int) (hs : a.eval s = v) (hown : OwI w B v X) (p : Nat) (y : Int) (hx : a.eval x = .slice (some ⟨p, 0, none⟩) 1 1) (hp : w.heap[p]? = some (.cells #[.int .i64 y] 3 (0, 0))) (hl : X.length ≤ 16777216) (hB : B ≤ w.heap.size)
    (h : ∀ b n c w', Hid (OwI w' B (.slice b n c) (X ++ [y])) → Hid (n = X.length + 1) → Hid (Only w w' (fun k => v.ownBlock = some k)) → Hid ((Value.slice b n c).ownBlock = v.ownBlock ∨ (Value.slice b n c).ownBlock = some w.heap.size) → wpList Tryz.prog ops Q rest (a.put o.dst (.slice b n c)) w') : wpList Tryz.prog ops Q (o :: rest) a w := by
  obtain ⟨i3, hi3, hz30, hz31, hz32⟩ := info_parts info3
  refine wpList_append_own_at _ hgd s x 22 ho B 3 i3 _ 1 8 Tryz.underlying22 hi3 hz30 hz31 hz32 rfl (by omega) v X.length (X.map (Value.int .i64)) hs hown ⟨p, 0, none⟩ 1 1 [.int .i64 y] hx rfl (one_cells hp) (by simp [Value.oneCell']) (by unfold maxLen; omega) (by omega) (by omega) ?_
  intro v2 w2 h2 hgr _ hn
  have h3 : OwI w2 B v2 (X ++ [y]) := by unfold OwI; rw [List.map_append, List.length_append]; exact h2
  obtain ⟨b, c, rfl⟩ := own_slice h2
  exact h b _ c w2 (hide h3) (hide rfl) (hide (grown_only hgr)) (hide hn)
theorem mrw_make {W : World} {g t n : Nat} {z : Value} (hz : z.cells = #[z]) (h : W.heap[g]? = some (.cells (madeCells z.cells (n * 1)) t (0, 0))) : Mrw W g t n (fun _ => z) n := by
  refine ⟨_, h, by rw [size_madeCells]; omega, fun j hj => ?_⟩
  rw [← Array.getElem?_toList, hz, Nat.mul_one, toList_madeCells_one, List.getElem?_replicate, if_pos hj]
theorem row_tag {W : World} {B k n sz : Nat} {e t : TypeId} {v : Value} {xs : List Value} {cs : Array Value} {fr : Nat × Nat} (h : W.ownsRow B e sz v n xs) (hb : W.heap[k]? = some (.cells cs t fr)) (hne : t ≠ e) (hk : v.ownBlock = some k) : False := by
  rcases h.2 with ⟨hv, _⟩ | ⟨g', cap', cur', hv, _, hgc, _⟩
  · subst hv
    cases hk
  · subst hv
    cases hk
    rw [hb] at hgc
    cases hgc
    exact hne rfl
def natI (T : List Nat) : List Int := T.map fun (q : Nat) => (q : Int)
theorem natI_len (T : List Nat) : (natI T).length = T.length := by simp [natI]
theorem mrw_some {W : World} {H : Nat} {t : TypeId} {N : Nat} {val : Nat → Value} (h : Mrw W H t N val 0) : ∃ val', Mrw W H t N val' N := by
  obtain ⟨cur, h1, h2, _⟩ := h
  exact ⟨fun j => (cur[j]?).getD undef, cur, h1, h2, fun j hj => by simp [Array.getElem?_eq_getElem (show j < cur.size by omega)]⟩
section
variable {α : Type} {φ : α → Nat → α} {M : Nat} {first : α} {T : List α} {K : List Nat} {c : Nat}
end
/-- What all worlds keep: all but what R tells; all that was there, till the operation has come up. -/
def JO (w : World) (R : Nat → Prop) : Bool → World → Prop := fun b W => (b = false → Below w.heap.size w W) ∧ Only w W R
theorem JO_first {w W : World} {R : Nat → Prop} (d : Below w.heap.size w W) : JO w R false W := ⟨fun _ => d, Only.ofBelow d⟩
theorem JO_on {w W W' : World} {R : Nat → Prop} {b : Bool} (d : JO w R b W) (d1 : Below W.heap.size W W') : JO w R b W' := ⟨fun h => (d.1 h).trans (d1.mono (d.1 h).size), d.2.trans (Only.ofBelow d1)⟩
theorem JO_put {w W W' : World} {R : Nat → Prop} {b : Bool} (d : JO w R b W) (o : Only W W' R) : JO w R true W' := ⟨fun h => (by cases h), d.2.trans o⟩
theorem JO_blk {w W : World} {R : Nat → Prop} {b : Bool} {k : Nat} {ob : Obj} (d : JO w R b W) (h : w.heap[k]? = some ob) (n : ¬ R k) : W.heap[k]? = some ob := (d.2.block k (Array.getElem?_eq_some_iff.1 h).1 n).trans h
def updF {α : Type} (f : Nat → α) (i : Nat) (x : α) : Nat → α := fun j => if j = i then x else f j
theorem updF_same {α : Type} (f : Nat → α) (i : Nat) (x : α) : updF f i x i = x := if_pos rfl
theorem updF_ne {α : Type} (f : Nat → α) {i j : Nat} (x : α) (h : j ≠ i) : updF f i x j = f j := if_neg h
/-- Where the parting's blocks lie: from B on, none in the zone that is lent. -/
def Rz (B : Nat) (Z : Nat → Prop) : Nat → Prop := fun k => B ≤ k ∧ ¬ Z k
/-- Rows of numbers, each its own. -/
structure Fam (B : Nat) (Z : Nat → Prop) (n gc : Nat) (w : World) (V : Nat → Value) (L : Nat → List Nat) : Prop where
  own : ∀ i, i < n → OwI w B (V i) (natI (L i))
  ap : ∀ i j, i < n → j < n → i ≠ j → ∀ k, (V i).ownBlock = some k → (V j).ownBlock ≠ some k
  ac : ∀ i, i < n → (V i).ownBlock ≠ some gc
  zv : ∀ i, i < n → ∀ k, (V i).ownBlock = some k → Rz B Z k
/-- One of the rows is changed, in its place or anew. -/
theorem Fam.put {B n gc i : Nat} {Z : Nat → Prop} {w w' : World} {V : Nat → Value} {L : Nat → List Nat} {v : Value} {X : List Nat} (h : Fam B Z n gc w V L) (hi' : i < n) (o : Only w w' (fun k => (V i).ownBlock = some k)) (ho : OwI w' B v (natI X)) (hb : ∀ k, v.ownBlock = some k → (V i).ownBlock = some k ∨ w.heap.size ≤ k) (hg : gc < w.heap.size) (hh : ∀ k, Z k → k < w.heap.size) : Fam B Z n gc w' (updF V i v) (updF L i X) := by
  have hlt : ∀ j, j < n → ∀ k, (V j).ownBlock = some k → k < w.heap.size := fun j hj k hk => ((h.own j hj).lt k hk).2
  refine ⟨fun j hj => ?_, fun j j' hj hj' ne k hk hk' => ?_, fun j hj e => ?_, fun j hj k hk => ?_⟩
  · by_cases e : j = i
    · subst e
      rw [updF_same, updF_same]
      exact ho
    · rw [updF_ne _ _ e, updF_ne _ _ e]
      exact row_only (h.own j hj) o (fun k hk q => h.ap j i hj hi' e k hk q)
  · by_cases e : j = i
    · subst e
      rw [updF_same] at hk
      rw [updF_ne _ _ (fun z => ne z.symm)] at hk'
      rcases hb k hk with q | q
      · exact h.ap j j' hj hj' ne k q hk'
      · have := hlt j' hj' k hk'; omega
    · rw [updF_ne _ _ e] at hk
      by_cases e2 : j' = i
      · subst e2
        rw [updF_same] at hk'
        rcases hb k hk' with q | q
        · exact h.ap j j' hj hj' ne k hk q
        · have := hlt j hj k hk; omega
      · rw [updF_ne _ _ e2] at hk'
        exact h.ap j j' hj hj' ne k hk hk'
  · by_cases e2 : j = i
    · subst e2
      rw [updF_same] at e
      rcases hb gc e with q | q
      · exact h.ac j hj q
      · omega
    · rw [updF_ne _ _ e2] at e
      exact h.ac j hj e
  · by_cases e2 : j = i
    · subst e2
      rw [updF_same] at hk
      exact ⟨(ho.lt k hk).1, (hb k hk).elim (fun q => (h.zv j hj k q).2) (fun q z => by have := hh k z; omega)⟩
    · rw [updF_ne _ _ e2] at hk
      exact h.zv j hj k hk
/-- A row of one number, new. -/
def ox1P (B : Nat) (u : Value) : MkP := fun x lo hi W => x = .slice (some ⟨lo, 0, none⟩) 1 1 ∧ B ≤ lo ∧ lo < hi ∧ W.heap[lo]? = some (.cells #[u] 3 (0, 0))
theorem ox1P_mono {B : Nat} {u : Value} : MonoP (ox1P B u) := fun _ _ _ _ _ hs d ⟨e, l, l2, z⟩ => ⟨e, l, l2, (d.block _ (by omega)).trans z⟩
theorem ox1P_keep {B lo hi : Nat} {u x : Value} {W W' : World} {R : Nat → Prop} (hh : hi ≤ W.heap.size) (h : ox1P B u x lo hi W) (o : Only W W' R) (hR : ∀ k, R k → k < B) : ox1P B u x lo hi W' :=
  ⟨h.1, h.2.1, h.2.2.1, (o.block lo (by have := h.2.2.1; omega) (fun q => by have := hR _ q; have := h.2.1; omega)).trans h.2.2.2⟩
/-- A row of numbers with one behind it: in its place or anew. -/
def apI (B : Nat) (X : List Nat) (r : Option Nat) (n : Nat) : MkP := fun x _ _ W => ∃ v, x = v ∧ OwI W B v (natI X) ∧ ∀ k, v.ownBlock = some k → r = some k ∨ n ≤ k
theorem apI_mono {B n : Nat} {X : List Nat} {r : Option Nat} : MonoP (apI B X r n) := fun _ _ _ _ _ _ d ⟨v, e, h, k⟩ => ⟨v, e, own_below h d, k⟩
/-- One number behind a row: at a step of a region that draws. -/
theorem step_appI {w : World} {ops : Array Oper} {o : Oper} {a : Act} {K : Act → World → Prop} {Q : Exit → Act → World → Prop} {E : Prop} (hgd : o.guard = none) (s x : Operand)
    (ho : o.op = .call { callee := .builtin .append, args := #[s, x], argTypes := #[22, 22] }) (B : Nat) (v : Value) (X : List Nat) (hs : a.eval s = v) (hown : OwI w B v (natI X)) (p y : Nat) (hx : a.eval x = .slice (some ⟨p, 0, none⟩) 1 1) (hp : w.heap[p]? = some (.cells #[.int .i64 (y : Int)] 3 (0, 0))) (hl : X.length ≤ 16777216) (hB : B ≤ w.heap.size)
    (h : ∀ v' w', OwI w' B v' (natI (X ++ [y])) → Hid (Only w w' (fun k => v.ownBlock = some k)) → (∀ k, v'.ownBlock = some k → v.ownBlock = some k ∨ w.heap.size ≤ k) → K (a.put o.dst v') w') :
    if Region.wanted o (yielded ops a.tmps) = true then Oper.wp Tryz.prog o a w K Q else E := by
  obtain ⟨i3, hi3, hz30, hz31, hz32⟩ := info_parts info3
  have hl2 := natI_len X
  refine step_append_lies w hgd s x 22 ho B 3 i3 _ 1 8 Tryz.underlying22 hi3 hz30 hz31 hz32 rfl (by omega) v (natI X).length ((natI X).map (Value.int .i64)) hs hown ⟨p, 0, none⟩ 1 1 [.int .i64 (y : Int)] hx rfl (one_cells hp) (by simp [Value.oneCell']) (by omega) (by unfold maxLen; omega) (by omega) hB w.heap.size rfl ?_
  intro g cap w' h1 h2 h3 h4
  refine h _ w' ?_ (hide (grown_only h2)) (fun k hk => ?_)
  · have e : (natI (X ++ [y])) = natI X ++ [(y : Int)] := by simp [natI]
    unfold OwI
    rw [e, List.length_append, List.map_append]
    exact h1
  · cases hk
    rcases h3 with q | q
    · exact Or.inl q
    · exact Or.inr (by rw [q]; exact Nat.le_refl _)
def mkP (B : Nat) (t : TypeId) (n : Nat) (C : Array Value) : MkP := fun x lo hi W => x = .slice (some ⟨lo, 0, none⟩) n n ∧ B ≤ lo ∧ lo < hi ∧ W.heap[lo]? = some (.cells C t (0, 0))
theorem mkP_mono {B : Nat} {t : TypeId} {n : Nat} {C : Array Value} : MonoP (mkP B t n C) := fun _ _ _ _ _ hs d ⟨e, l, l2, z⟩ => ⟨e, l, l2, (d.block _ (by omega)).trans z⟩
end Go.Proofs.YtgnpdhgphkocoaaGreatDoor
