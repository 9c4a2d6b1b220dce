import Derived.Test.YtchoopnjckcohaaGreatDoorQac
import Derived.Shelf.Sort.Plain
import Derived.Shelf.Slices.Clone
import Derived.Shelf.Slices.In.SortNone
import Derived.Laws.IdiomStrings
import Derived.Laws.AppendOwnNone
set_option maxRecDepth 100000
set_option maxHeartbeats 40000000
namespace Go.Proofs.YtchoopnjckcohaaGreatDoor
open Go.RowKit Go.Maps Go.Shelf
attribute [local go_sem] Oper.semAt_some
theorem own_rdN {W : World} {B c : Nat} {b : Option Addr} {X : List Int} (h : W.ownsRow B 3 1 (.slice b X.length c) X.length (X.map (Value.int .i64))) : RdN W b X := by
 obtain ⟨b', c', hv, hD⟩ := rd_own h
 cases hv
 exact hD
theorem own_keep {W W' : World} {B n sz p : Nat} {e t : TypeId} {v : Value} {xs : List Value} {cs : Array Value} (h : W.ownsRow B e sz v n xs) (z : W.heap[p]? = some (.cells cs t (0, 0))) (ne : e ≠ t) (o : Only W W' (fun k => k = p)) : W'.ownsRow B e sz v n xs := by
 refine ⟨h.1, ?_⟩
 rcases h.2 with h1 | ⟨g, cap, cur, hv, hb, hg, rest⟩
 · exact Or.inl h1
 · refine Or.inr ⟨g, cap, cur, hv, hb, o.cellK hg (fun e2 => ?_), rest⟩
   subst e2
   rw [z] at hg
   injection hg with hg
   injection hg with _ h2 _
   exact ne h2.symm
theorem one_cells {W : World} {v : Value} {t : TypeId} {p : Nat} (z : W.heap[p]? = some (.cells #[v] t (0, 0))) : ∀ (j : Nat) (u : Value), [v][j]? = some u → W.cell? ((⟨p, 0, none⟩ : Addr).add j) = some u := fun j u hu => by
 cases j with
 | zero =>
  obtain rfl : v = u := by simpa using hu
  rw [Addr.add_lit]
  exact cell_of z rfl
 | succ j => simp at hu
theorem wpList_appI {ops : Array Oper} {rest : List Oper} {o : Oper} {a : Act} {Q : Exit → Act → World → Prop} {w : World} (hgd : o.guard = none) (s x : Operand)
 (ho : o.op = .call { callee := .builtin .append, args := #[s, x], argTypes := #[22, 22] }) (B : Nat) (v : Value) (X : List Int) (hs : a.eval s = v) (hown : w.ownsRow B 3 1 v X.length (X.map (Value.int .i64))) (p : Nat) (y : Int) (hx : a.eval x = .slice (some ⟨p, 0, none⟩) 1 1) (hp : w.heap[p]? = some (.cells #[.int .i64 y] 3 (0, 0))) (hl : X.length ≤ 16777216) (w0 : World) (D : Below B w0 w) (hB : B ≤ w0.heap.size)
 (h : ∀ v' w', Hid (w'.ownsRow B 3 1 v' (X ++ [y]).length ((X ++ [y]).map (Value.int .i64))) → Hid (Below B w0 w') → wpList Tryz.prog ops Q rest (a.put o.dst v') w') : wpList Tryz.prog ops Q (o :: rest) a w := by
 obtain ⟨i3, hi3, hz30, hz31, hz32⟩ := info_parts info3
 have hs0 := D.size
 refine wpList_append_own_at _ hgd s x 22 ho B 3 i3 _ 1 8 Tryz.underlying22 hi3 hz30 hz31 hz32 rfl (by omega) v X.length (X.map (Value.int .i64)) hs hown ⟨p, 0, none⟩ 1 1 [.int .i64 y] hx rfl (one_cells hp) (by simp [Value.oneCell']) (by unfold maxLen; omega) (by omega) (by omega) ?_
 intro v2 w2 h2 hgr _ _
 have hb := hown.lt
 exact h v2 w2 (hide (by rw [List.map_append, List.length_append]; exact h2)) (hide (D.grown hgr (by omega) (fun k hk => (hb k hk).1)))
def stepW (n : Int) (s : Bool × List Int) (x : Int) : Bool × List Int :=
 let t : Bool × List Int := if s.1 = false ∧ n ≤ x then (true, s.2 ++ [n]) else s
 if x = n then t else (t.1, t.2 ++ [x])
def wS (n : Int) (L : List Int) : Bool × List Int := L.foldl (stepW n) (false, [])
def withF (L : List Int) (n : Int) : List Int := if (wS n L).1 then (wS n L).2 else (wS n L).2 ++ [n]
theorem wS_take {n : Int} {L : List Int} {i : Nat} (h : i < L.length) : wS n (L.take (i + 1)) = stepW n (wS n (L.take i)) L[i] := by
 unfold wS
 rw [List.take_succ_eq_append_getElem h, List.foldl_append]
 rfl
theorem stepW_len (n : Int) (s : Bool × List Int) (x : Int) : (stepW n s x).2.length ≤ s.2.length + 2 := by
 unfold stepW
 simp only
 split <;> split <;> simp <;> omega
theorem foldW_len (n : Int) : ∀ (L : List Int) (s : Bool × List Int), (L.foldl (stepW n) s).2.length ≤ s.2.length + 2 * L.length
 | [], s => by simp
 | x :: L, s => by
  have h1 := stepW_len n s x
  have h2 := foldW_len n L (stepW n s x)
  simp only [List.foldl_cons, List.length_cons]
  omega
theorem wS_len (n : Int) (L : List Int) (i : Nat) : (wS n (L.take i)).2.length ≤ 2 * L.length := by
 have h := foldW_len n (L.take i) (false, [])
 have h2 : (L.take i).length ≤ L.length := by rw [List.length_take]; omega
 unfold wS
 simp only [List.length_nil] at h
 omega
theorem with_any (w : World) (ao : Option Addr) (L : List Int) (cp : Nat) (n : Int) (hr : Hid (RdN w ao L)) (hl : L.length ≤ 4194304) :
 Calls Tryz.prog 79 #[.slice ao L.length cp, .int .i64 n] w fun e w' => ∃ b c, e = .returned (.slice b (withF L n).length c) ∧ Hid (w'.ownsRow w.heap.size 3 1 (.slice b (withF L n).length c) (withF L n).length ((withF L n).map (Value.int .i64))) ∧ Below w.heap.size w w' := by
 go_enter Tryz.func79, Tryz.ntmps79
 go_wp2
 go_loopw [5, 6, 7] (fun ov pv iv wr => ∃ i : Nat, i ≤ L.length ∧ pv = .bool (wS n (L.take i)).1 ∧ iv = .int .i64 i ∧ Hid (wr.ownsRow w.heap.size 3 1 ov (wS n (L.take i)).2.length ((wS n (L.take i)).2.map (Value.int .i64)) ∧ Below w.heap.size w wr)) (fun _ _ iv _ => L.length - (intOf iv).toNat)
 case atStart => exact ⟨0, Nat.zero_le _, rfl, rfl, hide ⟨World.ownsRow_nil _ _ _ _, Below.refl _ _⟩⟩
 case round =>
  obtain ⟨i, hi, rfl, rfl, HY⟩ := hrel
  by_cases hlt : i < L.length
  · have i0 : (i : Int) < (L.length : Int) := by omega
    have i1 : (0 : Int) ≤ (i : Int) := by omega
    have iw : IntKind.i64.wrap ((i : Int) + 1) = (i : Int) + 1 := by rw [IntKind.wrap_i64]; omega
    have HLn : Hid ((wS n (L.take i)).2.length ≤ 8388608) := hide (by have := wS_len n L i; omega)
    obtain ⟨g, o, hao, q0⟩ := hr.out i hlt
    subst hao
    have QC0 : Hid (∀ w2, Below w.heap.size w w2 → w2.cell? ⟨g, o + i, none⟩ = some (.int .i64 L[i])) := hide (fun w2 d => (d.cell (p := ⟨g, o + i, none⟩) (World.block_lt_of_cell? w _ q0)).trans q0)
    have q := QC0.out wr HY.out.2
    clear q0
    have HS := hide (wS_take (n := n) hlt)
    generalize L[i] = x at q HS QC0
    generalize wS n (L.take i) = s at HY HS HLn ⊢
    obtain ⟨p, X⟩ := s
    simp only at HY HLn ⊢
    have NX : Hid (∀ (p2 : Bool) (X2 : List Int) (v2 : Value) (w2 : World), stepW n (p, X) x = (p2, X2) → w2.ownsRow w.heap.size 3 1 v2 X2.length (X2.map (Value.int .i64)) → Below w.heap.size w w2 → ∃ j : Nat, j ≤ L.length ∧ Value.bool p2 = .bool (wS n (L.take j)).1 ∧ Value.int .i64 ((i : Int) + 1) = .int .i64 j ∧ Hid (w2.ownsRow w.heap.size 3 1 v2 (wS n (L.take j)).2.length ((wS n (L.take j)).2.map (Value.int .i64)) ∧ Below w.heap.size w w2)) := hide (fun p2 X2 v2 w2 e o d => ⟨i + 1, by omega, by rw [HS.out, e], by simp, hide ⟨by rw [HS.out, e]; exact o, d⟩⟩)
    have QC := QC0
    cases p with
    | false =>
     by_cases hge : n ≤ x
     · by_cases he : x = n
       · have b0 : (x != n) = false := by simpa using he
         have HN := hide (show stepW n (false, X) x = (true, X ++ [n]) by simp [stepW, he])
         clear he
         go_wp2_with (at_builtin; refine wpList_appI rfl _ _ rfl w.heap.size u5 X rfl (own_below HY.out.1 ((Below.refl _ _).alloc (Nat.le_refl _) _)) wr.heap.size n rfl (World.alloc_heap_new _ _) (by have := HLn.out; (try simp only [List.length_append, List.length_cons, List.length_nil]); omega) w (HY.out.2.alloc HY.out.2.size _) (Nat.le_refl _) ?_; intro v2 w2 HO2 HD2; have q2 := QC.out w2 HD2.out)
         go_roundw
         case rel => exact NX.out _ _ _ _ HN.out HO2.out HD2.out
         case measure => simp [intOf]; omega
       · have b0 : (x != n) = true := by simpa using he
         have HN := hide (show stepW n (false, X) x = (true, X ++ [n] ++ [x]) by simp [stepW, hge, he])
         clear he
         go_wp2_with (first
          | (at_builtin; refine wpList_appI rfl _ _ rfl w.heap.size u5 X rfl (own_below HY.out.1 ((Below.refl _ _).alloc (Nat.le_refl _) _)) wr.heap.size n rfl (World.alloc_heap_new _ _) (by have := HLn.out; (try simp only [List.length_append, List.length_cons, List.length_nil]); omega) w (HY.out.2.alloc HY.out.2.size _) (Nat.le_refl _) ?_; intro v2 w2 HO2 HD2; have q2 := QC.out w2 HD2.out)
          | (at_builtin; refine wpList_appI rfl _ _ rfl w.heap.size v2 (X ++ [n]) rfl (own_below HO2.out ((Below.refl _ _).alloc (Nat.le_refl _) _)) w2.heap.size x rfl (World.alloc_heap_new _ _) (by have := HLn.out; (try simp only [List.length_append, List.length_cons, List.length_nil]); omega) w (HD2.out.alloc HD2.out.size _) (Nat.le_refl _) ?_; intro v3 w3 HO3 HD3))
         go_roundw
         case rel => exact NX.out _ _ _ _ HN.out HO3.out HD3.out
         case measure => simp [intOf]; omega
     · have he : ¬ x = n := by omega
       have b0 : (x != n) = true := by simpa using he
       have HN := hide (show stepW n (false, X) x = (false, X ++ [x]) by simp [stepW, hge, he])
       clear he
       go_wp2_with (at_builtin; refine wpList_appI rfl _ _ rfl w.heap.size u5 X rfl (own_below HY.out.1 ((Below.refl _ _).alloc (Nat.le_refl _) _)) wr.heap.size x rfl (World.alloc_heap_new _ _) (by have := HLn.out; (try simp only [List.length_append, List.length_cons, List.length_nil]); omega) w (HY.out.2.alloc HY.out.2.size _) (Nat.le_refl _) ?_; intro v2 w2 HO2 HD2)
       go_roundw
       case rel => exact NX.out _ _ _ _ HN.out HO2.out HD2.out
       case measure => simp [intOf]; omega
    | true =>
     by_cases he : x = n
     · have b0 : (x != n) = false := by simpa using he
       have HN := hide (show stepW n (true, X) x = (true, X) by simp [stepW, he])
       clear he
       go_wp2_with fail
       go_roundw
       case rel => exact NX.out _ _ _ _ HN.out HY.out.1 HY.out.2
       case measure => simp [intOf]; omega
     · have b0 : (x != n) = true := by simpa using he
       have HN := hide (show stepW n (true, X) x = (true, X ++ [x]) by simp [stepW, he])
       clear he
       go_wp2_with (at_builtin; refine wpList_appI rfl _ _ rfl w.heap.size u5 X rfl (own_below HY.out.1 ((Below.refl _ _).alloc (Nat.le_refl _) _)) wr.heap.size x rfl (World.alloc_heap_new _ _) (by have := HLn.out; (try simp only [List.length_append, List.length_cons, List.length_nil]); omega) w (HY.out.2.alloc HY.out.2.size _) (Nat.le_refl _) ?_; intro v2 w2 HO2 HD2)
       go_roundw
       case rel => exact NX.out _ _ _ _ HN.out HO2.out HD2.out
       case measure => simp [intOf]; omega
  · have i0 : ¬ (i : Int) < (L.length : Int) := by omega
    have etk : L.take i = L := List.take_of_length_le (by omega)
    have HLn : Hid ((wS n (L.take i)).2.length ≤ 8388608) := hide (by have := wS_len n L i; omega)
    rw [etk] at HY HLn ⊢
    have HF : Hid (withF L n = if (wS n L).1 then (wS n L).2 else (wS n L).2 ++ [n]) := hide rfl
    generalize wS n L = s at HY HF HLn ⊢
    obtain ⟨p, X⟩ := s
    simp only at HY HF HLn ⊢
    cases p with
    | false =>
     go_wp2_with (at_builtin; refine wpList_appI rfl _ _ rfl w.heap.size u5 X rfl (own_below HY.out.1 ((Below.refl _ _).alloc (Nat.le_refl _) _)) wr.heap.size n rfl (World.alloc_heap_new _ _) (by have := HLn.out; (try simp only [List.length_append, List.length_cons, List.length_nil]); omega) w (HY.out.2.alloc HY.out.2.size _) (Nat.le_refl _) ?_; intro v2 w2 HO2 HD2; have HF2 := HF.out; simp only [Bool.false_eq_true, if_false] at HF2; obtain ⟨b, c, hv⟩ := own_slice HO2.out; subst hv; have HF3 := hide HF2; clear HF2)
     refine bodyPost_ret (results_tmp rfl _ _ _) rfl ?_
     exact ⟨b, c, by rw [HF3.out, List.length_append]; rfl, by rw [HF3.out]; exact HO2, HD2.out⟩
    | true =>
     have HF2 := HF.out
     simp only [if_true] at HF2
     have HF3 := hide HF2
     clear HF2
     obtain ⟨b, c, hv⟩ := own_slice HY.out.1
     subst hv
     go_wp2_with fail
     refine bodyPost_ret (results_tmp rfl _ _ _) rfl ?_
     exact ⟨b, c, by rw [HF3.out]; rfl, by rw [HF3.out]; exact hide HY.out.1, HY.out.2⟩
theorem foldW_put (n : Int) : ∀ (X O : List Int), X.foldl (stepW n) (true, O) = (true, O ++ X.filter (fun x => decide (x ≠ n)))
 | [], O => by simp
 | x :: X, O => by
  rw [List.foldl_cons]
  by_cases h : x = n
  · rw [show stepW n (true, O) x = (true, O) by simp [stepW, h], foldW_put n X O]
    simp [h]
  · rw [show stepW n (true, O) x = (true, O ++ [x]) by simp [stepW, h], foldW_put n X (O ++ [x])]
    simp [h]
theorem foldW_up (n : Int) : ∀ (X O : List Int), X.Pairwise (· < ·) → (if (X.foldl (stepW n) (false, O)).1 then (X.foldl (stepW n) (false, O)).2 else (X.foldl (stepW n) (false, O)).2 ++ [n]) = O ++ X.filter (fun x => decide (x < n)) ++ [n] ++ X.filter (fun x => decide (n < x))
 | [], O, _ => by simp
 | x :: X, O, h => by
  rw [List.pairwise_cons] at h
  rw [List.foldl_cons]
  by_cases hx : x < n
  · rw [show stepW n (false, O) x = (false, O ++ [x]) by simp [stepW, show ¬ n ≤ x by omega, show ¬ x = n by omega], foldW_up n X (O ++ [x]) h.2]
    simp [hx, show ¬ n < x by omega]
  · have hgt : ∀ y ∈ X, n < y := fun y hy => by have := h.1 y hy; omega
    have f1 : X.filter (fun x => decide (x < n)) = [] := List.filter_eq_nil_iff.2 fun y hy => by have := hgt y hy; simp; omega
    have f2 : X.filter (fun x => decide (n < x)) = X := List.filter_eq_self.2 fun y hy => by simpa using hgt y hy
    have f3 : X.filter (fun x => decide (x ≠ n)) = X := List.filter_eq_self.2 fun y hy => by have := hgt y hy; simp; omega
    by_cases he : x = n
    · rw [show stepW n (false, O) x = (true, O ++ [n]) by simp [stepW, he], foldW_put, f3]
      simp [f1, f2, he]
    · rw [show stepW n (false, O) x = (true, O ++ [n] ++ [x]) by simp [stepW, he, show n ≤ x by omega], foldW_put, f3]
      simp [f1, f2, hx, show n < x by omega]
theorem with_up {X : List Int} (n : Int) (h : X.Pairwise (· < ·)) : withF X n = X.filter (fun x => decide (x < n)) ++ [n] ++ X.filter (fun x => decide (n < x)) := by
 unfold withF wS
 rw [foldW_up n X [] h, List.nil_append]
theorem rise_nil : riseL [] = [] := List.eq_nil_of_length_eq_zero (Nat.le_zero.1 (riseL_len []))
theorem with_rise (A : List Int) (n : Int) : withF (riseL A) n = riseL (A ++ [n]) := by
 have hs := riseL_ss A
 refine ssL_eq _ _ ?_ (riseL_ss _) fun x => ?_
 · rw [with_up n hs, List.append_assoc, List.pairwise_append]
   refine ⟨hs.filter _, ?_, ?_⟩
   · rw [List.singleton_append, List.pairwise_cons]
     exact ⟨fun y hy => by simpa using (List.mem_filter.1 hy).2, hs.filter _⟩
   · intro a ha b hb
     have h1 : a < n := by simpa using (List.mem_filter.1 ha).2
     rw [List.singleton_append, List.mem_cons] at hb
     rcases hb with rfl | hb
     · exact h1
     · have h2 : n < b := by simpa using (List.mem_filter.1 hb).2
       omega
 · rw [with_up n hs, riseL_iff]
   simp only [List.mem_append, List.mem_filter, List.mem_singleton, decide_eq_true_eq, riseL_iff]
   constructor
   · rintro ((⟨h, _⟩ | h) | ⟨h, _⟩)
     · exact Or.inl h
     · exact Or.inr h
     · exact Or.inl h
   · rintro (h | h)
     · rcases Int.lt_trichotomy x n with h1 | h1 | h1
       · exact Or.inl (Or.inl ⟨h, h1⟩)
       · exact Or.inl (Or.inr h1)
       · exact Or.inr ⟨h, h1⟩
     · exact Or.inl (Or.inr h)
theorem set_any (w : World) (ao : Option Addr) (L : List Int) (cp : Nat) (hr : Hid (RdN w ao L)) (hl : L.length ≤ 4194304) :
 Calls Tryz.prog 44 #[.slice ao L.length cp] w fun e w' => ∃ b c, e = .returned (.slice b (riseL L).length c) ∧ Hid (w'.ownsRow w.heap.size 3 1 (.slice b (riseL L).length c) (riseL L).length ((riseL L).map (Value.int .i64))) ∧ Below w.heap.size w w' := by
 go_enter Tryz.func44, Tryz.ntmps44
 go_wp2
 go_loopw [3, 4] (fun ov iv wr => ∃ i b c, i ≤ L.length ∧ ov = .slice b (riseL (L.take i)).length c ∧ iv = .int .i64 (i : Nat) ∧ Hid (wr.ownsRow w.heap.size 3 1 (.slice b (riseL (L.take i)).length c) (riseL (L.take i)).length ((riseL (L.take i)).map (Value.int .i64)) ∧ Below w.heap.size w wr)) (fun _ iv _ => L.length - (intOf iv).toNat)
 case atStart => exact ⟨0, none, 0, Nat.zero_le _, by rw [List.take_zero, rise_nil]; rfl, rfl, hide ⟨by rw [List.take_zero, rise_nil]; exact World.ownsRow_nil _ _ _ _, Below.refl _ _⟩⟩
 case round =>
  obtain ⟨i, b, c, hi, rfl, rfl, HY⟩ := hrel
  by_cases hlt : i < L.length
  · have i0 : (i : Int) < (L.length : Int) := by omega
    have i1 : (0 : Int) ≤ (i : Int) := by omega
    have iw : IntKind.i64.wrap ((i : Int) + 1) = (i : Int) + 1 := by rw [IntKind.wrap_i64]; omega
    obtain ⟨g, o, hao, q⟩ := (hr.out.on HY.out.2) i hlt
    subst hao
    have hlen : (riseL (L.take i)).length ≤ 4194304 := Nat.le_trans (riseL_len _) (by rw [List.length_take]; omega)
    have T := with_any wr b (riseL (L.take i)) c L[i] (hide (own_rdN HY.out.1)) hlen
    rw [with_rise, ← List.take_succ_eq_append_getElem hlt] at T
    generalize L[i] = x at q T
    generalize riseL (L.take i) = X at HY T ⊢
    clear hlen
    obtain ⟨Y, hY⟩ : ∃ Y, riseL (L.take (i + 1)) = Y := ⟨_, rfl⟩
    rw [hY] at T
    have HE := hide hY
    clear hY
    go_wp2_with (go_at_call 79; refine T.mono ?_; rintro e w2 ⟨b2, c2, rfl, HR, d2⟩; have HD := hide (HY.out.2.trans (d2.mono HY.out.2.size)); have HR2 := hide (owns_down HR.out HY.out.2.size); clear d2 HR)
    go_roundw
    case rel => exact ⟨i + 1, b2, c2, by omega, by rw [HE.out], by go_num, hide ⟨by rw [HE.out]; exact HR2.out, HD.out⟩⟩
    case measure => simp [intOf]; omega
  · have i0 : ¬ (i : Int) < (L.length : Int) := by omega
    have etk : L.take i = L := List.take_of_length_le (by omega)
    rw [etk] at HY ⊢
    go_wp2_with fail
    refine bodyPost_ret (results_tmp rfl _ _ _) rfl ?_
    exact ⟨b, c, rfl, hide HY.out.1, HY.out.2⟩
theorem kE_less (m : Nat) (L : List EdT) (c : Nat) : lessC (kE m L) c = (L.filter fun e => decide (e.1 * (m : Int) + e.2.1 < (c : Int))).length := by
 unfold lessC kE
 rw [List.filter_map, List.length_map]
 rfl
theorem key_up {m : Nat} {a b : EdT} (h : ltE a b = true) (ha : a.2.1 < (m : Int)) (hb : 0 ≤ b.2.1) : a.1 * (m : Int) + a.2.1 ≤ b.1 * (m : Int) + b.2.1 := by
 rw [ltE_iff] at h
 by_cases e : a.1 = b.1
 · rw [e]
   omega
 · have h2 : a.1 + 1 ≤ b.1 := by omega
   have h3 := Int.mul_le_mul_of_nonneg_right h2 (show (0 : Int) ≤ (m : Int) by omega)
   rw [Int.add_mul, Int.one_mul] at h3
   omega
theorem key_at {m : Nat} {Ed : List EdT} (hS : SsE Ed) (hF : ∀ e ∈ Ed, 0 ≤ e.2.1 ∧ e.2.1 < (m : Int)) (c i : Nat) (h : i < Ed.length) : Ed[i].1 * (m : Int) + Ed[i].2.1 < (c : Int) ↔ i < lessC (kE m Ed) c := by
 have := pre_count (fun e : EdT => decide (e.1 * (m : Int) + e.2.1 < (c : Int))) Ed (List.Pairwise.imp_of_mem (fun {a b} ha hb hab hc => by
  rw [decide_eq_true_eq] at hc ⊢
  have := key_up (m := m) hab (hF a ha).2 (hF b hb).1
  omega) hS) i h
 rw [kE_less, ← this, decide_eq_true_eq]
theorem key_one {m : Nat} {x1 x2 p s : Int} (hx : 0 ≤ x2 ∧ x2 < (m : Int)) (hs : 0 ≤ s ∧ s < (m : Int)) (h : x1 * (m : Int) + x2 = p * (m : Int) + s) : x1 = p ∧ x2 = s := by
 have m0 : (0 : Int) ≤ (m : Int) := by omega
 by_cases e : x1 = p
 · subst e
   exact ⟨rfl, by omega⟩
 · exfalso
   rcases Int.lt_or_gt_of_ne e with q | q
   · have h3 := Int.mul_le_mul_of_nonneg_right (show x1 + 1 ≤ p by omega) m0
     rw [Int.add_mul, Int.one_mul] at h3
     omega
   · have h3 := Int.mul_le_mul_of_nonneg_right (show p + 1 ≤ x1 by omega) m0
     rw [Int.add_mul, Int.one_mul] at h3
     omega
theorem row_eq {m p s k : Nat} {Ed : List EdT} (hS : SsE Ed) (hF : ∀ e ∈ Ed, 0 ≤ e.2.1 ∧ e.2.1 < (m : Int)) (hs : s < m) (hk : p * m + s = k) : subL Ed (lessC (kE m Ed) k) (lessC (kE m Ed) (k + 1)) = fromL Ed p (s : Int) := by
 have ek : (k : Int) = (p : Int) * (m : Int) + (s : Int) := by rw [← hk]; simp
 have le : lessC (kE m Ed) (k + 1) ≤ Ed.length := Nat.le_trans (lessC_le _ _) (Nat.le_of_eq (kE_len _ _))
 refine ss_eq _ _ (subL_ss hS _ _) (fromL_ss hS _ _) fun x => ⟨fun hx => ?_, fun hx => ?_⟩
 · obtain ⟨t, ht, rfl⟩ := List.getElem_of_mem hx
   obtain ⟨h2, e⟩ := subL_get t ht
   rw [subL_len le] at ht
   have a1 := key_at hS hF k _ h2
   have a2 := key_at hS hF (k + 1) _ h2
   have b1 : ¬ Ed[lessC (kE m Ed) k + t].1 * (m : Int) + Ed[lessC (kE m Ed) k + t].2.1 < (k : Int) := fun q => by have := a1.1 q; omega
   have b2 := a2.2 (by omega)
   have hm := List.getElem_mem h2
   rw [e, fromL_iff]
   exact ⟨hm, key_one (hF _ hm) ⟨by omega, by omega⟩ (by omega)⟩
 · rw [fromL_iff] at hx
   obtain ⟨hx, h1, h2⟩ := hx
   obtain ⟨i, hi, rfl⟩ := List.getElem_of_mem hx
   have a1 := key_at hS hF k i hi
   have a2 := key_at hS hF (k + 1) i hi
   rw [h1, h2] at a1 a2
   have b1 : lessC (kE m Ed) k ≤ i := Nat.le_of_not_lt fun q => by have := a1.2 q; omega
   have b2 := a2.1 (by omega)
   obtain ⟨t, rfl⟩ : ∃ t, i = lessC (kE m Ed) k + t := ⟨i - lessC (kE m Ed) k, by omega⟩
   have ht : t < (subL Ed (lessC (kE m Ed) k) (lessC (kE m Ed) (k + 1))).length := by rw [subL_len le]; omega
   obtain ⟨h3, e⟩ := subL_get t ht
   rw [← e]
   exact List.getElem_mem ht
theorem toL_len (L : List EdT) : (toL L).length = L.length := by simp [toL]
theorem toL_rd {w : World} {g o : Nat} {Ed : List EdT} (h : RdN w (some ⟨g, o, none⟩) (toL Ed)) (lo hi : Nat) : RdN w (some ⟨g, o + lo, none⟩) (toL (subL Ed lo hi)) := fun j hj => by
 have hj' : j < (subL Ed lo hi).length := by rw [toL_len] at hj; exact hj
 obtain ⟨h2, e⟩ := subL_get j hj'
 obtain ⟨g', o', he, q⟩ := h (lo + j) (by rw [toL_len]; exact h2)
 cases he
 refine ⟨g, o + lo, rfl, ?_⟩
 have e1 : (toL Ed)[lo + j]'(by rw [toL_len]; exact h2) = Ed[lo + j].2.2 := by simp [toL]
 have e2 : (toL (subL Ed lo hi))[j] = (subL Ed lo hi)[j].2.2 := by simp [toL]
 rw [show o + lo + j = o + (lo + j) by omega, q, e2, e, e1]
theorem row_cap {W : World} {B n c sz : Nat} {e : TypeId} {b : Option Addr} {xs : List Value} (h : W.ownsRow B e sz (.slice b n c) n xs) : (b = none ∧ n = 0 ∧ c = 0) ∨ ∃ g, b = some ⟨g, 0, none⟩ ∧ n ≤ c ∧ B ≤ g := by
 rcases h.2 with ⟨hv, hn⟩ | ⟨g', cap', cur', hv, hb, _, hc, _⟩
 · cases hv
   exact .inl ⟨rfl, rfl, rfl⟩
 · cases hv
   exact .inr ⟨g', rfl, hc, hb⟩
theorem of_any (w : World) (B m R p s n k : Nat) (aE : Option Addr) (cE g : Nat) (Ed : List EdT) (hn : Ed.length = n) (hA : Hid (RwA B w m R Ed aE n cE g)) (hS : Hid (SsE Ed)) (hF : Hid (∀ e ∈ Ed, 0 ≤ e.2.1 ∧ e.2.1 < (m : Int))) (hs : s < m) (hk : p * m + s = k) (hkR : k < R) (hR : R ≤ 524288) (hl : n ≤ 4194304) :
 Calls Tryz.prog 96 #[.agg #[.int .i64 (m : Int), .slice aE n cE, .slice (some ⟨g, 0, none⟩) (R + 1) (R + 1)], .int .i64 (p : Int), .int .i64 (s : Int)] w fun e w' => ∃ a c, e = .returned (.slice a (fromL Ed p (s : Int)).length c) ∧ Hid (RdN w a (toL (fromL Ed p (s : Int))) ∧ (fromL Ed p (s : Int)).length ≤ c ∧ Below w.heap.size w w') := by
 obtain ⟨W0, hW0⟩ : ∃ W0, w.alloc (.cells #[.int .i64 (m : Int), .slice aE n cE, .slice (some ⟨g, 0, none⟩) (R + 1) (R + 1)] 93) = W0 := ⟨_, rfl⟩
 have HD : Hid (Below w.heap.size w W0) := hide (by rw [← hW0]; exact (Below.refl _ _).alloc (Nat.le_refl _) _)
 have b0 : W0.heap[w.heap.size]? = some (.cells #[.int .i64 (m : Int), .slice aE n cE, .slice (some ⟨g, 0, none⟩) (R + 1) (R + 1)] 93 (0, 0)) := by rw [← hW0]; exact World.alloc_heap_new _ _
 obtain ⟨k0, k1, k2⟩ := zd3 b0 rfl rfl rfl
 have HM := hide (hA.out.fi.below HD.out hA.out.fi.lt)
 have r0 := HM.out.at k (by omega)
 have r1 := HM.out.at (k + 1) (by omega)
 have u0 := lessC_le (kE m Ed) k
 have u1 := lessC_le (kE m Ed) (k + 1)
 have u2 : lessC (kE m Ed) k ≤ lessC (kE m Ed) (k + 1) := by rw [lessC_succ]; omega
 rw [kE_len, hn] at u0 u1
 have HL := hide (subL_len (Es := Ed) (lo := lessC (kE m Ed) k) (hi := lessC (kE m Ed) (k + 1)) (by rw [hn]; exact u1))
 have HC := hide (row_cap hA.out.ow)
 have HO : Hid (RdN w aE (toL Ed)) := hide (own_rdN (c := cE) (by rw [toL_len, hn]; exact hA.out.ow))
 have HR : Hid (∀ g', aE = some ⟨g', 0, none⟩ → RdN w (some ⟨g', lessC (kE m Ed) k, none⟩) (toL (subL Ed (lessC (kE m Ed) k) (lessC (kE m Ed) (k + 1))))) := hide (fun g' e => by
  have q := HO.out
  rw [e] at q
  have q2 := toL_rd q (lessC (kE m Ed) k) (lessC (kE m Ed) (k + 1))
  rw [Nat.zero_add] at q2
  exact q2)
 rw [row_eq hS.out hF.out hs hk] at HL HR
 generalize fromL Ed p (s : Int) = F at HL HR ⊢
 generalize lessC (kE m Ed) k = lo at *
 generalize lessC (kE m Ed) (k + 1) = hi at *
 have epm : (p : Int) * (m : Int) = ((p * m : Nat) : Int) := by simp
 have e1 : IntKind.i64.wrap ((p : Int) * (m : Int)) = (p : Int) * (m : Int) := by rw [epm, IntKind.wrap_i64]; omega
 have e2 : IntKind.i64.wrap ((p : Int) * (m : Int) + (s : Int)) = (k : Int) := by rw [epm, IntKind.wrap_i64]; omega
 have e3 : IntKind.i64.wrap ((k : Int) + 1) = (k : Int) + 1 := by rw [IntKind.wrap_i64]; omega
 have v0 : (0 : Int) ≤ (k : Int) := by omega
 have v1 : (k : Int) < (R : Int) + 1 := by omega
 have v2 : (k : Int) + 1 < (R : Int) + 1 := by omega
 have v3 : (lo : Int) ≤ (hi : Int) := by omega
 have v5 : (k : Int) ≤ 524288 := by omega
 have v6 : (0 : Int) ≤ (lo : Int) := by omega
 clear b0 hA hS hF HO HM epm hk hn
 rcases HC.out with ⟨rfl, rfl, rfl⟩ | ⟨gE, rfl, hc, -⟩
 · obtain rfl : lo = 0 := by omega
   obtain rfl : hi = 0 := by omega
   have hn : F = [] := List.eq_nil_of_length_eq_zero (by have := HL.out; omega)
   subst hn
   clear HR HL HC u0 u1 u2
   go_enter Tryz.func96, Tryz.ntmps96
   go_upto_region 2 with fail
   refine wp_region_phase 13 #[true, true, true, true, true, true, true, true, true, true, true, true, true, false, false] (by kernel_rfl) (by kernel_rfl) ?_
   simp only [List.take_succ_cons, List.take_zero, List.drop_succ_cons, List.drop_zero]
   repeat (go_big_quiet_step (fail))
   refine wpQuiet_nil ?_
   intro wz hzz
   obtain ⟨nq, rfl⟩ := hzz
   go_wp2_with fail
   refine bodyPost_ret (results_tmp rfl _ _ _) rfl ?_
   exact ⟨none, 0, rfl, hide ⟨fun j hj => absurd hj (Nat.not_lt_zero _), Nat.le_refl _, below_drewN2 HD.out nq⟩⟩
 · have v4 : (hi : Int) ≤ (cE : Int) := by omega
   have HR2 := hide (HR.out gE rfl)
   clear HR HC
   go_enter Tryz.func96, Tryz.ntmps96
   go_upto_region 2 with fail
   refine wp_region_phase 13 #[true, true, true, true, true, true, true, true, true, true, true, true, true, false, false] (by kernel_rfl) (by kernel_rfl) ?_
   simp only [List.take_succ_cons, List.take_zero, List.drop_succ_cons, List.drop_zero]
   repeat (go_big_quiet_step (fail))
   refine wpQuiet_nil ?_
   intro wz hzz
   obtain ⟨nq, rfl⟩ := hzz
   go_wp2_with fail
   · rename cE = lo => hkl
     subst hkl
     refine bodyPost_ret (results_tmp rfl _ _ _) rfl ?_
     have hn : F = [] := List.eq_nil_of_length_eq_zero (by have := HL.out; omega)
     refine ⟨some ⟨gE, 0, none⟩, 0, by rw [HL.out]; rfl, hide ⟨by rw [hn]; intro j hj; exact absurd hj (Nat.not_lt_zero _), by rw [hn]; exact Nat.le_refl _, below_drewN2 HD.out nq⟩⟩
   · refine bodyPost_ret (results_tmp rfl _ _ _) rfl ?_
     exact ⟨some ⟨gE, lo, none⟩, cE - lo, by rw [HL.out]; rfl, hide ⟨HR2.out, by rw [HL.out]; omega, below_drewN2 HD.out nq⟩⟩
end Go.Proofs.YtchoopnjckcohaaGreatDoor
namespace Go.Proofs
open Go.Shelf Go.RowKit Go.Lib Go.Sort
def Tryz.lays189_ren : Go.Shelf.Ren := ⟨fun | 189 => 148 | 125 => 162 | 257 => 161 | 128 => 179 | 129 => 180 | 294 => 170 | 295 => 171 | 296 => 172 | 297 => 173 | 298 => 174 | 299 => 175 | 216 => 176 | 300 => 177 | 301 => 178 | 328 => 197 | 329 => 198 | 330 => 199 | 331 => 200 | 332 => 201 | 215 => 158 | 343 => 208 | n => n, fun | 28 => 22 | 3 => 3 | 46 => 160 | 0 => 0 | 51 => 180 | 53 => 143 | 4 => 4 | 183 => 174 | 182 => 173 | 131 => 154 | 5 => 5 | 9 => 9 | 218 => 191 | 222 => 195 | 228 => 201 | 229 => 159 | n => n, fun | n => n⟩
theorem Tryz.lays189 : Go.Proofs.Lays.n189 Tryz.prog Tryz.lays189_ren := {
 mixed := by kernel_rfl
 f125 := Tryz.func162.trans (congrArg some (by kernel_rfl))
 f128 := Tryz.func179.trans (congrArg some (by kernel_rfl))
 f129 := Tryz.func180.trans (congrArg some (by kernel_rfl))
 f189 := Tryz.func148.trans (congrArg some (by kernel_rfl))
 f215 := Tryz.func158.trans (congrArg some (by kernel_rfl))
 f216 := Tryz.func176.trans (congrArg some (by kernel_rfl))
 f257 := Tryz.func161.trans (congrArg some (by kernel_rfl))
 f294 := Tryz.func170.trans (congrArg some (by kernel_rfl))
 f295 := Tryz.func171.trans (congrArg some (by kernel_rfl))
 f296 := Tryz.func172.trans (congrArg some (by kernel_rfl))
 f297 := Tryz.func173.trans (congrArg some (by kernel_rfl))
 f298 := Tryz.func174.trans (congrArg some (by kernel_rfl))
 f299 := Tryz.func175.trans (congrArg some (by kernel_rfl))
 f300 := Tryz.func177.trans (congrArg some (by kernel_rfl))
 f301 := Tryz.func178.trans (congrArg some (by kernel_rfl))
 f328 := Tryz.func197.trans (congrArg some (by kernel_rfl))
 f329 := Tryz.func198.trans (congrArg some (by kernel_rfl))
 f330 := Tryz.func199.trans (congrArg some (by kernel_rfl))
 f331 := Tryz.func200.trans (congrArg some (by kernel_rfl))
 f332 := Tryz.func201.trans (congrArg some (by kernel_rfl))
 f343 := Tryz.func208.trans (congrArg some (by kernel_rfl))
 t0 := Tryz.underlying0
 a0 := Tryz.isAgg0
 z0 := Tryz.sizeOf0
 v0 := Tryz.zeroValue0
 t3 := Tryz.underlying3
 a3 := Tryz.isAgg3
 z3 := Tryz.sizeOf3
 v3 := Tryz.zeroValue3
 t4 := Tryz.underlying4
 a4 := Tryz.isAgg4
 z4 := Tryz.sizeOf4
 v4 := Tryz.zeroValue4
 t5 := Tryz.underlying5
 a5 := Tryz.isAgg5
 z5 := Tryz.sizeOf5
 v5 := Tryz.zeroValue5
 t9 := Tryz.underlying9
 a9 := Tryz.isAgg9
 z9 := Tryz.sizeOf9
 v9 := Tryz.zeroValue9
 t28 := Tryz.underlying22
 a28 := Tryz.isAgg22
 z28 := Tryz.sizeOf22
 v28 := Tryz.zeroValue22
 t46 := Tryz.underlying160
 a46 := Tryz.isAgg160
 z46 := Tryz.sizeOf160
 v46 := Tryz.zeroValue160
 t51 := Tryz.underlying180
 a51 := Tryz.isAgg180
 z51 := Tryz.sizeOf180
 v51 := Tryz.zeroValue180
 t53 := Tryz.underlying143
 a53 := Tryz.isAgg143
 z53 := Tryz.sizeOf143
 v53 := Tryz.zeroValue143
 t131 := Tryz.underlying154
 a131 := Tryz.isAgg154
 z131 := Tryz.sizeOf154
 v131 := Tryz.zeroValue154
 t182 := Tryz.underlying173
 a182 := Tryz.isAgg173
 z182 := Tryz.sizeOf173
 v182 := Tryz.zeroValue173
 t183 := Tryz.underlying174
 a183 := Tryz.isAgg174
 z183 := Tryz.sizeOf174
 v183 := Tryz.zeroValue174
 t218 := Tryz.underlying191
 a218 := Tryz.isAgg191
 z218 := Tryz.sizeOf191
 v218 := Tryz.zeroValue191
 t222 := Tryz.underlying195
 a222 := Tryz.isAgg195
 z222 := Tryz.sizeOf195
 v222 := Tryz.zeroValue195
 t228 := Tryz.underlying201
 a228 := Tryz.isAgg201
 z228 := Tryz.sizeOf201
 v228 := Tryz.zeroValue201
 t229 := Tryz.underlying159
 a229 := Tryz.isAgg159
 z229 := Tryz.sizeOf159
 v229 := Tryz.zeroValue159 }
open Go.Sort Go.RowKit in
theorem Tryz.slices_Sort_int (blk off cap : Nat) (zs : List Int) (w : World) (hH : Holds (Value.int .i64) w blk off zs.toArray) (hblk : blk < w.heap.size) (hsz : zs.length < 4611686018427387904) :
 Calls Tryz.prog 148 #[.slice (some ⟨blk, off, none⟩) zs.length cap] w fun e w' =>
  e = .returned (.tuple #[]) ∧ ∃ n os, w' = grow (putRow (Value.int .i64) (Sort.ahead w n) blk off (zs.mergeSort fun x y => decide (x ≤ y)).toArray) os := Any.slices_Sort_int Tryz.lays189 blk off cap zs w hH hblk hsz
def Tryz.laysNm215_ren : Go.Shelf.Ren := ⟨fun | 15 => 62 | n => n, fun | 22 => 22 | 3 => 3 | 4 => 4 | n => n, fun | n => n⟩
theorem Tryz.laysNm215 : Go.Proofs.Lays2.n15 Tryz.prog Tryz.laysNm215_ren := {
 mixed := by kernel_rfl
 f15 := Tryz.func62.trans (congrArg some (by kernel_rfl))
 t3 := Tryz.underlying3
 a3 := Tryz.isAgg3
 z3 := Tryz.sizeOf3
 v3 := Tryz.zeroValue3
 t4 := Tryz.underlying4
 a4 := Tryz.isAgg4
 z4 := Tryz.sizeOf4
 v4 := Tryz.zeroValue4
 t22 := Tryz.underlying22
 a22 := Tryz.isAgg22
 z22 := Tryz.sizeOf22
 v22 := Tryz.zeroValue22
 i3 := by kernel_rfl }
theorem Tryz.slices_Clone_int (b off n c : Nat) (zs : List Int) (w : World) (hz : n ≤ zs.length) (hbig : n * 8 ≤ 140737488355328) (hc : ∀ j, j < zs.length → w.cell? ⟨b, off + j, none⟩ = some (.int .i64 (zs.getD j 0))) :
 Calls Tryz.prog 62 #[.slice (some ⟨b, off, none⟩) n c] w fun e w' => ∃ v', e = .returned v' ∧ w'.ownsRow w.heap.size 3 1 v' n ((zs.take n).map (Value.int .i64)) ∧ v' ≠ .slice none 0 0 ∧ Below w.heap.size w w' := Any.slices_Clone_int Tryz.laysNm215 b off n c zs w hz hbig hc
theorem Tryz.slices_Clone_int_nil (n c : Nat) (w : World) :
 Calls Tryz.prog 62 #[.slice none n c] w fun e w' => e = .returned (.slice none 0 0) ∧ w' = w := Any.slices_Clone_int_nil Tryz.laysNm215 n c w
theorem Tryz.slices_Clone_int_zero (a : Addr) (c : Nat) (w : World) :
 Calls Tryz.prog 62 #[.slice (some a) 0 c] w fun e w' => ∃ v', e = .returned v' ∧ w'.ownsRow w.heap.size 3 1 v' 0 [] ∧ v' ≠ .slice none 0 0 ∧ Below w.heap.size w w' := Any.slices_Clone_int_zero Tryz.laysNm215 a c w
theorem Tryz.slices_Sort_int_none (p : Option Addr) (cap : Nat) (w : World) :
 Calls Tryz.prog 148 #[.slice p 0 cap] w fun e w' => e = .returned (.tuple #[]) ∧ w' = w := Any.slices_Sort_int_none Tryz.lays189 p cap w
end Go.Proofs
namespace Go.Proofs.YtchoopnjckcohaaGreatDoor
open Go.RowKit Go.Maps Go.Sort Go.Proofs
theorem sort_own (W : World) (B n : Nat) (v : Value) (L : List Int) (hn : n = L.length) (hv : W.ownsRow B 3 1 v n (L.map (Value.int .i64))) (hl : n ≤ 4194304) :
 Calls Tryz.prog 148 #[v] W fun e w' => e = .returned (.tuple #[]) ∧ w'.ownsRow B 3 1 v n ((sortI L).map (Value.int .i64)) ∧ W.grownBy w' v.ownBlock := by
 rcases hv.2 with ⟨ev, e0⟩ | ⟨g, cap, cur, rfl, hB, hb, h1, h2, h3, h4⟩
 · subst ev e0
   obtain rfl : L = [] := List.eq_nil_of_length_eq_zero hn.symm
   refine (Tryz.slices_Sort_int_none none 0 W).mono ?_
   rintro e w' ⟨rfl, rfl⟩
   exact ⟨rfl, by rw [show sortI [] = [] from List.mergeSort_nil]; exact hv, rfl, rfl, rfl, Nat.le_refl _, fun _ _ _ => rfl⟩
 · subst hn
   rw [Nat.mul_one] at h4
   refine (Tryz.slices_Sort_int g 0 cap L W (holds_of_blockI hb h4) (Array.getElem?_eq_some_iff.1 hb).1 (by omega)).mono ?_
   rintro e w' ⟨rfl, k, os, rfl⟩
   exact ⟨rfl, ownsRow_sortedI (ts := sortI L) (ss := L) (sortI_len L) hB hb h1 h2 h3, grownBy_sortedI _⟩
theorem compact_own (W : World) (B n : Nat) (v : Value) (L : List Int) (hn : n = L.length) (hv : W.ownsRow B 3 1 v n (L.map (Value.int .i64))) (hl : n ≤ 4194304) :
 Calls Tryz.prog 149 #[v] W fun e w' => ∃ v', e = .returned v' ∧ w'.ownsRow B 3 1 v' (Lib.compact L).length ((Lib.compact L).map (Value.int .i64)) ∧ W.grownBy w' v.ownBlock ∧ v'.ownBlock = v.ownBlock := by
 rcases hv.2 with ⟨ev, e0⟩ | ⟨g, cap, cur, rfl, _⟩
 · subst ev e0
   obtain rfl : L = [] := List.eq_nil_of_length_eq_zero hn.symm
   refine (Tryz.slices_Compact_int_empty none 0 W).mono ?_
   rintro e w' ⟨rfl, rfl⟩
   have : Lib.compact ([] : List Int) = [] := List.eq_nil_of_length_eq_zero (Nat.le_zero.1 (compact_len _))
   rw [this]
   exact ⟨_, rfl, hv, ⟨rfl, rfl, rfl, Nat.le_refl _, fun _ _ _ => rfl⟩, rfl⟩
 · refine (compactI_any W B g cap n L hn hv hl).mono ?_
   rintro e w' ⟨rfl, a, b⟩
   exact ⟨_, rfl, a, b, rfl⟩
theorem clone_own (w : World) (ao : Option Addr) (n c : Nat) (L : List Int) (hn : L.length = n) (hA : Hid (RdN w ao L)) (hl : n ≤ 4194304) :
 Calls Tryz.prog 62 #[.slice ao n c] w fun e w' => ∃ v', e = .returned v' ∧ Hid (w'.ownsRow w.heap.size 3 1 v' n (L.map (Value.int .i64)) ∧ Below w.heap.size w w') := by
 subst hn
 cases ao with
 | none =>
  obtain rfl : L = [] := by
   cases L with
   | nil => rfl
   | cons x L => obtain ⟨g, o, e, _⟩ := hA.out 0 (by simp); cases e
  refine (Tryz.slices_Clone_int_nil _ c w).mono ?_
  rintro e w' ⟨rfl, rfl⟩
  exact ⟨_, rfl, hide ⟨World.ownsRow_nil _ _ _ _, Below.refl _ _⟩⟩
 | some a =>
  by_cases h0 : L.length = 0
  · obtain rfl := List.eq_nil_of_length_eq_zero h0
    refine (Tryz.slices_Clone_int_zero a c w).mono ?_
    rintro e w' ⟨v, rfl, o, _, d⟩
    exact ⟨v, rfl, hide ⟨o, d⟩⟩
  · obtain ⟨g, o, e, _⟩ := hA.out 0 (by omega)
    cases e
    refine (Tryz.slices_Clone_int g o L.length c L w (Nat.le_refl _) (by omega) (fun j hj => by
     obtain ⟨g', o', e, q⟩ := hA.out j hj
     cases e
     rw [q]
     simp [List.getD, List.getElem?_eq_getElem hj])).mono ?_
    rintro e w' ⟨v, rfl, o, _, d⟩
    rw [List.take_length] at o
    exact ⟨v, rfl, hide ⟨o, d⟩⟩
end Go.Proofs.YtchoopnjckcohaaGreatDoor
namespace Go.Proofs.YtchoopnjckcohaaGreatDoor
open Go.RowKit Go.Maps Go.Shelf
attribute [local go_sem] Oper.semAt_some
def ledL (E : List EdT) (p s : Int) (C : List Int) : List EdT := E ++ C.map fun q => (p, s, q)
theorem ledL_snoc (E : List EdT) (p s : Int) (C : List Int) (i : Nat) (h : i < C.length) : ledL E p s (C.take (i + 1)) = ledL E p s (C.take i) ++ [(p, s, C[i])] := by
 unfold ledL
 rw [List.take_succ_eq_append_getElem h, List.map_append, ← List.append_assoc]
 rfl
theorem ledL_len (E : List EdT) (p s : Int) (C : List Int) : (ledL E p s C).length = E.length + C.length := by simp [ledL]
theorem grown_only {w w' : World} {r : Option Nat} (h : w.grownBy w' r) : Only w w' (fun k => r = some k) := ⟨h.os, h.tape, h.output, h.size, fun k hk hn => h.block k hk (fun e => hn e.symm)⟩
theorem rows_differ {W : World} {B C n m sz sy : Nat} {e t : TypeId} {v u : Value} {xs ys : List Value} (h : W.ownsRow B e sz v n xs) (h2 : W.ownsRow C t sy u m ys) (hne : t ≠ e) {k : Nat} (hk : v.ownBlock = some k) (hk2 : u.ownBlock = some k) : False := by
 rcases h2.2 with ⟨hv, _⟩ | ⟨g', cap', cur', hv, _, hgc, _⟩
 · subst hv
   cases hk2
 · subst hv
   have e2 : g' = k := by simpa [Value.ownBlock] using hk2
   subst e2
   exact row_tag h hgc hne hk
theorem wpList_appG {ops : Array Oper} {rest : List Oper} {o : Oper} {a : Act} {Q : Exit → Act → World → Prop} {w : World} (hgd : o.guard = none) (s x : Operand)
 (ho : o.op = .call { callee := .builtin .append, args := #[s, x], argTypes := #[23, 23] }) (B : Nat) (v : Value) (X : List EdT) (hs : a.eval s = v) (hown : w.ownsRow B 61 3 v X.length (X.flatMap encE)) (p : Nat) (y : EdT) (hx : a.eval x = .slice (some ⟨p, 0, none⟩) 1 1) (hp : w.heap[p]? = some (.cells #[.int .i64 y.1, .int .i64 y.2.1, .int .i64 y.2.2] 61 (0, 0))) (hl : X.length ≤ 16777216) (hB : B ≤ w.heap.size)
 (h : ∀ v' w', Hid (w'.ownsRow B 61 3 v' (X ++ [y]).length ((X ++ [y]).flatMap encE)) → Hid (Only w w' (fun k => v.ownBlock = some k)) → wpList Tryz.prog ops Q rest (a.put o.dst v') w') : wpList Tryz.prog ops Q (o :: rest) a w := by
 obtain ⟨i5, hi5, hz50, hz51, hz52⟩ := info_parts info59
 refine wpList_append_own_at _ hgd s x 23 ho B 61 i5 _ 3 24 Tryz.underlying23 hi5 hz50 hz51 hz52 rfl (by omega) v X.length (X.flatMap encE) hs hown ⟨p, 0, none⟩ 1 1 (encE y) hx rfl (three_cells hp) (by simp [encE, Value.oneCell']) (by unfold maxLen; omega) (by omega) (by omega) ?_
 intro v2 w2 h2 hgr _ _
 exact h v2 w2 (hide (by rw [List.flatMap_append, List.length_append]; simpa using h2)) (hide (grown_only hgr))
structure LedI (w : World) (B : Nat) (E : List EdT) (p s : Int) (C : List Int) (i : Nat) (vc v : Value) (wr : World) : Prop where
 ed : wr.ownsRow B 61 3 v (ledL E p s (C.take i)).length ((ledL E p s (C.take i)).flatMap encE)
 en : wr.ownsRow B 3 1 vc C.length (C.map (Value.int .i64))
 be : Below B w wr
theorem ledI_next {w wr w5 : World} {B i : Nat} {E : List EdT} {p s : Int} {C : List Int} {vc v v5 : Value} {cs : Array Value} (hB : B ≤ w.heap.size) (h : LedI w B E p s C i vc v wr) (hi : i < C.length) (ho : w5.ownsRow B 61 3 v5 (ledL E p s (C.take i) ++ [(p, s, C[i])]).length ((ledL E p s (C.take i) ++ [(p, s, C[i])]).flatMap encE)) (oo : Only (wr.alloc (.cells cs 61)) w5 (fun k => v.ownBlock = some k)) : LedI w B E p s C (i + 1) vc v5 w5 := by
 have d1 : Below wr.heap.size wr (wr.alloc (.cells cs 61)) := (Below.refl _ _).alloc (Nat.le_refl _) _
 have e1 := own_below h.ed d1
 have c1 := own_below h.en d1
 have b1 := h.be.trans (d1.mono (Nat.le_trans hB h.be.size))
 refine ⟨by rw [ledL_snoc _ _ _ _ _ hi]; exact ho, row_only c1 oo (fun k hk hk2 => rows_differ e1 c1 (by decide) hk2 hk), b1.trans (oo.toBelow (Nat.le_trans hB b1.size) (fun k hk => (e1.lt k hk).1))⟩
theorem lead_any (w : World) (B : Nat) (vE vL : Value) (E : List EdT) (p s : Int) (n : Nat) (L : List Int) (hn : n = L.length) (hE : Hid (w.ownsRow B 61 3 vE E.length (E.flatMap encE))) (hL : Hid (w.ownsRow B 3 1 vL n (L.map (Value.int .i64)))) (hB : B ≤ w.heap.size) (hl : n ≤ 4194304) (hl2 : E.length ≤ 4194304) :
 Calls Tryz.prog 123 #[vE, .int .i64 p, .int .i64 s, vL] w fun e w' => ∃ v', e = .returned v' ∧ Hid (w'.ownsRow B 61 3 v' (ledL E p s (riseL L)).length ((ledL E p s (riseL L)).flatMap encE) ∧ Below B w w') := by
 have TS := sort_own w B n vL L hn hL.out hl
 obtain ⟨C, hC⟩ : ∃ C, riseL L = C := ⟨_, rfl⟩
 have hCl : C.length ≤ 4194304 := by rw [← hC]; have := riseL_len L; omega
 rw [hC]
 have HC := hide hC
 clear hC
 go_enter Tryz.func123, Tryz.ntmps123
 go_wp2_with (go_at_call 148; refine TS.mono ?_; rintro e w1 ⟨rfl, o1, g1⟩)
 have HO := hide (And.intro o1 g1)
 clear TS o1 g1
 have TC := compact_own w1 B n vL (sortI L) (by rw [sortI_len]; exact hn) HO.out.1 hl
 rw [show Lib.compact (sortI L) = riseL L from rfl, HC.out] at TC
 go_wp2_with (go_at_call 149; refine TC.mono ?_; rintro e w2 ⟨v2, rfl, o2, g2, b2⟩; obtain ⟨ac, cc, rfl⟩ := own_slice o2)
 have H0 : Hid (LedI w B E p s C 0 (.slice ac C.length cc) vE w2) := hide (by
  have e1 := row_only hE.out (grown_only HO.out.2) (fun k hk hk2 => rows_differ hE.out hL.out (by decide) hk hk2)
  have e2 := row_only e1 (grown_only g2) (fun k hk hk2 => rows_differ e1 HO.out.1 (by decide) hk hk2)
  have d1 := (grown_only HO.out.2).toBelow hB (fun k hk => (hL.out.lt k hk).1)
  have d2 := (grown_only g2).toBelow (Nat.le_trans hB d1.size) (fun k hk => (HO.out.1.lt k hk).1)
  have z : ledL E p s (C.take 0) = E := by simp [ledL]
  exact ⟨by rw [z]; exact e2, o2, d1.trans d2⟩)
 clear TC HO o2 g2 b2 hL hE hn HC
 go_loopw [0, 16] (fun ev iv wr => ∃ i : Nat, i ≤ C.length ∧ iv = .int .i64 (i : Int) ∧ Hid (LedI w B E p s C i (.slice ac C.length cc) ev wr)) (fun _ iv _ => C.length - (intOf iv).toNat)
 case atStart => exact ⟨0, Nat.zero_le _, rfl, H0⟩
 case round =>
  obtain ⟨i, hi, rfl, HY⟩ := hrel
  clear H0
  by_cases hil : i < C.length
  · have i0 : (0 : Int) ≤ (i : Int) := by omega
    have i1 : (i : Int) < (C.length : Int) := by omega
    obtain ⟨g, o, rfl, q⟩ := own_rdN HY.out.en i hil
    have hbw : B ≤ wr.heap.size := Nat.le_trans hB HY.out.be.size
    have hll : (ledL E p s (C.take i)).length ≤ 16777216 := by rw [ledL_len, List.length_take]; omega
    obtain ⟨x, hx⟩ : ∃ x, C[i] = x := ⟨_, rfl⟩
    rw [hx] at q
    have HX := hide hx
    clear hx
    go_wp2_with (at_builtin; refine wpList_appG rfl _ _ rfl B u0 (ledL E p s (C.take i)) rfl (own_below HY.out.ed ((Below.refl _ _).alloc (Nat.le_refl _) _)) wr.heap.size (p, s, x) rfl (World.alloc_heap_new _ _) hll (by rw [World.size_alloc]; omega) ?_; intro v5 w5 HO5 HG5)
    refine ⟨⟨i + 1, by omega, by go_num, hide (ledI_next hB HY.out hil (by rw [HX.out]; exact HO5.out) HG5.out)⟩, by simp [intOf]; omega⟩
  · obtain rfl : i = C.length := by omega
    have i1 : ¬ (C.length : Int) < (C.length : Int) := by omega
    go_wp2_with fail
    refine bodyPost_ret (results_tmp rfl _ _ _) rfl ?_
    have z := HY.out.ed
    rw [List.take_length] at z
    exact ⟨_, rfl, hide ⟨z, HY.out.be⟩⟩
theorem ahead_any (x y : EdT) (w : World) : Calls Tryz.prog 133 #[.agg #[.int .i64 x.1, .int .i64 x.2.1, .int .i64 x.2.2], .agg #[.int .i64 y.1, .int .i64 y.2.1, .int .i64 y.2.2]] w fun e w' => e = .returned (.bool (ltE x y)) ∧ Below w.heap.size w w' := by
 obtain ⟨x0, x1, x2⟩ := x
 obtain ⟨y0, y1, y2⟩ := y
 simp only
 obtain ⟨W0, hW0⟩ : ∃ W0, (w.alloc (.cells #[.int .i64 x0, .int .i64 x1, .int .i64 x2] 61)).alloc (.cells #[.int .i64 y0, .int .i64 y1, .int .i64 y2] 61) = W0 := ⟨_, rfl⟩
 have HD := hide (box2 w #[.int .i64 x0, .int .i64 x1, .int .i64 x2] #[.int .i64 y0, .int .i64 y1, .int .i64 y2] 61)
 rw [hW0] at HD
 obtain ⟨c0, c1, c2⟩ := zd3 HD.out.2.1 rfl rfl rfl
 obtain ⟨d0, d1, d2⟩ := zd3 HD.out.2.2.1 rfl rfl rfl
 go_enter Tryz.func133, Tryz.ntmps133
 by_cases h0 : x0 = y0
 · have e0 : (x0 != y0) = false := by simpa using h0
   by_cases h1 : x1 = y1
   · have e1 : (x1 != y1) = false := by simpa using h1
     have HE : Hid (ltE (x0, x1, x2) (y0, y1, y2) = decide (x2 < y2)) := hide (by unfold ltE; rw [decide_eq_decide]; simp [h0, h1])
     clear h0 h1
     go_wp2
     refine bodyPost_ret (results_tmp rfl _ _ _) rfl ?_
     exact ⟨by rw [HE.out]; rfl, HD.out.1⟩
   · have e1 : (x1 != y1) = true := by simpa using h1
     have HE : Hid (ltE (x0, x1, x2) (y0, y1, y2) = decide (x1 < y1)) := hide (by unfold ltE; rw [decide_eq_decide]; simp [h0, h1])
     clear h0 h1
     go_wp2
     refine bodyPost_ret (results_tmp rfl _ _ _) rfl ?_
     exact ⟨by rw [HE.out]; rfl, HD.out.1⟩
 · have e0 : (x0 != y0) = true := by simpa using h0
   have HE : Hid (ltE (x0, x1, x2) (y0, y1, y2) = decide (x0 < y0)) := hide (by unfold ltE; rw [decide_eq_decide]; simp [h0])
   clear h0
   go_wp2
   refine bodyPost_ret (results_tmp rfl _ _ _) rfl ?_
   exact ⟨by rw [HE.out]; rfl, HD.out.1⟩
theorem ite3 {α : Type} {p q r : Prop} [Decidable p] [Decidable q] [Decidable r] (h : ¬ (p ∧ q ∧ r)) (a b : α) : (if p then if q then if r then a else b else b else b) = b := by
 by_cases h1 : p
 · by_cases h2 : q
   · by_cases h3 : r
     · exact absurd ⟨h1, h2, h3⟩ h
     · rw [if_pos h1, if_pos h2, if_neg h3]
   · rw [if_pos h1, if_neg h2]
 · rw [if_neg h1]
def mrgE : List EdT → List EdT → List EdT
 | [], B => B
 | A, [] => A
 | x :: A, y :: B => if ltE x y then x :: mrgE A (y :: B) else if x = y then y :: mrgE A B else y :: mrgE (x :: A) B
termination_by A B => A.length + B.length
theorem mrg_nil (A : List EdT) : mrgE A [] = A := by cases A <;> simp [mrgE]
theorem mrg_a {A B : List EdT} {i k : Nat} (hi : i < A.length) (hk : k < B.length) (h : ltE A[i] B[k] = true) : mrgE (A.drop i) (B.drop k) = A[i] :: mrgE (A.drop (i + 1)) (B.drop k) := by
 rw [List.drop_eq_getElem_cons hi, List.drop_eq_getElem_cons hk, mrgE, if_pos h]
theorem mrg_e {A B : List EdT} {i k : Nat} (hi : i < A.length) (hk : k < B.length) (h : ltE A[i] B[k] = false) (he : A[i] = B[k]) : mrgE (A.drop i) (B.drop k) = B[k] :: mrgE (A.drop (i + 1)) (B.drop (k + 1)) := by
 rw [List.drop_eq_getElem_cons hi, List.drop_eq_getElem_cons hk, mrgE, if_neg (by rw [h]; simp), if_pos he]
theorem mrg_b {A B : List EdT} {i k : Nat} (hi : i < A.length) (hk : k < B.length) (h : ltE A[i] B[k] = false) (he : ¬ A[i] = B[k]) : mrgE (A.drop i) (B.drop k) = B[k] :: mrgE (A.drop i) (B.drop (k + 1)) := by
 rw [List.drop_eq_getElem_cons hi, List.drop_eq_getElem_cons hk, mrgE, if_neg (by rw [h]; simp), if_neg he]
theorem mrg_ea {A B : List EdT} {i k : Nat} (hi : i < A.length) (hk : ¬ k < B.length) : mrgE (A.drop i) (B.drop k) = A[i] :: mrgE (A.drop (i + 1)) (B.drop k) := by
 rw [List.drop_eq_nil_of_le (show B.length ≤ k by omega), mrg_nil, mrg_nil, List.drop_eq_getElem_cons hi]
theorem mrg_eb {A B : List EdT} {i k : Nat} (hi : ¬ i < A.length) (hk : k < B.length) : mrgE (A.drop i) (B.drop k) = B[k] :: mrgE (A.drop i) (B.drop (k + 1)) := by
 rw [List.drop_eq_nil_of_le (show A.length ≤ i by omega), List.drop_eq_getElem_cons hk]
 simp [mrgE]
theorem mrg_len : ∀ (A B : List EdT), (mrgE A B).length ≤ A.length + B.length
 | [], B => by simp [mrgE]
 | x :: A, [] => by simp [mrgE]
 | x :: A, y :: B => by
  rw [mrgE]
  split
  · have := mrg_len A (y :: B); simp only [List.length_cons] at this ⊢; omega
  · split
    · have := mrg_len A B; simp only [List.length_cons]; omega
    · have := mrg_len (x :: A) B; simp only [List.length_cons] at this ⊢; omega
termination_by A B => A.length + B.length
theorem merge_any (w : World) (aa ab : Option Addr) (A B : List EdT) (ca cb : Nat) (hA : Hid (RdE w aa A)) (hB : Hid (RdE w ab B)) (hla : A.length ≤ 4194304) (hlb : B.length ≤ 4194304) :
 Calls Tryz.prog 98 #[.slice aa A.length ca, .slice ab B.length cb] w fun e w' => ∃ b c, e = .returned (.slice b (mrgE A B).length c) ∧ Hid (w'.ownsRow w.heap.size 61 3 (.slice b (mrgE A B).length c) (mrgE A B).length ((mrgE A B).flatMap encE)) ∧ Below w.heap.size w w' := by
 go_enter Tryz.func98, Tryz.ntmps98
 go_wp2
 go_loopw [5, 6, 7] (fun ov iv kv wr => ∃ i k X, i ≤ A.length ∧ k ≤ B.length ∧ iv = .int .i64 (i : Nat) ∧ kv = .int .i64 (k : Nat) ∧ Hid (wr.ownsRow w.heap.size 61 3 ov X.length (X.flatMap encE) ∧ mrgE A B = X ++ mrgE (A.drop i) (B.drop k) ∧ Below w.heap.size w wr)) (fun _ iv kv _ => A.length + B.length - (intOf iv).toNat - (intOf kv).toNat)
 case atStart => exact ⟨0, 0, [], Nat.zero_le _, Nat.zero_le _, rfl, rfl, hide ⟨World.ownsRow_nil _ _ _ _, by simp, Below.refl _ _⟩⟩
 case round =>
  obtain ⟨i, k, X, hi, hk, rfl, rfl, HY⟩ := hrel
  have HYO := hide HY.out.1
  have HYE := hide HY.out.2.1
  have HYB := hide HY.out.2.2
  clear HY
  have HXL : Hid (X.length ≤ 8388608) := hide (by
   have h1 := mrg_len A B
   have h2 := congrArg List.length HYE.out
   rw [List.length_append] at h2
   omega)
  have iw : IntKind.i64.wrap ((i : Int) + 1) = (i : Int) + 1 := by rw [IntKind.wrap_i64]; omega
  have kw : IntKind.i64.wrap ((k : Int) + 1) = (k : Int) + 1 := by rw [IntKind.wrap_i64]; omega
  have i1 : (0 : Int) ≤ (i : Int) := by omega
  have k1 : (0 : Int) ≤ (k : Int) := by omega
  by_cases hia : i < A.length
  · have i0 : (i : Int) < (A.length : Int) := by omega
    obtain ⟨ga, oa, haa, p1, p2, p3⟩ := hA.out i hia
    subst haa
    have RA : Hid (∀ W, Below w.heap.size w W → W.cell? ⟨ga, oa + i * 3, none⟩ = some (.int .i64 A[i].1) ∧ W.cell? ⟨ga, oa + i * 3 + 1, none⟩ = some (.int .i64 A[i].2.1) ∧ W.cell? ⟨ga, oa + i * 3 + 2, none⟩ = some (.int .i64 A[i].2.2)) := hide (fun W d => ⟨(d.cell (p := ⟨ga, oa + i * 3, none⟩) (World.block_lt_of_cell? w _ p1)).trans p1, (d.cell (p := ⟨ga, oa + i * 3 + 1, none⟩) (World.block_lt_of_cell? w _ p2)).trans p2, (d.cell (p := ⟨ga, oa + i * 3 + 2, none⟩) (World.block_lt_of_cell? w _ p3)).trans p3⟩)
    clear p1 p2 p3
    by_cases hkb : k < B.length
    · have k0 : (k : Int) < (B.length : Int) := by omega
      have kne : ((k : Int) == (B.length : Int)) = false := by simp; omega
      obtain ⟨gb, ob, hbb, p1, p2, p3⟩ := hB.out k hkb
      subst hbb
      have RB : Hid (∀ W, Below w.heap.size w W → W.cell? ⟨gb, ob + k * 3, none⟩ = some (.int .i64 B[k].1) ∧ W.cell? ⟨gb, ob + k * 3 + 1, none⟩ = some (.int .i64 B[k].2.1) ∧ W.cell? ⟨gb, ob + k * 3 + 2, none⟩ = some (.int .i64 B[k].2.2)) := hide (fun W d => ⟨(d.cell (p := ⟨gb, ob + k * 3, none⟩) (World.block_lt_of_cell? w _ p1)).trans p1, (d.cell (p := ⟨gb, ob + k * 3 + 1, none⟩) (World.block_lt_of_cell? w _ p2)).trans p2, (d.cell (p := ⟨gb, ob + k * 3 + 2, none⟩) (World.block_lt_of_cell? w _ p3)).trans p3⟩)
      clear p1 p2 p3
      have NA : Hid (ltE A[i] B[k] = true → mrgE A B = X ++ [A[i]] ++ mrgE (A.drop (i + 1)) (B.drop k)) := hide (fun h => by rw [HYE.out, mrg_a hia hkb h]; simp)
      have NE : Hid (ltE A[i] B[k] = false → A[i] = B[k] → mrgE A B = X ++ [B[k]] ++ mrgE (A.drop (i + 1)) (B.drop (k + 1))) := hide (fun h he => by rw [HYE.out, mrg_e hia hkb h he]; simp)
      have NB : Hid (ltE A[i] B[k] = false → ¬ A[i] = B[k] → mrgE A B = X ++ [B[k]] ++ mrgE (A.drop i) (B.drop (k + 1))) := hide (fun h he => by rw [HYE.out, mrg_b hia hkb h he]; simp)
      generalize A[i] = x at RA NA NE NB
      generalize B[k] = y at RB NA NE NB
      go_upto_region 5 with fail
      go_cut [38] from 18 to 38 (fun v W => v = .bool (ltE x y) ∧ Hid (W.ownsRow w.heap.size 61 3 u5 X.length (X.flatMap encE)) ∧ Hid (Below w.heap.size w W))
      case first =>
       have hmo : MonIL 0 [vI 0 (.int .i64 k), vI 1 (.slice (some ⟨gb, ob, none⟩) B.length cb), vI 2 (.int .i64 (B.length : Int)), vI 3 (.bool false), vI 4 (.bool false), vI 5 (.int .i64 i), vI 6 (.slice (some ⟨ga, oa, none⟩) A.length ca), vI 7 (.int .i64 (A.length : Int)), vI 8 (.bool true), vI 9 (.bool true), vI 10 (.slice (some ⟨ga, oa, none⟩) A.length ca), vI 11 (.int .i64 i), vI 12 (.pointer (some ⟨ga, oa + i * 3, none⟩)), vI 13 (.agg #[.int .i64 x.1, .int .i64 x.2.1, .int .i64 x.2.2]), vI 14 (.slice (some ⟨gb, ob, none⟩) B.length cb), vI 15 (.int .i64 k), vI 16 (.pointer (some ⟨gb, ob + k * 3, none⟩)), vI 17 (.agg #[.int .i64 y.1, .int .i64 y.2.1, .int .i64 y.2.2]), vI 18 (.bool (ltE x y)), vI 19 (.bool (ltE x y)), vI 20 (.bool (ltE x y))] := ⟨vI_mono _ _, vI_mono _ _, vI_mono _ _, vI_mono _ _, vI_mono _ _, vI_mono _ _, vI_mono _ _, vI_mono _ _, vI_mono _ _, vI_mono _ _, vI_mono _ _, vI_mono _ _, vI_mono _ _, vI_mono _ _, vI_mono _ _, vI_mono _ _, vI_mono _ _, vI_mono _ _, vI_mono _ _, vI_mono _ _, vI_mono _ _, trivial⟩
       refine wp_region_sl _ (by kernel_rfl) (by kernel_rfl) (by kernel_rfl) (by kernel_rfl) hmo ⟨?o0, ?o1, ?o2, ?o3, ?o4, ?o5, ?o6, ?o7, ?o8, ?o9, ?o10, ?o11, ?o12, ?o13, ?o14, ?o15, ?o16, ?o17, ?o18, ?o19, ?o20, trivial⟩ ?fin
       case o0 =>
        intro At yy W hy hb d hd K hK
        obtain ⟨s7, s7'⟩ := zsb (hb 7 rfl : _ = .int .i64 k)
        clear hd hy hb
        go_simp
        exact zkq hK hmo d (if_pos rfl)
       case o1 =>
        intro At yy W hy hb d hd K hK
        obtain ⟨s1, s1'⟩ := zsb (hb 1 rfl : _ = .slice (some ⟨gb, ob, none⟩) B.length cb)
        clear hd hy hb
        go_simp
        exact zkq hK hmo d (if_pos rfl)
       case o2 =>
        intro At yy W hy hb d hd K hK
        obtain ⟨s19, s19'⟩ := zsg 1 19 .data hy hd rfl
        clear hd hy hb
        go_simp
        exact zkq hK hmo d (if_pos rfl)
       case o3 =>
        intro At yy W hy hb d hd K hK
        obtain ⟨s18, s18'⟩ := zsg 0 18 .data hy hd rfl
        obtain ⟨s20, s20'⟩ := zsg 2 20 .data hy hd rfl
        clear hd hy hb
        go_simp
        exact zkq hK hmo d (if_pos rfl)
       case o4 =>
        intro At yy W hy hb d hd K hK
        obtain ⟨s21, s21'⟩ := zsg 3 21 .data hy hd rfl
        clear hd hy hb
        go_simp
        exact zkq hK hmo d (if_pos rfl)
       case o5 =>
        intro At yy W hy hb d hd K hK
        obtain ⟨s6, s6'⟩ := zsb (hb 6 rfl : _ = .int .i64 i)
        have g22 := zgd 4 22 hy hd rfl
        clear hd hy hb
        go_simp
        exact zkq hK hmo d (if_pos rfl)
       case o6 =>
        intro At yy W hy hb d hd K hK
        obtain ⟨s0, s0'⟩ := zsb (hb 0 rfl : _ = .slice (some ⟨ga, oa, none⟩) A.length ca)
        have g22 := zgd 4 22 hy hd rfl
        clear hd hy hb
        go_simp
        exact zkq hK hmo d (if_pos rfl)
       case o7 =>
        intro At yy W hy hb d hd K hK
        obtain ⟨s24, s24'⟩ := zsg 6 24 .data hy hd rfl
        have g22 := zgd 4 22 hy hd rfl
        clear hd hy hb
        go_simp
        exact zkq hK hmo d (if_pos rfl)
       case o8 =>
        intro At yy W hy hb d hd K hK
        obtain ⟨s23, s23'⟩ := zsg 5 23 .data hy hd rfl
        obtain ⟨s25, s25'⟩ := zsg 7 25 .data hy hd rfl
        have g22 := zgd 4 22 hy hd rfl
        clear hd hy hb
        go_simp
        exact zkq hK hmo d (if_pos rfl)
       case o9 =>
        intro At yy W hy hb d hd K hK
        obtain ⟨s26, s26'⟩ := zsg 8 26 .data hy hd rfl
        have g22 := zgd 4 22 hy hd rfl
        clear hd hy hb
        go_simp
        exact zkq hK hmo d (if_pos rfl)
       case o10 =>
        intro At yy W hy hb d hd K hK
        obtain ⟨s0, s0'⟩ := zsb (hb 0 rfl : _ = .slice (some ⟨ga, oa, none⟩) A.length ca)
        have g27 := zgd 9 27 hy hd rfl
        clear hd hy hb
        go_simp
        exact zkq hK hmo d (if_pos rfl)
       case o11 =>
        intro At yy W hy hb d hd K hK
        obtain ⟨s6, s6'⟩ := zsb (hb 6 rfl : _ = .int .i64 i)
        have g27 := zgd 9 27 hy hd rfl
        clear hd hy hb
        go_simp
        exact zkq hK hmo d (if_pos rfl)
       case o12 =>
        intro At yy W hy hb d hd K hK
        obtain ⟨s28, s28'⟩ := zsg 10 28 .data hy hd rfl
        obtain ⟨s29, s29'⟩ := zsg 11 29 .data hy hd rfl
        have g27 := zgd 9 27 hy hd rfl
        clear hd hy hb
        go_simp
        exact zkq hK hmo d (if_pos rfl)
       case o13 =>
        intro At yy W hy hb d hd K hK
        obtain ⟨s30, s30'⟩ := zsg 12 30 .data hy hd rfl
        have g27 := zgd 9 27 hy hd rfl
        clear hd hy hb
        obtain ⟨q1, q2, q3⟩ := RA.out W (HYB.out.trans (d.mono HYB.out.size))
        go_simp
        exact zkq hK hmo d (if_pos rfl)
       case o14 =>
        intro At yy W hy hb d hd K hK
        obtain ⟨s1, s1'⟩ := zsb (hb 1 rfl : _ = .slice (some ⟨gb, ob, none⟩) B.length cb)
        have g27 := zgd 9 27 hy hd rfl
        clear hd hy hb
        go_simp
        exact zkq hK hmo d (if_pos rfl)
       case o15 =>
        intro At yy W hy hb d hd K hK
        obtain ⟨s7, s7'⟩ := zsb (hb 7 rfl : _ = .int .i64 k)
        have g27 := zgd 9 27 hy hd rfl
        clear hd hy hb
        go_simp
        exact zkq hK hmo d (if_pos rfl)
       case o16 =>
        intro At yy W hy hb d hd K hK
        obtain ⟨s32, s32'⟩ := zsg 14 32 .data hy hd rfl
        obtain ⟨s33, s33'⟩ := zsg 15 33 .data hy hd rfl
        have g27 := zgd 9 27 hy hd rfl
        clear hd hy hb
        go_simp
        exact zkq hK hmo d (if_pos rfl)
       case o17 =>
        intro At yy W hy hb d hd K hK
        obtain ⟨s34, s34'⟩ := zsg 16 34 .data hy hd rfl
        have g27 := zgd 9 27 hy hd rfl
        clear hd hy hb
        obtain ⟨q1, q2, q3⟩ := RB.out W (HYB.out.trans (d.mono HYB.out.size))
        go_simp
        exact zkq hK hmo d (if_pos rfl)
       case o18 =>
        intro At yy W hy hb d hd K hK
        obtain ⟨s31, s31'⟩ := zsg 13 31 .data hy hd rfl
        obtain ⟨s35, s35'⟩ := zsg 17 35 .data hy hd rfl
        have g27 := zgd 9 27 hy hd rfl
        clear hd hy hb
        go_simp
        go_wp2_with (go_at_call 133; refine (ahead_any x y _).mono ?_; rintro e wa ⟨rfl, da⟩)
        exact hK.out _ wa (stp_of hmo d da) (if_pos rfl)
       case o19 =>
        intro At yy W hy hb d hd K hK
        obtain ⟨s27, s27'⟩ := zsg 9 27 .data hy hd rfl
        obtain ⟨s36, s36'⟩ := zsg 18 36 .data hy hd rfl
        have g22 := zgd 4 22 hy hd rfl
        clear hd hy hb
        go_simp
        exact zkq hK hmo d (if_pos rfl)
       case o20 =>
        intro At yy W hy hb d hd K hK
        obtain ⟨s22, s22'⟩ := zsg 4 22 .data hy hd rfl
        obtain ⟨s37, s37'⟩ := zsg 19 37 .data hy hd rfl
        clear hd hy hb
        go_simp
        exact zkq hK hmo d (if_pos rfl)
       case fin =>
        intro yy lo hi W hM
        show wpList _ _ _ [] _ _
        have e0 := hM.v 0 (by simp) rfl rfl rfl
        have e1 := hM.v 1 (by simp) rfl rfl rfl
        have e2 := hM.v 2 (by simp) rfl rfl rfl
        have e3 := hM.v 3 (by simp) rfl rfl rfl
        have e4 := hM.v 4 (by simp) rfl rfl rfl
        have e5 := hM.v 5 (by simp) rfl rfl rfl
        have e6 := hM.v 6 (by simp) rfl rfl rfl
        have e7 := hM.v 7 (by simp) rfl rfl rfl
        have e8 := hM.v 8 (by simp) rfl rfl rfl
        have e9 := hM.v 9 (by simp) rfl rfl rfl
        have e10 := hM.v 10 (by simp) rfl rfl rfl
        have e11 := hM.v 11 (by simp) rfl rfl rfl
        have e12 := hM.v 12 (by simp) rfl rfl rfl
        have e13 := hM.v 13 (by simp) rfl rfl rfl
        have e14 := hM.v 14 (by simp) rfl rfl rfl
        have e15 := hM.v 15 (by simp) rfl rfl rfl
        have e16 := hM.v 16 (by simp) rfl rfl rfl
        have e17 := hM.v 17 (by simp) rfl rfl rfl
        have e18 := hM.v 18 (by simp) rfl rfl rfl
        have e19 := hM.v 19 (by simp) rfl rfl rfl
        have e20 := hM.v 20 (by simp) rfl rfl rfl
        have DW := hide (HYB.out.trans (hM.d.mono HYB.out.size))
        have OW := hide (own_below HYO.out hM.d)
        simp only [fills, Act.put, List.take, List.length, List.setIfInBounds_toArray, List.set_cons_zero, List.set_cons_succ, e0, e1, e2, e3, e4, e5, e6, e7, e8, e9, e10, e11, e12, e13, e14, e15, e16, e17, e18, e19, e20]
        clear hM hmo e0 e1 e2 e3 e4 e5 e6 e7 e8 e9 e10 e11 e12 e13 e14 e15 e16 e17 e18 e19 e20
        go_wp2_with fail
        go_meet
        exact ⟨rfl, OW, DW⟩
      case rest =>
       obtain ⟨rfl, HYO, HYB⟩ := hcut
       rename World => wk
       cases hlt : ltE x y with
       | true =>
        have HNA := hide (NA.out hlt)
        obtain ⟨q1, q2, q3⟩ := RA.out wk HYB.out
        go_wp2_with (at_builtin; refine wpList_appE rfl _ _ rfl w.heap.size u5 X rfl (own_below HYO.out ((Below.refl _ _).alloc (Nat.le_refl _) _)) wk.heap.size x rfl (World.alloc_heap_new _ _) (by have := HXL.out; omega) w (HYB.out.alloc HYB.out.size _) (Nat.le_refl _) ?_; intro v2 w2 HO2 HD2)
        go_roundw
        case rel => exact ⟨i + 1, k, X ++ [x], by omega, by omega, by go_num, rfl, hide ⟨HO2.out, HNA.out, HD2.out⟩⟩
        case measure => simp [intOf]; omega
       | false =>
        go_upto_region 8 with fail
        by_cases hxy : x = y
        · have HN := hide (NE.out hlt hxy)
          subst hxy
          clear hlt
          go_cut [62] from 48 to 62 (fun v W => v = .bool true ∧ Hid (W.ownsRow w.heap.size 61 3 u5 X.length (X.flatMap encE)) ∧ Hid (Below w.heap.size w W))
          case first =>
           have hmo : MonIL 0 [vI 0 (.int .i64 i), vI 1 (.slice (some ⟨ga, oa, none⟩) A.length ca), vI 2 (.int .i64 (A.length : Int)), vI 3 (.bool true), vI 4 (.bool true), vI 5 (.slice (some ⟨ga, oa, none⟩) A.length ca), vI 6 (.int .i64 i), vI 7 (.pointer (some ⟨ga, oa + i * 3, none⟩)), vI 8 (.agg #[.int .i64 x.1, .int .i64 x.2.1, .int .i64 x.2.2]), vI 9 (.slice (some ⟨gb, ob, none⟩) B.length cb), vI 10 (.int .i64 k), vI 11 (.pointer (some ⟨gb, ob + k * 3, none⟩)), vI 12 (.agg #[.int .i64 x.1, .int .i64 x.2.1, .int .i64 x.2.2]), vI 13 (.bool true), vI 14 (.bool true)] := ⟨vI_mono _ _, vI_mono _ _, vI_mono _ _, vI_mono _ _, vI_mono _ _, vI_mono _ _, vI_mono _ _, vI_mono _ _, vI_mono _ _, vI_mono _ _, vI_mono _ _, vI_mono _ _, vI_mono _ _, vI_mono _ _, vI_mono _ _, trivial⟩
           refine wp_region_sl _ (by kernel_rfl) (by kernel_rfl) (by kernel_rfl) (by kernel_rfl) hmo ⟨?o0, ?o1, ?o2, ?o3, ?o4, ?o5, ?o6, ?o7, ?o8, ?o9, ?o10, ?o11, ?o12, ?o13, ?o14, trivial⟩ ?fin
           case o0 =>
            intro At yy W hy hb d hd K hK
            obtain ⟨s6, s6'⟩ := zsb (hb 6 rfl : _ = .int .i64 i)
            clear hd hy hb
            go_simp
            exact zkq hK hmo d (if_pos rfl)
           case o1 =>
            intro At yy W hy hb d hd K hK
            obtain ⟨s0, s0'⟩ := zsb (hb 0 rfl : _ = .slice (some ⟨ga, oa, none⟩) A.length ca)
            clear hd hy hb
            go_simp
            exact zkq hK hmo d (if_pos rfl)
           case o2 =>
            intro At yy W hy hb d hd K hK
            obtain ⟨s49, s49'⟩ := zsg 1 49 .data hy hd rfl
            clear hd hy hb
            go_simp
            exact zkq hK hmo d (if_pos rfl)
           case o3 =>
            intro At yy W hy hb d hd K hK
            obtain ⟨s48, s48'⟩ := zsg 0 48 .data hy hd rfl
            obtain ⟨s50, s50'⟩ := zsg 2 50 .data hy hd rfl
            clear hd hy hb
            go_simp
            exact zkq hK hmo d (if_pos rfl)
           case o4 =>
            intro At yy W hy hb d hd K hK
            obtain ⟨s51, s51'⟩ := zsg 3 51 .data hy hd rfl
            clear hd hy hb
            go_simp
            exact zkq hK hmo d (if_pos rfl)
           case o5 =>
            intro At yy W hy hb d hd K hK
            obtain ⟨s0, s0'⟩ := zsb (hb 0 rfl : _ = .slice (some ⟨ga, oa, none⟩) A.length ca)
            have g52 := zgd 4 52 hy hd rfl
            clear hd hy hb
            go_simp
            exact zkq hK hmo d (if_pos rfl)
           case o6 =>
            intro At yy W hy hb d hd K hK
            obtain ⟨s6, s6'⟩ := zsb (hb 6 rfl : _ = .int .i64 i)
            have g52 := zgd 4 52 hy hd rfl
            clear hd hy hb
            go_simp
            exact zkq hK hmo d (if_pos rfl)
           case o7 =>
            intro At yy W hy hb d hd K hK
            obtain ⟨s53, s53'⟩ := zsg 5 53 .data hy hd rfl
            obtain ⟨s54, s54'⟩ := zsg 6 54 .data hy hd rfl
            have g52 := zgd 4 52 hy hd rfl
            clear hd hy hb
            go_simp
            exact zkq hK hmo d (if_pos rfl)
           case o8 =>
            intro At yy W hy hb d hd K hK
            obtain ⟨s55, s55'⟩ := zsg 7 55 .data hy hd rfl
            have g52 := zgd 4 52 hy hd rfl
            clear hd hy hb
            obtain ⟨q1, q2, q3⟩ := RA.out W (HYB.out.trans (d.mono HYB.out.size))
            go_simp
            exact zkq hK hmo d (if_pos rfl)
           case o9 =>
            intro At yy W hy hb d hd K hK
            obtain ⟨s1, s1'⟩ := zsb (hb 1 rfl : _ = .slice (some ⟨gb, ob, none⟩) B.length cb)
            have g52 := zgd 4 52 hy hd rfl
            clear hd hy hb
            go_simp
            exact zkq hK hmo d (if_pos rfl)
           case o10 =>
            intro At yy W hy hb d hd K hK
            obtain ⟨s7, s7'⟩ := zsb (hb 7 rfl : _ = .int .i64 k)
            have g52 := zgd 4 52 hy hd rfl
            clear hd hy hb
            go_simp
            exact zkq hK hmo d (if_pos rfl)
           case o11 =>
            intro At yy W hy hb d hd K hK
            obtain ⟨s57, s57'⟩ := zsg 9 57 .data hy hd rfl
            obtain ⟨s58, s58'⟩ := zsg 10 58 .data hy hd rfl
            have g52 := zgd 4 52 hy hd rfl
            clear hd hy hb
            go_simp
            exact zkq hK hmo d (if_pos rfl)
           case o12 =>
            intro At yy W hy hb d hd K hK
            obtain ⟨s59, s59'⟩ := zsg 11 59 .data hy hd rfl
            have g52 := zgd 4 52 hy hd rfl
            clear hd hy hb
            obtain ⟨q1, q2, q3⟩ := RB.out W (HYB.out.trans (d.mono HYB.out.size))
            go_simp
            exact zkq hK hmo d (if_pos rfl)
           case o13 =>
            intro At yy W hy hb d hd K hK
            obtain ⟨s56, s56'⟩ := zsg 8 56 .data hy hd rfl
            obtain ⟨s60, s60'⟩ := zsg 12 60 .data hy hd rfl
            have g52 := zgd 4 52 hy hd rfl
            clear hd hy hb
            go_simp
            exact zkq hK hmo d (if_pos rfl)
           case o14 =>
            intro At yy W hy hb d hd K hK
            obtain ⟨s52, s52'⟩ := zsg 4 52 .data hy hd rfl
            obtain ⟨s61, s61'⟩ := zsg 13 61 .data hy hd rfl
            clear hd hy hb
            go_simp
            exact zkq hK hmo d (if_pos rfl)
           case fin =>
            intro yy lo hi W hM
            show wpList _ _ _ [] _ _
            have e0 := hM.v 0 (by simp) rfl rfl rfl
            have e1 := hM.v 1 (by simp) rfl rfl rfl
            have e2 := hM.v 2 (by simp) rfl rfl rfl
            have e3 := hM.v 3 (by simp) rfl rfl rfl
            have e4 := hM.v 4 (by simp) rfl rfl rfl
            have e5 := hM.v 5 (by simp) rfl rfl rfl
            have e6 := hM.v 6 (by simp) rfl rfl rfl
            have e7 := hM.v 7 (by simp) rfl rfl rfl
            have e8 := hM.v 8 (by simp) rfl rfl rfl
            have e9 := hM.v 9 (by simp) rfl rfl rfl
            have e10 := hM.v 10 (by simp) rfl rfl rfl
            have e11 := hM.v 11 (by simp) rfl rfl rfl
            have e12 := hM.v 12 (by simp) rfl rfl rfl
            have e13 := hM.v 13 (by simp) rfl rfl rfl
            have e14 := hM.v 14 (by simp) rfl rfl rfl
            have DW := hide (HYB.out.trans (hM.d.mono HYB.out.size))
            have OW := hide (own_below HYO.out hM.d)
            simp only [fills, Act.put, List.take, List.length, List.setIfInBounds_toArray, List.set_cons_zero, List.set_cons_succ, e0, e1, e2, e3, e4, e5, e6, e7, e8, e9, e10, e11, e12, e13, e14]
            clear hM hmo e0 e1 e2 e3 e4 e5 e6 e7 e8 e9 e10 e11 e12 e13 e14
            go_wp2_with fail
            go_meet
            exact ⟨rfl, OW, DW⟩
          case rest =>
           obtain ⟨rfl, HYO, HYB⟩ := hcut
           rename World => wk
           obtain ⟨q1, q2, q3⟩ := RB.out wk HYB.out
           go_wp2_with (at_builtin; refine wpList_appE rfl _ _ rfl w.heap.size u5 X rfl (own_below HYO.out ((Below.refl _ _).alloc (Nat.le_refl _) _)) wk.heap.size x rfl (World.alloc_heap_new _ _) (by have := HXL.out; omega) w (HYB.out.alloc HYB.out.size _) (Nat.le_refl _) ?_; intro v2 w2 HO2 HD2)
           go_roundw
           case rel => exact ⟨i + 1, k + 1, X ++ [x], by omega, by omega, by go_num, by go_num, hide ⟨HO2.out, HN.out, HD2.out⟩⟩
           case measure => simp [intOf]; omega
        · have HN := hide (NB.out hlt hxy)
          have hne : Hid (¬ (x.1 = y.1 ∧ x.2.1 = y.2.1 ∧ x.2.2 = y.2.2)) := hide (fun h => hxy (Prod.ext h.1 (Prod.ext h.2.1 h.2.2)))
          clear hxy hlt
          go_cut [62] from 48 to 62 (fun v W => v = .bool false ∧ Hid (W.ownsRow w.heap.size 61 3 u5 X.length (X.flatMap encE)) ∧ Hid (Below w.heap.size w W))
          case first =>
           have hmo : MonIL 0 [vI 0 (.int .i64 i), vI 1 (.slice (some ⟨ga, oa, none⟩) A.length ca), vI 2 (.int .i64 (A.length : Int)), vI 3 (.bool true), vI 4 (.bool true), vI 5 (.slice (some ⟨ga, oa, none⟩) A.length ca), vI 6 (.int .i64 i), vI 7 (.pointer (some ⟨ga, oa + i * 3, none⟩)), vI 8 (.agg #[.int .i64 x.1, .int .i64 x.2.1, .int .i64 x.2.2]), vI 9 (.slice (some ⟨gb, ob, none⟩) B.length cb), vI 10 (.int .i64 k), vI 11 (.pointer (some ⟨gb, ob + k * 3, none⟩)), vI 12 (.agg #[.int .i64 y.1, .int .i64 y.2.1, .int .i64 y.2.2]), vI 13 (.bool false), vI 14 (.bool false)] := ⟨vI_mono _ _, vI_mono _ _, vI_mono _ _, vI_mono _ _, vI_mono _ _, vI_mono _ _, vI_mono _ _, vI_mono _ _, vI_mono _ _, vI_mono _ _, vI_mono _ _, vI_mono _ _, vI_mono _ _, vI_mono _ _, vI_mono _ _, trivial⟩
           refine wp_region_sl _ (by kernel_rfl) (by kernel_rfl) (by kernel_rfl) (by kernel_rfl) hmo ⟨?o0, ?o1, ?o2, ?o3, ?o4, ?o5, ?o6, ?o7, ?o8, ?o9, ?o10, ?o11, ?o12, ?o13, ?o14, trivial⟩ ?fin
           case o0 =>
            intro At yy W hy hb d hd K hK
            obtain ⟨s6, s6'⟩ := zsb (hb 6 rfl : _ = .int .i64 i)
            clear hd hy hb
            go_simp
            exact zkq hK hmo d (if_pos rfl)
           case o1 =>
            intro At yy W hy hb d hd K hK
            obtain ⟨s0, s0'⟩ := zsb (hb 0 rfl : _ = .slice (some ⟨ga, oa, none⟩) A.length ca)
            clear hd hy hb
            go_simp
            exact zkq hK hmo d (if_pos rfl)
           case o2 =>
            intro At yy W hy hb d hd K hK
            obtain ⟨s49, s49'⟩ := zsg 1 49 .data hy hd rfl
            clear hd hy hb
            go_simp
            exact zkq hK hmo d (if_pos rfl)
           case o3 =>
            intro At yy W hy hb d hd K hK
            obtain ⟨s48, s48'⟩ := zsg 0 48 .data hy hd rfl
            obtain ⟨s50, s50'⟩ := zsg 2 50 .data hy hd rfl
            clear hd hy hb
            go_simp
            exact zkq hK hmo d (if_pos rfl)
           case o4 =>
            intro At yy W hy hb d hd K hK
            obtain ⟨s51, s51'⟩ := zsg 3 51 .data hy hd rfl
            clear hd hy hb
            go_simp
            exact zkq hK hmo d (if_pos rfl)
           case o5 =>
            intro At yy W hy hb d hd K hK
            obtain ⟨s0, s0'⟩ := zsb (hb 0 rfl : _ = .slice (some ⟨ga, oa, none⟩) A.length ca)
            have g52 := zgd 4 52 hy hd rfl
            clear hd hy hb
            go_simp
            exact zkq hK hmo d (if_pos rfl)
           case o6 =>
            intro At yy W hy hb d hd K hK
            obtain ⟨s6, s6'⟩ := zsb (hb 6 rfl : _ = .int .i64 i)
            have g52 := zgd 4 52 hy hd rfl
            clear hd hy hb
            go_simp
            exact zkq hK hmo d (if_pos rfl)
           case o7 =>
            intro At yy W hy hb d hd K hK
            obtain ⟨s53, s53'⟩ := zsg 5 53 .data hy hd rfl
            obtain ⟨s54, s54'⟩ := zsg 6 54 .data hy hd rfl
            have g52 := zgd 4 52 hy hd rfl
            clear hd hy hb
            go_simp
            exact zkq hK hmo d (if_pos rfl)
           case o8 =>
            intro At yy W hy hb d hd K hK
            obtain ⟨s55, s55'⟩ := zsg 7 55 .data hy hd rfl
            have g52 := zgd 4 52 hy hd rfl
            clear hd hy hb
            obtain ⟨q1, q2, q3⟩ := RA.out W (HYB.out.trans (d.mono HYB.out.size))
            go_simp
            exact zkq hK hmo d (if_pos rfl)
           case o9 =>
            intro At yy W hy hb d hd K hK
            obtain ⟨s1, s1'⟩ := zsb (hb 1 rfl : _ = .slice (some ⟨gb, ob, none⟩) B.length cb)
            have g52 := zgd 4 52 hy hd rfl
            clear hd hy hb
            go_simp
            exact zkq hK hmo d (if_pos rfl)
           case o10 =>
            intro At yy W hy hb d hd K hK
            obtain ⟨s7, s7'⟩ := zsb (hb 7 rfl : _ = .int .i64 k)
            have g52 := zgd 4 52 hy hd rfl
            clear hd hy hb
            go_simp
            exact zkq hK hmo d (if_pos rfl)
           case o11 =>
            intro At yy W hy hb d hd K hK
            obtain ⟨s57, s57'⟩ := zsg 9 57 .data hy hd rfl
            obtain ⟨s58, s58'⟩ := zsg 10 58 .data hy hd rfl
            have g52 := zgd 4 52 hy hd rfl
            clear hd hy hb
            go_simp
            exact zkq hK hmo d (if_pos rfl)
           case o12 =>
            intro At yy W hy hb d hd K hK
            obtain ⟨s59, s59'⟩ := zsg 11 59 .data hy hd rfl
            have g52 := zgd 4 52 hy hd rfl
            clear hd hy hb
            obtain ⟨q1, q2, q3⟩ := RB.out W (HYB.out.trans (d.mono HYB.out.size))
            go_simp
            exact zkq hK hmo d (if_pos rfl)
           case o13 =>
            intro At yy W hy hb d hd K hK
            obtain ⟨s56, s56'⟩ := zsg 8 56 .data hy hd rfl
            obtain ⟨s60, s60'⟩ := zsg 12 60 .data hy hd rfl
            have g52 := zgd 4 52 hy hd rfl
            clear hd hy hb
            go_simp
            rw [ite3 hne.out]
            simp only [Oper.upon]
            exact zkq hK hmo d (if_pos rfl)
           case o14 =>
            intro At yy W hy hb d hd K hK
            obtain ⟨s52, s52'⟩ := zsg 4 52 .data hy hd rfl
            obtain ⟨s61, s61'⟩ := zsg 13 61 .data hy hd rfl
            clear hd hy hb
            go_simp
            exact zkq hK hmo d (if_pos rfl)
           case fin =>
            intro yy lo hi W hM
            show wpList _ _ _ [] _ _
            have e0 := hM.v 0 (by simp) rfl rfl rfl
            have e1 := hM.v 1 (by simp) rfl rfl rfl
            have e2 := hM.v 2 (by simp) rfl rfl rfl
            have e3 := hM.v 3 (by simp) rfl rfl rfl
            have e4 := hM.v 4 (by simp) rfl rfl rfl
            have e5 := hM.v 5 (by simp) rfl rfl rfl
            have e6 := hM.v 6 (by simp) rfl rfl rfl
            have e7 := hM.v 7 (by simp) rfl rfl rfl
            have e8 := hM.v 8 (by simp) rfl rfl rfl
            have e9 := hM.v 9 (by simp) rfl rfl rfl
            have e10 := hM.v 10 (by simp) rfl rfl rfl
            have e11 := hM.v 11 (by simp) rfl rfl rfl
            have e12 := hM.v 12 (by simp) rfl rfl rfl
            have e13 := hM.v 13 (by simp) rfl rfl rfl
            have e14 := hM.v 14 (by simp) rfl rfl rfl
            have DW := hide (HYB.out.trans (hM.d.mono HYB.out.size))
            have OW := hide (own_below HYO.out hM.d)
            simp only [fills, Act.put, List.take, List.length, List.setIfInBounds_toArray, List.set_cons_zero, List.set_cons_succ, e0, e1, e2, e3, e4, e5, e6, e7, e8, e9, e10, e11, e12, e13, e14]
            clear hM hmo e0 e1 e2 e3 e4 e5 e6 e7 e8 e9 e10 e11 e12 e13 e14
            go_wp2_with fail
            go_meet
            exact ⟨rfl, OW, DW⟩
          case rest =>
           obtain ⟨rfl, HYO, HYB⟩ := hcut
           rename World => wk
           obtain ⟨q1, q2, q3⟩ := RB.out wk HYB.out
           go_wp2_with (at_builtin; refine wpList_appE rfl _ _ rfl w.heap.size u5 X rfl (own_below HYO.out ((Below.refl _ _).alloc (Nat.le_refl _) _)) wk.heap.size y rfl (World.alloc_heap_new _ _) (by have := HXL.out; omega) w (HYB.out.alloc HYB.out.size _) (Nat.le_refl _) ?_; intro v2 w2 HO2 HD2)
           go_roundw
           case rel => exact ⟨i, k + 1, X ++ [y], by omega, by omega, rfl, by go_num, hide ⟨HO2.out, HN.out, HD2.out⟩⟩
           case measure => simp [intOf]; omega
    · have k0 : ¬ (k : Int) < (B.length : Int) := by omega
      have keq : ((k : Int) == (B.length : Int)) = true := by simp; omega
      have HNA : Hid (mrgE A B = X ++ [A[i]] ++ mrgE (A.drop (i + 1)) (B.drop k)) := hide (by rw [HYE.out, mrg_ea hia hkb]; simp)
      generalize A[i] = x at RA HNA
      go_upto_region 5 with fail
      go_cut [38] from 18 to 38 (fun v W => v = .bool true ∧ Hid (W.ownsRow w.heap.size 61 3 u5 X.length (X.flatMap encE)) ∧ Hid (Below w.heap.size w W))
      case first =>
       have hmo : MonIL 0 [vI 0 (.int .i64 k), vI 1 (.slice ab B.length cb), vI 2 (.int .i64 (B.length : Int)), vI 3 (.bool true), vI 4 (.bool true), vI 5 (undef), vI 6 (undef), vI 7 (undef), vI 8 (undef), vI 9 (undef), vI 10 (undef), vI 11 (undef), vI 12 (undef), vI 13 (undef), vI 14 (undef), vI 15 (undef), vI 16 (undef), vI 17 (undef), vI 18 (undef), vI 19 (undef), vI 20 (.bool true)] := ⟨vI_mono _ _, vI_mono _ _, vI_mono _ _, vI_mono _ _, vI_mono _ _, vI_mono _ _, vI_mono _ _, vI_mono _ _, vI_mono _ _, vI_mono _ _, vI_mono _ _, vI_mono _ _, vI_mono _ _, vI_mono _ _, vI_mono _ _, vI_mono _ _, vI_mono _ _, vI_mono _ _, vI_mono _ _, vI_mono _ _, vI_mono _ _, trivial⟩
       refine wp_region_sl _ (by kernel_rfl) (by kernel_rfl) (by kernel_rfl) (by kernel_rfl) hmo ⟨?o0, ?o1, ?o2, ?o3, ?o4, ?o5, ?o6, ?o7, ?o8, ?o9, ?o10, ?o11, ?o12, ?o13, ?o14, ?o15, ?o16, ?o17, ?o18, ?o19, ?o20, trivial⟩ ?fin
       case o0 =>
        intro At yy W hy hb d hd K hK
        obtain ⟨s7, s7'⟩ := zsb (hb 7 rfl : _ = .int .i64 k)
        clear hd hy hb
        go_simp
        exact zkq hK hmo d (if_pos rfl)
       case o1 =>
        intro At yy W hy hb d hd K hK
        obtain ⟨s1, s1'⟩ := zsb (hb 1 rfl : _ = .slice ab B.length cb)
        clear hd hy hb
        go_simp
        exact zkq hK hmo d (if_pos rfl)
       case o2 =>
        intro At yy W hy hb d hd K hK
        obtain ⟨s19, s19'⟩ := zsg 1 19 .data hy hd rfl
        clear hd hy hb
        go_simp
        exact zkq hK hmo d (if_pos rfl)
       case o3 =>
        intro At yy W hy hb d hd K hK
        obtain ⟨s18, s18'⟩ := zsg 0 18 .data hy hd rfl
        obtain ⟨s20, s20'⟩ := zsg 2 20 .data hy hd rfl
        clear hd hy hb
        go_simp
        exact zkq hK hmo d (if_pos rfl)
       case o4 =>
        intro At yy W hy hb d hd K hK
        obtain ⟨s21, s21'⟩ := zsg 3 21 .data hy hd rfl
        clear hd hy hb
        go_simp
        exact zkq hK hmo d (if_pos rfl)
       case o5 | o6 =>
        intro At yy W hy hb d hd K hK
        have g22 := zgd 4 22 hy hd rfl
        clear hd hy hb
        go_simp
        exact zkq hK hmo d (if_pos rfl)
       case o7 =>
        intro At yy W hy hb d hd K hK
        have e6 := zev (hd ⟨6, .data⟩ (by simp) rfl rfl) rfl
        have g22 := zgd 4 22 hy hd rfl
        clear hd hy hb
        go_simp
        exact zkq hK hmo d (if_pos rfl)
       case o8 =>
        intro At yy W hy hb d hd K hK
        have e5 := zev (hd ⟨5, .data⟩ (by simp) rfl rfl) rfl
        have e7 := zev (hd ⟨7, .data⟩ (by simp) rfl rfl) rfl
        have g22 := zgd 4 22 hy hd rfl
        clear hd hy hb
        go_simp
        exact zkq hK hmo d (if_pos rfl)
       case o9 =>
        intro At yy W hy hb d hd K hK
        have e8 := zev (hd ⟨8, .data⟩ (by simp) rfl rfl) rfl
        have g22 := zgd 4 22 hy hd rfl
        clear hd hy hb
        go_simp
        exact zkq hK hmo d (if_pos rfl)
       case o10 | o11 | o14 | o15 =>
        intro At yy W hy hb d hd K hK
        obtain ⟨s27, s27'⟩ := zsg 9 27 .guard hy hd rfl
        have g27 := got_undef s27
        clear hd hy hb
        rcases g27 with g27 | g27
        all_goals
         go_simp
         exact zkq hK hmo d (if_pos rfl)
       case o12 =>
        intro At yy W hy hb d hd K hK
        have e10 := zev (hd ⟨10, .data⟩ (by simp) rfl rfl) rfl
        have e11 := zev (hd ⟨11, .data⟩ (by simp) rfl rfl) rfl
        obtain ⟨s27, s27'⟩ := zsg 9 27 .guard hy hd rfl
        have g27 := got_undef s27
        clear hd hy hb
        rcases g27 with g27 | g27
        all_goals
         go_simp
         exact zkq hK hmo d (if_pos rfl)
       case o13 =>
        intro At yy W hy hb d hd K hK
        have e12 := zev (hd ⟨12, .data⟩ (by simp) rfl rfl) rfl
        obtain ⟨s27, s27'⟩ := zsg 9 27 .guard hy hd rfl
        have g27 := got_undef s27
        clear hd hy hb
        rcases g27 with g27 | g27
        all_goals
         go_simp
         exact zkq hK hmo d (if_pos rfl)
       case o16 =>
        intro At yy W hy hb d hd K hK
        have e14 := zev (hd ⟨14, .data⟩ (by simp) rfl rfl) rfl
        have e15 := zev (hd ⟨15, .data⟩ (by simp) rfl rfl) rfl
        obtain ⟨s27, s27'⟩ := zsg 9 27 .guard hy hd rfl
        have g27 := got_undef s27
        clear hd hy hb
        rcases g27 with g27 | g27
        all_goals
         go_simp
         exact zkq hK hmo d (if_pos rfl)
       case o17 =>
        intro At yy W hy hb d hd K hK
        have e16 := zev (hd ⟨16, .data⟩ (by simp) rfl rfl) rfl
        obtain ⟨s27, s27'⟩ := zsg 9 27 .guard hy hd rfl
        have g27 := got_undef s27
        clear hd hy hb
        rcases g27 with g27 | g27
        all_goals
         go_simp
         exact zkq hK hmo d (if_pos rfl)
       case o18 =>
        intro At yy W hy hb d hd K hK
        have e13 := zev (hd ⟨13, .data⟩ (by simp) rfl rfl) rfl
        have e17 := zev (hd ⟨17, .data⟩ (by simp) rfl rfl) rfl
        obtain ⟨s27, s27'⟩ := zsg 9 27 .guard hy hd rfl
        have g27 := got_undef s27
        clear hd hy hb
        rcases g27 with g27 | g27
        all_goals
         go_simp
         exact zkq hK hmo d (if_pos rfl)
       case o19 =>
        intro At yy W hy hb d hd K hK
        have e9 := zev (hd ⟨9, .data⟩ (by simp) rfl rfl) rfl
        have e18 := zev (hd ⟨18, .data⟩ (by simp) rfl rfl) rfl
        have g22 := zgd 4 22 hy hd rfl
        clear hd hy hb
        go_simp
        exact zkq hK hmo d (if_pos rfl)
       case o20 =>
        intro At yy W hy hb d hd K hK
        obtain ⟨s22, s22'⟩ := zsg 4 22 .data hy hd rfl
        obtain ⟨s37, s37'⟩ := zsg 19 37 .data hy hd rfl
        clear hd hy hb
        go_simp
        exact zkq hK hmo d (if_pos rfl)
       case fin =>
        intro yy lo hi W hM
        show wpList _ _ _ [] _ _
        have e0 := hM.v 0 (by simp) rfl rfl rfl
        have e1 := hM.v 1 (by simp) rfl rfl rfl
        have e2 := hM.v 2 (by simp) rfl rfl rfl
        have e3 := hM.v 3 (by simp) rfl rfl rfl
        have e4 := hM.v 4 (by simp) rfl rfl rfl
        have e5 := hM.v 5 (by simp) rfl rfl rfl
        have e6 := hM.v 6 (by simp) rfl rfl rfl
        have e7 := hM.v 7 (by simp) rfl rfl rfl
        have e8 := hM.v 8 (by simp) rfl rfl rfl
        have e9 := hM.v 9 (by simp) rfl rfl rfl
        have e10 := hM.v 10 (by simp) rfl rfl rfl
        have e11 := hM.v 11 (by simp) rfl rfl rfl
        have e12 := hM.v 12 (by simp) rfl rfl rfl
        have e13 := hM.v 13 (by simp) rfl rfl rfl
        have e14 := hM.v 14 (by simp) rfl rfl rfl
        have e15 := hM.v 15 (by simp) rfl rfl rfl
        have e16 := hM.v 16 (by simp) rfl rfl rfl
        have e17 := hM.v 17 (by simp) rfl rfl rfl
        have e18 := hM.v 18 (by simp) rfl rfl rfl
        have e19 := hM.v 19 (by simp) rfl rfl rfl
        have e20 := hM.v 20 (by simp) rfl rfl rfl
        have DW := hide (HYB.out.trans (hM.d.mono HYB.out.size))
        have OW := hide (own_below HYO.out hM.d)
        simp only [fills, Act.put, List.take, List.length, List.setIfInBounds_toArray, List.set_cons_zero, List.set_cons_succ, e0, e1, e2, e3, e4, e5, e6, e7, e8, e9, e10, e11, e12, e13, e14, e15, e16, e17, e18, e19, e20]
        clear hM hmo e0 e1 e2 e3 e4 e5 e6 e7 e8 e9 e10 e11 e12 e13 e14 e15 e16 e17 e18 e19 e20
        go_wp2_with fail
        go_meet
        exact ⟨rfl, OW, DW⟩
      case rest =>
       obtain ⟨rfl, HYO, HYB⟩ := hcut
       rename World => wk
       obtain ⟨q1, q2, q3⟩ := RA.out wk HYB.out
       go_wp2_with (at_builtin; refine wpList_appE rfl _ _ rfl w.heap.size u5 X rfl (own_below HYO.out ((Below.refl _ _).alloc (Nat.le_refl _) _)) wk.heap.size x rfl (World.alloc_heap_new _ _) (by have := HXL.out; omega) w (HYB.out.alloc HYB.out.size _) (Nat.le_refl _) ?_; intro v2 w2 HO2 HD2)
       go_roundw
       case rel => exact ⟨i + 1, k, X ++ [x], by omega, by omega, by go_num, rfl, hide ⟨HO2.out, HNA.out, HD2.out⟩⟩
       case measure => simp [intOf]; omega
  · have i0 : ¬ (i : Int) < (A.length : Int) := by omega
    by_cases hkb : k < B.length
    · have k0 : (k : Int) < (B.length : Int) := by omega
      have kne : ((k : Int) == (B.length : Int)) = false := by simp; omega
      obtain ⟨gb, ob, hbb, p1, p2, p3⟩ := hB.out k hkb
      subst hbb
      have RB : Hid (∀ W, Below w.heap.size w W → W.cell? ⟨gb, ob + k * 3, none⟩ = some (.int .i64 B[k].1) ∧ W.cell? ⟨gb, ob + k * 3 + 1, none⟩ = some (.int .i64 B[k].2.1) ∧ W.cell? ⟨gb, ob + k * 3 + 2, none⟩ = some (.int .i64 B[k].2.2)) := hide (fun W d => ⟨(d.cell (p := ⟨gb, ob + k * 3, none⟩) (World.block_lt_of_cell? w _ p1)).trans p1, (d.cell (p := ⟨gb, ob + k * 3 + 1, none⟩) (World.block_lt_of_cell? w _ p2)).trans p2, (d.cell (p := ⟨gb, ob + k * 3 + 2, none⟩) (World.block_lt_of_cell? w _ p3)).trans p3⟩)
      clear p1 p2 p3
      have HN : Hid (mrgE A B = X ++ [B[k]] ++ mrgE (A.drop i) (B.drop (k + 1))) := hide (by rw [HYE.out, mrg_eb hia hkb]; simp)
      generalize B[k] = y at RB HN
      go_upto_region 5 with fail
      go_cut [38] from 18 to 38 (fun v W => v = .bool false ∧ Hid (W.ownsRow w.heap.size 61 3 u5 X.length (X.flatMap encE)) ∧ Hid (Below w.heap.size w W))
      case first =>
       have hmo : MonIL 0 [vI 0 (.int .i64 k), vI 1 (.slice (some ⟨gb, ob, none⟩) B.length cb), vI 2 (.int .i64 (B.length : Int)), vI 3 (.bool false), vI 4 (.bool false), vI 5 (.int .i64 i), vI 6 (.slice aa A.length ca), vI 7 (.int .i64 (A.length : Int)), vI 8 (.bool false), vI 9 (.bool false), vI 10 (undef), vI 11 (undef), vI 12 (undef), vI 13 (undef), vI 14 (undef), vI 15 (undef), vI 16 (undef), vI 17 (undef), vI 18 (undef), vI 19 (.bool false), vI 20 (.bool false)] := ⟨vI_mono _ _, vI_mono _ _, vI_mono _ _, vI_mono _ _, vI_mono _ _, vI_mono _ _, vI_mono _ _, vI_mono _ _, vI_mono _ _, vI_mono _ _, vI_mono _ _, vI_mono _ _, vI_mono _ _, vI_mono _ _, vI_mono _ _, vI_mono _ _, vI_mono _ _, vI_mono _ _, vI_mono _ _, vI_mono _ _, vI_mono _ _, trivial⟩
       refine wp_region_sl _ (by kernel_rfl) (by kernel_rfl) (by kernel_rfl) (by kernel_rfl) hmo ⟨?o0, ?o1, ?o2, ?o3, ?o4, ?o5, ?o6, ?o7, ?o8, ?o9, ?o10, ?o11, ?o12, ?o13, ?o14, ?o15, ?o16, ?o17, ?o18, ?o19, ?o20, trivial⟩ ?fin
       case o0 =>
        intro At yy W hy hb d hd K hK
        obtain ⟨s7, s7'⟩ := zsb (hb 7 rfl : _ = .int .i64 k)
        clear hd hy hb
        go_simp
        exact zkq hK hmo d (if_pos rfl)
       case o1 =>
        intro At yy W hy hb d hd K hK
        obtain ⟨s1, s1'⟩ := zsb (hb 1 rfl : _ = .slice (some ⟨gb, ob, none⟩) B.length cb)
        clear hd hy hb
        go_simp
        exact zkq hK hmo d (if_pos rfl)
       case o2 =>
        intro At yy W hy hb d hd K hK
        obtain ⟨s19, s19'⟩ := zsg 1 19 .data hy hd rfl
        clear hd hy hb
        go_simp
        exact zkq hK hmo d (if_pos rfl)
       case o3 =>
        intro At yy W hy hb d hd K hK
        obtain ⟨s18, s18'⟩ := zsg 0 18 .data hy hd rfl
        obtain ⟨s20, s20'⟩ := zsg 2 20 .data hy hd rfl
        clear hd hy hb
        go_simp
        exact zkq hK hmo d (if_pos rfl)
       case o4 =>
        intro At yy W hy hb d hd K hK
        obtain ⟨s21, s21'⟩ := zsg 3 21 .data hy hd rfl
        clear hd hy hb
        go_simp
        exact zkq hK hmo d (if_pos rfl)
       case o5 =>
        intro At yy W hy hb d hd K hK
        obtain ⟨s6, s6'⟩ := zsb (hb 6 rfl : _ = .int .i64 i)
        have g22 := zgd 4 22 hy hd rfl
        clear hd hy hb
        go_simp
        exact zkq hK hmo d (if_pos rfl)
       case o6 =>
        intro At yy W hy hb d hd K hK
        obtain ⟨s0, s0'⟩ := zsb (hb 0 rfl : _ = .slice aa A.length ca)
        have g22 := zgd 4 22 hy hd rfl
        clear hd hy hb
        go_simp
        exact zkq hK hmo d (if_pos rfl)
       case o7 =>
        intro At yy W hy hb d hd K hK
        obtain ⟨s24, s24'⟩ := zsg 6 24 .data hy hd rfl
        have g22 := zgd 4 22 hy hd rfl
        clear hd hy hb
        go_simp
        exact zkq hK hmo d (if_pos rfl)
       case o8 =>
        intro At yy W hy hb d hd K hK
        obtain ⟨s23, s23'⟩ := zsg 5 23 .data hy hd rfl
        obtain ⟨s25, s25'⟩ := zsg 7 25 .data hy hd rfl
        have g22 := zgd 4 22 hy hd rfl
        clear hd hy hb
        go_simp
        exact zkq hK hmo d (if_pos rfl)
       case o9 =>
        intro At yy W hy hb d hd K hK
        obtain ⟨s26, s26'⟩ := zsg 8 26 .data hy hd rfl
        have g22 := zgd 4 22 hy hd rfl
        clear hd hy hb
        go_simp
        exact zkq hK hmo d (if_pos rfl)
       case o10 | o11 | o14 | o15 =>
        intro At yy W hy hb d hd K hK
        have g27 := zgd 9 27 hy hd rfl
        clear hd hy hb
        go_simp
        exact zkq hK hmo d (if_pos rfl)
       case o12 =>
        intro At yy W hy hb d hd K hK
        have e10 := zev (hd ⟨10, .data⟩ (by simp) rfl rfl) rfl
        have e11 := zev (hd ⟨11, .data⟩ (by simp) rfl rfl) rfl
        have g27 := zgd 9 27 hy hd rfl
        clear hd hy hb
        go_simp
        exact zkq hK hmo d (if_pos rfl)
       case o13 =>
        intro At yy W hy hb d hd K hK
        have e12 := zev (hd ⟨12, .data⟩ (by simp) rfl rfl) rfl
        have g27 := zgd 9 27 hy hd rfl
        clear hd hy hb
        go_simp
        exact zkq hK hmo d (if_pos rfl)
       case o16 =>
        intro At yy W hy hb d hd K hK
        have e14 := zev (hd ⟨14, .data⟩ (by simp) rfl rfl) rfl
        have e15 := zev (hd ⟨15, .data⟩ (by simp) rfl rfl) rfl
        have g27 := zgd 9 27 hy hd rfl
        clear hd hy hb
        go_simp
        exact zkq hK hmo d (if_pos rfl)
       case o17 =>
        intro At yy W hy hb d hd K hK
        have e16 := zev (hd ⟨16, .data⟩ (by simp) rfl rfl) rfl
        have g27 := zgd 9 27 hy hd rfl
        clear hd hy hb
        go_simp
        exact zkq hK hmo d (if_pos rfl)
       case o18 =>
        intro At yy W hy hb d hd K hK
        have e13 := zev (hd ⟨13, .data⟩ (by simp) rfl rfl) rfl
        have e17 := zev (hd ⟨17, .data⟩ (by simp) rfl rfl) rfl
        have g27 := zgd 9 27 hy hd rfl
        clear hd hy hb
        go_simp
        exact zkq hK hmo d (if_pos rfl)
       case o19 =>
        intro At yy W hy hb d hd K hK
        obtain ⟨s27, s27'⟩ := zsg 9 27 .data hy hd rfl
        obtain ⟨s36, s36'⟩ := zsg 18 36 .data hy hd rfl
        have g22 := zgd 4 22 hy hd rfl
        clear hd hy hb
        go_simp
        exact zkq hK hmo d (if_pos rfl)
       case o20 =>
        intro At yy W hy hb d hd K hK
        obtain ⟨s22, s22'⟩ := zsg 4 22 .data hy hd rfl
        obtain ⟨s37, s37'⟩ := zsg 19 37 .data hy hd rfl
        clear hd hy hb
        go_simp
        exact zkq hK hmo d (if_pos rfl)
       case fin =>
        intro yy lo hi W hM
        show wpList _ _ _ [] _ _
        have e0 := hM.v 0 (by simp) rfl rfl rfl
        have e1 := hM.v 1 (by simp) rfl rfl rfl
        have e2 := hM.v 2 (by simp) rfl rfl rfl
        have e3 := hM.v 3 (by simp) rfl rfl rfl
        have e4 := hM.v 4 (by simp) rfl rfl rfl
        have e5 := hM.v 5 (by simp) rfl rfl rfl
        have e6 := hM.v 6 (by simp) rfl rfl rfl
        have e7 := hM.v 7 (by simp) rfl rfl rfl
        have e8 := hM.v 8 (by simp) rfl rfl rfl
        have e9 := hM.v 9 (by simp) rfl rfl rfl
        have e10 := hM.v 10 (by simp) rfl rfl rfl
        have e11 := hM.v 11 (by simp) rfl rfl rfl
        have e12 := hM.v 12 (by simp) rfl rfl rfl
        have e13 := hM.v 13 (by simp) rfl rfl rfl
        have e14 := hM.v 14 (by simp) rfl rfl rfl
        have e15 := hM.v 15 (by simp) rfl rfl rfl
        have e16 := hM.v 16 (by simp) rfl rfl rfl
        have e17 := hM.v 17 (by simp) rfl rfl rfl
        have e18 := hM.v 18 (by simp) rfl rfl rfl
        have e19 := hM.v 19 (by simp) rfl rfl rfl
        have e20 := hM.v 20 (by simp) rfl rfl rfl
        have DW := hide (HYB.out.trans (hM.d.mono HYB.out.size))
        have OW := hide (own_below HYO.out hM.d)
        simp only [fills, Act.put, List.take, List.length, List.setIfInBounds_toArray, List.set_cons_zero, List.set_cons_succ, e0, e1, e2, e3, e4, e5, e6, e7, e8, e9, e10, e11, e12, e13, e14, e15, e16, e17, e18, e19, e20]
        clear hM hmo e0 e1 e2 e3 e4 e5 e6 e7 e8 e9 e10 e11 e12 e13 e14 e15 e16 e17 e18 e19 e20
        go_wp2_with fail
        go_meet
        exact ⟨rfl, OW, DW⟩
      case rest =>
       obtain ⟨rfl, HYO, HYB⟩ := hcut
       rename World => wk
       go_upto_region 8 with fail
       go_cut [62] from 48 to 62 (fun v W => v = .bool false ∧ Hid (W.ownsRow w.heap.size 61 3 u5 X.length (X.flatMap encE)) ∧ Hid (Below w.heap.size w W))
       case first =>
        have hmo : MonIL 0 [vI 0 (.int .i64 i), vI 1 (.slice aa A.length ca), vI 2 (.int .i64 (A.length : Int)), vI 3 (.bool false), vI 4 (.bool false), vI 5 (undef), vI 6 (undef), vI 7 (undef), vI 8 (undef), vI 9 (undef), vI 10 (undef), vI 11 (undef), vI 12 (undef), vI 13 (undef), vI 14 (.bool false)] := ⟨vI_mono _ _, vI_mono _ _, vI_mono _ _, vI_mono _ _, vI_mono _ _, vI_mono _ _, vI_mono _ _, vI_mono _ _, vI_mono _ _, vI_mono _ _, vI_mono _ _, vI_mono _ _, vI_mono _ _, vI_mono _ _, vI_mono _ _, trivial⟩
        refine wp_region_sl _ (by kernel_rfl) (by kernel_rfl) (by kernel_rfl) (by kernel_rfl) hmo ⟨?o0, ?o1, ?o2, ?o3, ?o4, ?o5, ?o6, ?o7, ?o8, ?o9, ?o10, ?o11, ?o12, ?o13, ?o14, trivial⟩ ?fin
        case o0 =>
         intro At yy W hy hb d hd K hK
         obtain ⟨s6, s6'⟩ := zsb (hb 6 rfl : _ = .int .i64 i)
         clear hd hy hb
         go_simp
         exact zkq hK hmo d (if_pos rfl)
        case o1 =>
         intro At yy W hy hb d hd K hK
         obtain ⟨s0, s0'⟩ := zsb (hb 0 rfl : _ = .slice aa A.length ca)
         clear hd hy hb
         go_simp
         exact zkq hK hmo d (if_pos rfl)
        case o2 =>
         intro At yy W hy hb d hd K hK
         obtain ⟨s49, s49'⟩ := zsg 1 49 .data hy hd rfl
         clear hd hy hb
         go_simp
         exact zkq hK hmo d (if_pos rfl)
        case o3 =>
         intro At yy W hy hb d hd K hK
         obtain ⟨s48, s48'⟩ := zsg 0 48 .data hy hd rfl
         obtain ⟨s50, s50'⟩ := zsg 2 50 .data hy hd rfl
         clear hd hy hb
         go_simp
         exact zkq hK hmo d (if_pos rfl)
        case o4 =>
         intro At yy W hy hb d hd K hK
         obtain ⟨s51, s51'⟩ := zsg 3 51 .data hy hd rfl
         clear hd hy hb
         go_simp
         exact zkq hK hmo d (if_pos rfl)
        case o5 | o6 | o9 | o10 =>
         intro At yy W hy hb d hd K hK
         have g52 := zgd 4 52 hy hd rfl
         clear hd hy hb
         go_simp
         exact zkq hK hmo d (if_pos rfl)
        case o7 =>
         intro At yy W hy hb d hd K hK
         have e5 := zev (hd ⟨5, .data⟩ (by simp) rfl rfl) rfl
         have e6 := zev (hd ⟨6, .data⟩ (by simp) rfl rfl) rfl
         have g52 := zgd 4 52 hy hd rfl
         clear hd hy hb
         go_simp
         exact zkq hK hmo d (if_pos rfl)
        case o8 =>
         intro At yy W hy hb d hd K hK
         have e7 := zev (hd ⟨7, .data⟩ (by simp) rfl rfl) rfl
         have g52 := zgd 4 52 hy hd rfl
         clear hd hy hb
         go_simp
         exact zkq hK hmo d (if_pos rfl)
        case o11 =>
         intro At yy W hy hb d hd K hK
         have e9 := zev (hd ⟨9, .data⟩ (by simp) rfl rfl) rfl
         have e10 := zev (hd ⟨10, .data⟩ (by simp) rfl rfl) rfl
         have g52 := zgd 4 52 hy hd rfl
         clear hd hy hb
         go_simp
         exact zkq hK hmo d (if_pos rfl)
        case o12 =>
         intro At yy W hy hb d hd K hK
         have e11 := zev (hd ⟨11, .data⟩ (by simp) rfl rfl) rfl
         have g52 := zgd 4 52 hy hd rfl
         clear hd hy hb
         go_simp
         exact zkq hK hmo d (if_pos rfl)
        case o13 =>
         intro At yy W hy hb d hd K hK
         have e8 := zev (hd ⟨8, .data⟩ (by simp) rfl rfl) rfl
         have e12 := zev (hd ⟨12, .data⟩ (by simp) rfl rfl) rfl
         have g52 := zgd 4 52 hy hd rfl
         clear hd hy hb
         go_simp
         exact zkq hK hmo d (if_pos rfl)
        case o14 =>
         intro At yy W hy hb d hd K hK
         obtain ⟨s52, s52'⟩ := zsg 4 52 .data hy hd rfl
         obtain ⟨s61, s61'⟩ := zsg 13 61 .data hy hd rfl
         clear hd hy hb
         go_simp
         exact zkq hK hmo d (if_pos rfl)
        case fin =>
         intro yy lo hi W hM
         show wpList _ _ _ [] _ _
         have e0 := hM.v 0 (by simp) rfl rfl rfl
         have e1 := hM.v 1 (by simp) rfl rfl rfl
         have e2 := hM.v 2 (by simp) rfl rfl rfl
         have e3 := hM.v 3 (by simp) rfl rfl rfl
         have e4 := hM.v 4 (by simp) rfl rfl rfl
         have e5 := hM.v 5 (by simp) rfl rfl rfl
         have e6 := hM.v 6 (by simp) rfl rfl rfl
         have e7 := hM.v 7 (by simp) rfl rfl rfl
         have e8 := hM.v 8 (by simp) rfl rfl rfl
         have e9 := hM.v 9 (by simp) rfl rfl rfl
         have e10 := hM.v 10 (by simp) rfl rfl rfl
         have e11 := hM.v 11 (by simp) rfl rfl rfl
         have e12 := hM.v 12 (by simp) rfl rfl rfl
         have e13 := hM.v 13 (by simp) rfl rfl rfl
         have e14 := hM.v 14 (by simp) rfl rfl rfl
         have DW := hide (HYB.out.trans (hM.d.mono HYB.out.size))
         have OW := hide (own_below HYO.out hM.d)
         simp only [fills, Act.put, List.take, List.length, List.setIfInBounds_toArray, List.set_cons_zero, List.set_cons_succ, e0, e1, e2, e3, e4, e5, e6, e7, e8, e9, e10, e11, e12, e13, e14]
         clear hM hmo e0 e1 e2 e3 e4 e5 e6 e7 e8 e9 e10 e11 e12 e13 e14
         go_wp2_with fail
         go_meet
         exact ⟨rfl, OW, DW⟩
       case rest =>
        obtain ⟨rfl, HYO, HYB⟩ := hcut
        rename World => wk
        obtain ⟨q1, q2, q3⟩ := RB.out wk HYB.out
        go_wp2_with (at_builtin; refine wpList_appE rfl _ _ rfl w.heap.size u5 X rfl (own_below HYO.out ((Below.refl _ _).alloc (Nat.le_refl _) _)) wk.heap.size y rfl (World.alloc_heap_new _ _) (by have := HXL.out; omega) w (HYB.out.alloc HYB.out.size _) (Nat.le_refl _) ?_; intro v2 w2 HO2 HD2)
        go_roundw
        case rel => exact ⟨i, k + 1, X ++ [y], by omega, by omega, rfl, by go_num, hide ⟨HO2.out, HN.out, HD2.out⟩⟩
        case measure => simp [intOf]; omega
    · have k0 : ¬ (k : Int) < (B.length : Int) := by omega
      have HX : Hid (mrgE A B = X) := hide (by rw [HYE.out, List.drop_eq_nil_of_le (show A.length ≤ i by omega), List.drop_eq_nil_of_le (show B.length ≤ k by omega)]; simp [mrgE])
      obtain ⟨b, c, hv⟩ := own_slice HYO.out
      subst hv
      go_wp2_with fail
      refine bodyPost_ret (results_tmp rfl _ _ _) rfl ?_
      exact ⟨b, c, by rw [HX.out]; rfl, by rw [HX.out]; exact HYO, HYB.out⟩
theorem Only.grown {w w' : World} {r : Option Nat} {R : Nat → Prop} (h : w.grownBy w' r) (hr : ∀ k, r = some k → R k) : Only w w' R :=
 ⟨h.os, h.tape, h.output, h.size, fun k hk hn => h.block k hk (fun e => hn (hr k e.symm))⟩
section
variable {w W W' : World} {N : Nat} {v : Nat → Value} {bx : List (Nat × Array Value × TypeId)} {e sz n : Nat → Nat} {mk : Nat → Nat → Value} {x : Nat → List Value} {a : Nat → Nat}
end
theorem RwA.down {B : Nat} {w : World} {m R : Nat} {Ed : List EdT} {aE : Option Addr} {n cE g : Nat} (h : RwA B w m R Ed aE n cE g) : RwA 0 w m R Ed aE n cE g := ⟨owns_down h.ow (Nat.zero_le _), h.fi, Nat.zero_le _⟩
theorem RwA.on {B : Nat} {w w' : World} {m R : Nat} {Ed : List EdT} {aE : Option Addr} {n cE g : Nat} (h : RwA B w m R Ed aE n cE g) (d : Below w.heap.size w w') : RwA B w' m R Ed aE n cE g := ⟨own_below h.ow d, h.fi.below d h.fi.lt, h.ge⟩
def rwsP (m R n : Nat) (Ed : List EdT) : MkP := fun x _ _ W => ∃ aE cE g, x = .agg #[.int .i64 (m : Int), .slice aE n cE, .slice (some ⟨g, 0, none⟩) (R + 1) (R + 1)] ∧ RwA 0 W m R Ed aE n cE g
theorem rwsP_mono {m R n : Nat} {Ed : List EdT} : MonoP (rwsP m R n Ed) := fun _ _ _ _ _ _ d ⟨aE, cE, g, e, h⟩ => ⟨aE, cE, g, e, h.on d⟩
def finP (N : Nat) (Fi : List Int) : MkP := fun x _ _ W => ∃ gf, x = .slice (some ⟨gf, 0, none⟩) N N ∧ Mrw W gf 4 N (fun c => .bool (finB Fi c)) N
theorem finP_mono {N : Nat} {Fi : List Int} : MonoP (finP N Fi) := fun _ _ _ _ _ _ d ⟨gf, e, h⟩ => ⟨gf, e, h.below d h.lt⟩
def b3P : MkP := fun x lo hi W => x = .pointer (some ⟨lo, 0, none⟩) ∧ lo < hi ∧ W.heap[lo]? = some (.cells #[.int .i64 0, .slice none 0 0, .slice none 0 0] 93 (0, 0))
theorem b3P_mono : MonoP b3P := fun _ _ _ _ _ hs d ⟨e, l, z⟩ => ⟨e, l, (d.block _ (by omega)).trans z⟩
def b1P : MkP := fun x lo hi W => x = .pointer (some ⟨lo, 0, none⟩) ∧ lo < hi ∧ W.heap[lo]? = some (.cells #[.slice none 0 0] 77 (0, 0))
theorem b1P_mono : MonoP b1P := fun _ _ _ _ _ hs d ⟨e, l, z⟩ => ⟨e, l, (d.block _ (by omega)).trans z⟩
structure BrA (w W : World) (N m R n : Nat) (Ed : List EdT) (Fi : List Int) (p6 p7 : Nat) (aE : Option Addr) (cE g gf : Nat) : Prop where
 b6 : W.heap[p6]? = some (.cells #[.int .i64 (m : Int), .slice aE n cE, .slice (some ⟨g, 0, none⟩) (R + 1) (R + 1)] 93 (0, 0))
 b7 : W.heap[p7]? = some (.cells #[.slice (some ⟨gf, 0, none⟩) N N] 77 (0, 0))
 rw : RwA 0 W m R Ed aE n cE g
 fi : Mrw W gf 4 N (fun c => .bool (finB Fi c)) N
 be : Below w.heap.size w W
theorem BrA.on {w W W' : World} {N m R n : Nat} {Ed : List EdT} {Fi : List Int} {p6 p7 : Nat} {aE : Option Addr} {cE g gf : Nat} (h : BrA w W N m R n Ed Fi p6 p7 aE cE g gf) (d : Below W.heap.size W W') : BrA w W' N m R n Ed Fi p6 p7 aE cE g gf :=
 ⟨blk_on h.b6 d, blk_on h.b7 d, h.rw.on d, h.fi.below d h.fi.lt, h.be.trans (d.mono h.be.size)⟩
theorem mrw_tag {W : World} {g N k : Nat} {t t' : TypeId} {f : Nat → Value} {cs : Array Value} (h : Mrw W g t N f N) (z : W.heap[k]? = some (.cells cs t' (0, 0))) (ne : t ≠ t') : g ≠ k := fun e => by
 obtain ⟨cur, h1, _⟩ := h
 rw [e, z] at h1
 cases h1
 exact ne rfl
theorem brA_of {w W : World} {N m R n : Nat} {Ed : List EdT} {Fi : List Int} {p6 p7 : Nat} {aE : Option Addr} {cE g gf : Nat} (z1 : RwA 0 W m R Ed aE n cE g) (z3 : Mrw W gf 4 N (fun c => .bool (finB Fi c)) N) (z4 : W.heap[p6]? = some (.cells #[.int .i64 0, .slice none 0 0, .slice none 0 0] 93 (0, 0))) (z5 : W.heap[p7]? = some (.cells #[.slice none 0 0] 77 (0, 0))) (d : Below w.heap.size w W) (a4 : w.heap.size ≤ p6) (a5 : w.heap.size ≤ p7) :
 BrA w ((((W.setCell ⟨p6, 0, none⟩ (.int .i64 (m : Int))).setCell ⟨p6, 1, none⟩ (.slice aE n cE)).setCell ⟨p6, 2, none⟩ (.slice (some ⟨g, 0, none⟩) (R + 1) (R + 1))).setCell ⟨p7, 0, none⟩ (.slice (some ⟨gf, 0, none⟩) N N)) N m R n Ed Fi p6 p7 aE cE g gf := by
 have o1 := only3 W p6 0 1 2 (.int .i64 (m : Int)) (.slice aE n cE) (.slice (some ⟨g, 0, none⟩) (R + 1) (R + 1))
 have s1 := set3 W p6 _ _ _ (.int .i64 (m : Int)) (.slice aE n cE) (.slice (some ⟨g, 0, none⟩) (R + 1) (R + 1)) 93 z4
 have ne : p7 ≠ p6 := fun e => by rw [e, z4] at z5; cases z5
 have t5 := (o1.block p7 (Array.getElem?_eq_some_iff.1 z5).1 ne).trans z5
 have r1 := row_only z1.ow o1 (fun k hk e => by subst e; exact row_tag z1.ow z4 (by decide) hk)
 have m1 := z1.fi.only o1 (mrw_tag z1.fi z4 (by decide))
 have f1 := z3.only o1 (mrw_tag z3 z4 (by decide))
 have d1 := d.trans (o1.toBelow d.size (fun k hk => by rw [hk]; exact a4))
 generalize ((W.setCell ⟨p6, 0, none⟩ (.int .i64 (m : Int))).setCell ⟨p6, 1, none⟩ (.slice aE n cE)).setCell ⟨p6, 2, none⟩ (.slice (some ⟨g, 0, none⟩) (R + 1) (R + 1)) = W1 at *
 have o2 := only_set W1 p7 0 (.slice (some ⟨gf, 0, none⟩) N N)
 exact ⟨(o2.block p6 (Array.getElem?_eq_some_iff.1 s1).1 (fun e => ne e.symm)).trans s1, heap_setCell_same _ _ 0 _ 77 _ t5, ⟨row_only r1 o2 (fun k hk e => by subst e; exact row_tag r1 t5 (by decide) hk), m1.only o2 (mrw_tag m1 t5 (by decide)), Nat.zero_le _⟩, f1.only o2 (mrw_tag f1 t5 (by decide)), d1.trans (o2.toBelow d1.size (fun k hk => by rw [hk]; exact a5))⟩
def endL (Ed : List EdT) (Fi Bg : List Int) (p s : Nat) : List Int := if (toL (fromL Ed p (s : Int))).any (fun x => finB Fi x.toNat) then toL (fromL Ed p (s : Int)) ++ Bg else toL (fromL Ed p (s : Int))
def celL (Ed : List EdT) (Fi Bg : List Int) (p s : Nat) : List EdT := (riseL (endL Ed Fi Bg p s)).map fun q => ((p : Int), (s : Int), q)
def rowL (Ed : List EdT) (Fi Bg : List Int) (p k : Nat) : List EdT := (List.range k).flatMap (celL Ed Fi Bg p)
def brL (Ed : List EdT) (Fi Bg : List Int) (m p : Nat) : List EdT := (List.range p).flatMap (fun q => rowL Ed Fi Bg q m)
theorem rowL_next (Ed : List EdT) (Fi Bg : List Int) (p k : Nat) : rowL Ed Fi Bg p (k + 1) = rowL Ed Fi Bg p k ++ celL Ed Fi Bg p k := by simp [rowL, List.range_succ]
theorem brL_next (Ed : List EdT) (Fi Bg : List Int) (m p : Nat) : brL Ed Fi Bg m (p + 1) = brL Ed Fi Bg m p ++ rowL Ed Fi Bg p m := by simp [brL, List.range_succ]
theorem rowL_le (Ed : List EdT) (Fi Bg : List Int) (p : Nat) {k j : Nat} (h : k ≤ j) : (rowL Ed Fi Bg p k).length ≤ (rowL Ed Fi Bg p j).length := by
 induction h with
 | refl => exact Nat.le_refl _
 | step h ih => rw [rowL_next, List.length_append]; omega
theorem brL_le (Ed : List EdT) (Fi Bg : List Int) (m : Nat) {k j : Nat} (h : k ≤ j) : (brL Ed Fi Bg m k).length ≤ (brL Ed Fi Bg m j).length := by
 induction h with
 | refl => exact Nat.le_refl _
 | step h ih => rw [brL_next, List.length_append]; omega
theorem brL_part (Ed : List EdT) (Fi Bg : List Int) (m N : Nat) {p k : Nat} (hp : p < N) (hk : k ≤ m) : (brL Ed Fi Bg m p ++ rowL Ed Fi Bg p k).length ≤ (brL Ed Fi Bg m N).length := by
 have h1 := brL_le Ed Fi Bg m (show p + 1 ≤ N from hp)
 have h2 := rowL_le Ed Fi Bg p hk
 rw [brL_next, List.length_append] at h1
 rw [List.length_append]
 omega
theorem endL_len (Ed : List EdT) (Fi Bg : List Int) (p s : Nat) : (endL Ed Fi Bg p s).length ≤ Ed.length + Bg.length := by
 have h : (fromL Ed p (s : Int)).length ≤ Ed.length := List.length_filter_le _ _
 unfold endL
 split
 · rw [List.length_append, toL_len]; omega
 · rw [toL_len]; omega
theorem wpList_appL {ops : Array Oper} {rest : List Oper} {o : Oper} {a : Act} {Q : Exit → Act → World → Prop} {w : World} (hgd : o.guard = none) (s x : Operand)
 (ho : o.op = .call { callee := .builtin .append, args := #[s, x], argTypes := #[22, 22] }) (B : Nat) (v : Value) (X : List Int) (hs : a.eval s = v) (hown : w.ownsRow B 3 1 v X.length (X.map (Value.int .i64))) (ao : Option Addr) (n c : Nat) (Y : List Int) (hn : Y.length = n) (hz : ao = none → c = 0) (hx : a.eval x = .slice ao n c) (hr : RdN w ao Y) (hl : X.length + Y.length ≤ 16777216) (hB : B ≤ w.heap.size)
 (h : ∀ v' w', Hid (w'.ownsRow B 3 1 v' (X ++ Y).length ((X ++ Y).map (Value.int .i64))) → Hid (Only w w' (fun k => v.ownBlock = some k)) → wpList Tryz.prog ops Q rest (a.put o.dst v') w') : wpList Tryz.prog ops Q (o :: rest) a w := by
 obtain ⟨i3, hi3, hz30, hz31, hz32⟩ := info_parts info3
 subst hn
 cases ao with
 | none =>
  obtain rfl : Y = [] := by
   cases Y with
   | nil => rfl
   | cons y Y => obtain ⟨g, o, e, _⟩ := hr 0 (by simp); cases e
  obtain rfl := hz rfl
  refine wpList_append_own_none hgd s x 22 ho B 3 i3 1 Tryz.underlying22 hi3 v X.length (X.map (Value.int .i64)) hs hown hx ?_
  exact h v w (hide (by rw [List.append_nil]; exact hown)) (hide (Only.ofBelow (Below.refl _ _)))
 | some ad =>
  refine wpList_append_own _ hgd s x 22 ho B 3 i3 _ 1 8 Tryz.underlying22 hi3 hz30 hz31 hz32 rfl (by omega) v X.length (X.map (Value.int .i64)) hs hown ad Y.length c (Y.map (Value.int .i64)) hx (by simp) (fun j u hu => ?_) (by simp [Value.oneCell']) (by unfold maxLen; omega) (by omega) hB ?_
  · have hj : j < Y.length := by
     have := (List.getElem?_eq_some_iff.1 hu).1
     simpa using this
    obtain ⟨g, o, e, q⟩ := hr j hj
    cases e
    rw [Addr.add_lit, q]
    rw [List.getElem?_map, List.getElem?_eq_getElem hj] at hu
    exact hu
  · intro v2 w2 h2 hgr _
    exact h v2 w2 (hide (by rw [List.map_append, List.length_append]; exact h2)) (hide (grown_only hgr))
structure BrI (wx : World) (E : List EdT) (v : Value) (wr : World) : Prop where
 ow : wr.ownsRow wx.heap.size 61 3 v E.length (E.flatMap encE)
 be : Below wx.heap.size wx wr
 le : E.length ≤ 65536
theorem celL_led (E : List EdT) (Ed : List EdT) (Fi Bg : List Int) (p s : Nat) : ledL E (p : Int) (s : Int) (riseL (endL Ed Fi Bg p s)) = E ++ celL Ed Fi Bg p s := rfl
def BrP (w : World) (E : List EdT) (e : Ending) (w' : World) : Prop :=
 if 65536 < E.length then e = .returned (.tuple #[.slice none 0 0, .int .i64 8]) ∧ Below w.heap.size w w'
 else ∃ v, e = .returned (.tuple #[v, .int .i64 0]) ∧ w'.ownsRow w.heap.size 61 3 v E.length (E.flatMap encE) ∧ Below w.heap.size w w'
theorem brP_big {w w' : World} {E : List EdT} {e : Ending} (h : 65536 < E.length) (he : e = .returned (.tuple #[.slice none 0 0, .int .i64 8])) (d : Below w.heap.size w w') : BrP w E e w' := by
 unfold BrP
 rw [if_pos h]
 exact ⟨he, d⟩
theorem brP_ok {w w' : World} {E : List EdT} {e : Ending} {v : Value} (h : E.length ≤ 65536) (he : e = .returned (.tuple #[v, .int .i64 0])) (o : w'.ownsRow w.heap.size 61 3 v E.length (E.flatMap encE)) (d : Below w.heap.size w w') : BrP w E e w' := by
 unfold BrP
 rw [if_neg (by omega)]
 exact ⟨v, he, o, d⟩
theorem bridged_any (w : World) (N m n1 n2 n3 : Nat) (a1 a2 a3 aB : Option Addr) (c1 c2 c3 nB cB : Nat) (Ed : List EdT) (Fi Bg : List Int) (e2 : Fi.length = n2) (e3 : Ed.length = n3) (eB : Bg.length = nB) (zB : aB = none → cB = 0) (hN : N ≤ 4096) (hm : m ≤ 128) (hE : Hid (RdE w a3 Ed)) (hfi : Hid (RdN w a2 Fi)) (hBg : Hid (RdN w aB Bg)) (h2 : n2 ≤ 2000000) (h3 : n3 ≤ 2000000) (hB : nB ≤ 2000000) (hS : Hid (SsE Ed)) (hF : Hid (∀ e ∈ Ed, (0 ≤ e.1 ∧ e.1 < (N : Int)) ∧ (0 ≤ e.2.1 ∧ e.2.1 < (m : Int)) ∧ (0 ≤ e.2.2 ∧ e.2.2 < (N : Int)))) (hG : Hid (∀ x ∈ Fi, ∃ q : Nat, q < N ∧ x = (q : Int))) :
 Calls Tryz.prog 82 #[.agg #[.int .i64 (N : Int), .int .i64 (m : Int), .slice a1 n1 c1, .slice a2 n2 c2, .slice a3 n3 c3], .slice aB nB cB] w fun e w' => BrP w (brL Ed Fi Bg m N) e w' := by
 obtain ⟨R, hR⟩ : ∃ R, N * m = R := ⟨_, rfl⟩
 have hRl : R ≤ 524288 := by rw [← hR]; exact Nat.le_trans (Nat.mul_le_mul hN hm) (by decide)
 obtain ⟨W0, hW0⟩ : ∃ W0, w.alloc (.cells #[.int .i64 (N : Int), .int .i64 (m : Int), .slice a1 n1 c1, .slice a2 n2 c2, .slice a3 n3 c3] 25) = W0 := ⟨_, rfl⟩
 have HD : Hid (W0.heap[w.heap.size]? = some (.cells #[.int .i64 (N : Int), .int .i64 (m : Int), .slice a1 n1 c1, .slice a2 n2 c2, .slice a3 n3 c3] 25 (0, 0)) ∧ Below w.heap.size w W0 ∧ W0.heap.size = w.heap.size + 1) := hide (by rw [← hW0]; exact ⟨World.alloc_heap_new _ _, (Below.refl _ _).alloc (Nat.le_refl _) _, by simp⟩)
 have TR : Hid (∀ W : World, Below W0.heap.size W0 W → Calls Tryz.prog 89 #[.agg #[.int .i64 (N : Int), .int .i64 (m : Int), .slice a1 n1 c1, .slice a2 n2 c2, .slice a3 n3 c3]] W fun e w' => ∃ aE cE g, e = .returned (.agg #[.int .i64 (m : Int), .slice aE n3 cE, .slice (some ⟨g, 0, none⟩) (R + 1) (R + 1)]) ∧ Hid (RwA W.heap.size w' m R Ed aE n3 cE g) ∧ Below W.heap.size W w') := hide (fun W d => by
  have q := newRows_any W N m a1 a2 a3 n1 n2 c1 c2 c3 Ed hN hm (hide (hE.out.on (HD.out.2.1.trans (d.mono HD.out.2.1.size)))) (by omega) (hide (fun e he => ⟨(hF.out e he).1, (hF.out e he).2.1⟩))
  rw [hR, e3] at q
  exact q)
 have TF : Hid (∀ W : World, Below W0.heap.size W0 W → Calls Tryz.prog 93 #[.agg #[.int .i64 (N : Int), .int .i64 (m : Int), .slice a1 n1 c1, .slice a2 n2 c2, .slice a3 n3 c3]] W fun e w' => ∃ gf, e = .returned (.slice (some ⟨gf, 0, none⟩) N N) ∧ Hid (Mrw w' gf 4 N (fun c => .bool (finB Fi c)) N ∧ W.heap.size ≤ gf) ∧ Below W.heap.size W w') := hide (fun W d => by
  have q := finals_any W N (m : Int) a1 a2 a3 c1 c2 c3 n1 n3 Fi (hide (hfi.out.on (HD.out.2.1.trans (d.mono HD.out.2.1.size)))) hG (by omega) (by omega)
  rw [e2] at q
  exact q)
 have HR := hide hR
 have HL := hide (And.intro e2 (And.intro e3 eB))
 clear hR e2 e3 eB
 go_enter Tryz.func82, Tryz.ntmps82
 go_upto_region 1 with fail
 go_cut [6, 7] from 6 to 15 (fun v6 v7 W => ∃ p6 p7 aE cE g gf, v6 = .pointer (some ⟨p6, 0, none⟩) ∧ v7 = .pointer (some ⟨p7, 0, none⟩) ∧ Hid (BrA W0 W N m R n3 Ed Fi p6 p7 aE cE g gf))
 case first =>
  have hmo : MonIL 0 [vI 0 (.agg #[.int .i64 (N : Int), .int .i64 (m : Int), .slice a1 n1 c1, .slice a2 n2 c2, .slice a3 n3 c3]), pI 1 (rwsP m R n3 Ed), vI 2 (.agg #[.int .i64 (N : Int), .int .i64 (m : Int), .slice a1 n1 c1, .slice a2 n2 c2, .slice a3 n3 c3]), pI 3 (finP N Fi), pI 4 (b3P), pI 5 (b1P)] := ⟨vI_mono _ _, pI_mono rwsP_mono, vI_mono _ _, pI_mono finP_mono, pI_mono b3P_mono, pI_mono b1P_mono, trivial⟩
  refine wp_region_sl _ (by kernel_rfl) (by kernel_rfl) (by kernel_rfl) (by kernel_rfl) hmo ⟨?o0, ?o1, ?o2, ?o3, ?o4, ?o5, trivial⟩ ?fin
  case o0 | o2 =>
   intro At yy W hy hb d hd K hK
   obtain ⟨s2, s2'⟩ := zsb (hb 2 rfl : _ = .pointer (some ⟨w.heap.size, 0, none⟩))
   clear hd hy hb
   have bx := blk_on HD.out.1 d
   obtain ⟨y0, y1, y2, y3, y4⟩ := zd5 bx rfl rfl rfl rfl rfl
   clear bx
   go_simp
   exact zkq hK hmo d (if_pos rfl)
  case o1 =>
   intro At yy W hy hb d hd K hK
   obtain ⟨s12, s12'⟩ := zsg 0 12 .data hy hd rfl
   clear hd hy hb
   go_simp
   go_wp2_with (go_at_call 89; refine (TR.out _ d).mono ?_; rintro e wa ⟨aE, cE, g, rfl, hR, da⟩)
   exact hK.out _ wa (stp_of hmo d da) ⟨aE, cE, g, if_pos rfl, hR.out.down⟩
  case o3 =>
   intro At yy W hy hb d hd K hK
   obtain ⟨s14, s14'⟩ := zsg 2 14 .data hy hd rfl
   clear hd hy hb
   go_simp
   go_wp2_with (go_at_call 93; refine (TF.out _ d).mono ?_; rintro e wa ⟨gf, rfl, hR, da⟩)
   exact hK.out _ wa (stp_of hmo d da) ⟨gf, if_pos rfl, hR.out.1⟩
  case o4 | o5 =>
   intro At yy W hy hb d hd K hK
   clear hd hy hb
   go_simp
   exact hK.out _ _ (stp_of hmo d ((Below.refl _ _).alloc (Nat.le_refl _) _)) ⟨if_pos rfl, by simp, World.alloc_heap_new _ _⟩
  case fin =>
   intro yy lo hi W hM
   show wpList _ _ _ [_, _] _ _
   have e0 := hM.v 0 (by simp) rfl rfl rfl
   have e2 := hM.v 2 (by simp) rfl rfl rfl
   obtain ⟨aE, cE, g, e1, z1⟩ := hM.fact 1 (by simp) rfl (notR_all 1 rfl)
   obtain ⟨gf, e3, z3⟩ := hM.fact 3 (by simp) rfl (notR_all 3 rfl)
   obtain ⟨e4, l4, z4⟩ := hM.fact 4 (by simp) rfl (notR_all 4 rfl)
   obtain ⟨e5, l5, z5⟩ := hM.fact 5 (by simp) rfl (notR_all 5 rfl)
   have dd := hM.d
   have a4 := hM.at' 4 (by simp) rfl
   have a5 := hM.at' 5 (by simp) rfl
   simp only [fills, Act.put, List.take, List.length, List.setIfInBounds_toArray, List.set_cons_zero, List.set_cons_succ, e0, e2, e1, e3, e4, e5]
   generalize lo 4 = p6 at z4 a4 l4 ⊢
   generalize lo 5 = p7 at z5 a5 l5 ⊢
   clear hM hmo e0 e2 e1 e3 e4 e5
   have HF := hide (brA_of (m := m) z1 z3 z4 z5 dd a4.1 a5.1)
   clear z1 z3 dd
   have ne : p6 ≠ p7 := fun e => by rw [e, z5] at z4; cases z4
   obtain ⟨o0, o1, o2⟩ := zd3 z4 rfl rfl rfl
   have f0 : W.frozen? ⟨p6, 0, none⟩ = false := fz_of z4
   have f1 : W.frozen? ⟨p6, 1, none⟩ = false := fz_of z4
   have f2 : W.frozen? ⟨p6, 2, none⟩ = false := fz_of z4
   have q0 : W.cell? ⟨p7, 0, none⟩ = some (.slice none 0 0) := cell_of z5 rfl
   have g0 : W.frozen? ⟨p7, 0, none⟩ = false := fz_of z5
   clear z4 z5
   go_wp2_with fail
   go_meet
   exact ⟨p6, p7, aE, cE, g, gf, rfl, rfl, HF⟩
 case rest =>
  obtain ⟨p6, p7, aE, cE, g, gf, rfl, rfl, HA⟩ := hcut
  rename World => wx
  have y0 : wx.cell? ⟨w.heap.size, 0, none⟩ = some (.int .i64 (N : Int)) := cell_of (blk_on HD.out.1 HA.out.be) rfl
  have H0 : Hid (BrI wx (brL Ed Fi Bg m 0) (.slice none 0 0) wx) := hide ⟨World.ownsRow_nil _ _ _ _, Below.refl _ _, Nat.zero_le _⟩
  clear TR TF
  go_wp2_with fail
  clear y0
  go_loopw [8, 18] (fun v8 v18 wr => ∃ p : Nat, p ≤ N ∧ v18 = .int .i64 (p : Int) ∧ Hid (BrI wx (brL Ed Fi Bg m p) v8 wr)) (fun _ v18 _ => N - (intOf v18).toNat)
  case atStart => exact ⟨0, Nat.zero_le _, rfl, H0⟩
  case round =>
   obtain ⟨p, hp, rfl, HY⟩ := hrel
   clear H0
   by_cases hpl : p < N
   · have i0 : (p : Int) < (N : Int) := by omega
     have y1 : wr.cell? ⟨w.heap.size, 1, none⟩ = some (.int .i64 (m : Int)) := cell_of (blk_on HD.out.1 (HA.out.on HY.out.be).be) rfl
     rename World => wo
     have H1 : Hid (BrI wx (brL Ed Fi Bg m p ++ rowL Ed Fi Bg p 0) u8 wo) := hide (by
      have q := HY.out
      rw [show rowL Ed Fi Bg p 0 = [] from rfl, List.append_nil]
      exact q)
     clear HY
     go_wp2_with fail
     clear y1
     go_loopw [8, 23] (fun v8 v23 wr => ∃ s : Nat, s ≤ m ∧ v23 = .int .i64 (s : Int) ∧ Hid (BrI wx (brL Ed Fi Bg m p ++ rowL Ed Fi Bg p s) v8 wr)) (fun _ v23 _ => m - (intOf v23).toNat)
     case atStart => exact ⟨0, Nat.zero_le _, rfl, H1⟩
     case round =>
      obtain ⟨s, hs, rfl, HI⟩ := hrel
      clear H1
      by_cases hsl : s < m
      · have j0 : (s : Int) < (m : Int) := by omega
        obtain ⟨k, hk⟩ : ∃ k, p * m + s = k := ⟨_, rfl⟩
        have hkR : k < R := by
         rw [← hk, ← HR.out]
         have : (p + 1) * m ≤ N * m := Nat.mul_le_mul_right _ hpl
         rw [Nat.add_mul, Nat.one_mul] at this
         omega
        have HAr := hide (HA.out.on HI.out.be)
        obtain ⟨z0, z1, z2⟩ := zd3 HAr.out.b6 rfl rfl rfl
        have TO := of_any wr 0 m R p s n3 k aE cE g Ed HL.out.2.1 (hide HAr.out.rw) hS (hide (fun e he => (hF.out e he).2.1)) hsl hk hkR hRl (by omega)
        have HFr : Hid ((∀ x ∈ toL (fromL Ed p (s : Int)), ∃ q : Nat, q < N ∧ x = (q : Int)) ∧ (fromL Ed p (s : Int)).length ≤ n3) := hide ⟨fun x hx => by
         obtain ⟨e, he, rfl⟩ := List.mem_map.1 hx
         have q := (hF.out e (List.mem_filter.1 he).1).2.2
         obtain ⟨t, ht⟩ := Int.eq_ofNat_of_zero_le q.1
         exact ⟨t, by omega, ht⟩, by rw [← HL.out.2.1]; exact List.length_filter_le _ _⟩
        have HEn : Hid (endL Ed Fi Bg p s = if (toL (fromL Ed p (s : Int))).any (fun x => finB Fi x.toNat) then toL (fromL Ed p (s : Int)) ++ Bg else toL (fromL Ed p (s : Int))) := hide rfl
        have HTL := hide (toL_len (fromL Ed p (s : Int)))
        have HKK := hide (And.intro hk hkR)
        clear hk hkR
        generalize toL (fromL Ed p (s : Int)) = X at TO HFr HEn HTL
        generalize (fromL Ed p (s : Int)).length = nf at TO HFr HTL
        have hnf : nf ≤ 2000000 := by have := HFr.out.2; omega
        obtain ⟨y, hy⟩ : ∃ y, X.any (fun x => finB Fi x.toNat) = y := ⟨_, rfl⟩
        rw [hy] at HEn
        have HYY := hide hy
        clear hy
        go_wp2_with (go_at_call 96; refine TO.mono ?_; rintro e w1 ⟨ao, co, rfl, H1⟩)
        clear TO z0 z1 z2
        have T62 := clone_own w1 ao nf co X HTL.out (hide (H1.out.1.on H1.out.2.2)) (by omega)
        go_wp2_with (go_at_call 62; refine T62.mono ?_; rintro e w2 ⟨v2, rfl, H2⟩; obtain ⟨b2, d2, rfl⟩ := own_slice H2.out.1)
        clear T62
        have HB2 : Hid (Below wr.heap.size wr w2) := hide (H1.out.2.2.trans (H2.out.2.mono H1.out.2.2.size))
        have T52 := cont122 w2 b2 d2 X p7 gf N (finB Fi) (hide (cell_of (blk_on HAr.out.b7 HB2.out) rfl)) (hide (HAr.out.fi.below HB2.out HAr.out.fi.lt)) (hide HFr.out.1) (hide (own_rdN (c := d2) (by rw [HTL.out]; exact H2.out.1))) (by rw [HTL.out]; omega)
        rw [HTL.out, HYY.out] at T52
        have G3 : Hid (∀ w3, Below w2.heap.size w2 w3 → w3.ownsRow wx.heap.size 3 1 (.slice b2 nf d2) nf (X.map (Value.int .i64)) ∧ Below wr.heap.size wr w3 ∧ wx.heap.size ≤ w3.heap.size) := hide (fun w3 d3 => by
         have q1 := HI.out.be.size
         have q2 := H1.out.2.2.size
         have q3 := HB2.out.size
         have q4 := d3.size
         exact ⟨owns_down (own_below H2.out.1 d3) (by omega), HB2.out.trans (d3.mono q3), by omega⟩)
        clear H1 HAr
        obtain ⟨E, hE'⟩ : ∃ E, brL Ed Fi Bg m p ++ rowL Ed Fi Bg p s = E := ⟨_, rfl⟩
        have HEE : Hid (brL Ed Fi Bg m p ++ rowL Ed Fi Bg p (s + 1) = ledL E (p : Int) (s : Int) (riseL (endL Ed Fi Bg p s)) ∧ (brL Ed Fi Bg m p ++ rowL Ed Fi Bg p (s + 1)).length ≤ (brL Ed Fi Bg m N).length) := hide ⟨by rw [celL_led, ← hE', rowL_next, List.append_assoc], brL_part Ed Fi Bg m N hpl hsl⟩
        rw [hE'] at HI
        clear hE'
        have HEL : Hid ((endL Ed Fi Bg p s).length ≤ 4194304) := hide (by have q := endL_len Ed Fi Bg p s; have := HL.out; omega)
        generalize endL Ed Fi Bg p s = Z at HEn HEE HEL
        have GI : Hid (∀ w3, Below wr.heap.size wr w3 → w3.ownsRow wx.heap.size 61 3 u8 E.length (E.flatMap encE) ∧ Below wx.heap.size wx w3) := hide (fun w3 d => ⟨own_below HI.out.ow d, HI.out.be.trans (d.mono HI.out.be.size)⟩)
        have HIl := hide HI.out.le
        clear HI HFr HB2 H2
        obtain ⟨E2, hE2⟩ : ∃ E2, brL Ed Fi Bg m p ++ rowL Ed Fi Bg p (s + 1) = E2 := ⟨_, rfl⟩
        rw [hE2] at HEE
        have HE2 := hide hE2
        clear hE2
        have key : ∀ (v4 : Value) (w4 : World), Hid (w4.ownsRow wx.heap.size 3 1 v4 Z.length (Z.map (Value.int .i64))) → Hid (w4.ownsRow wx.heap.size 61 3 u8 E.length (E.flatMap encE)) → Hid (Below wx.heap.size wx w4) → Calls Tryz.prog 123 #[u8, .int .i64 (p : Int), .int .i64 (s : Int), v4] w4 fun e w' => ∃ b5 d5, e = .returned (.slice b5 E2.length d5) ∧ Hid (w'.ownsRow wx.heap.size 61 3 (.slice b5 E2.length d5) E2.length (E2.flatMap encE) ∧ Below wx.heap.size wx w') := fun v4 w4 o1 o2 o3 => by
         refine (lead_any w4 wx.heap.size u8 v4 E (p : Int) (s : Int) Z.length Z rfl o2 o1 o3.out.size HEL.out (by have := HIl.out; omega)).mono ?_
         rintro e w5 ⟨v5, rfl, H5⟩
         rw [HEE.out.1]
         obtain ⟨b5, d5, rfl⟩ := own_slice H5.out.1
         exact ⟨b5, d5, rfl, hide ⟨H5.out.1, o3.out.trans H5.out.2⟩⟩
        have HK2 := hide key
        clear key
        have HZ := hide HEE.out.2
        clear HEE HEL
        cases y with
        | true =>
         obtain rfl := HTL.out
         go_wp2_with (first
          | (go_at_call 52; refine T52.mono ?_; rintro e w3 ⟨rfl, d3⟩; have H3 := hide (G3.out w3 d3); have HI3 := hide (GI.out w3 H3.out.2.1); clear d3)
          | (at_builtin; refine wpList_appL rfl _ _ rfl wx.heap.size (.slice b2 X.length d2) X rfl H3.out.1 aB nB cB Bg HL.out.2.2 zB rfl (hBg.out.on (HD.out.2.1.trans ((HA.out.be.trans (HI3.out.2.mono HA.out.be.size)).mono HD.out.2.1.size))) (by have := HL.out.2.2; omega) H3.out.2.2 ?_; intro v4 w4 HO4 HG4))
         have T := HK2.out v4 w4 (hide (by rw [HEn.out]; exact HO4.out)) (hide (row_only HI3.out.1 HG4.out (fun k hk hk2 => rows_differ HI3.out.1 H3.out.1 (by decide) hk hk2))) (hide (HI3.out.2.trans (HG4.out.toBelow H3.out.2.2 (fun k hk => (H3.out.1.lt k hk).1))))
         by_cases hbig : 65536 < E2.length
         · have jb : (65536 : Int) < (E2.length : Int) := by omega
           go_wp2_with (go_at_call 123; refine T.mono ?_; rintro e w5 ⟨b5, d5, rfl, H5⟩)
           refine bodyPost_ret (results_tmp2 rfl _ _ _) rfl ?_
           refine brP_big (Nat.lt_of_lt_of_le hbig HZ.out) rfl ?_
           have q := HA.out.be.trans (H5.out.2.mono HA.out.be.size)
           exact HD.out.2.1.trans (q.mono HD.out.2.1.size)
         · have jb : ¬ (65536 : Int) < (E2.length : Int) := by omega
           go_wp2_with (go_at_call 123; refine T.mono ?_; rintro e w5 ⟨b5, d5, rfl, H5⟩)
           refine ⟨⟨s + 1, by omega, by go_num, hide (by rw [HE2.out]; exact ⟨H5.out.1, H5.out.2, by omega⟩)⟩, by simp [intOf]; omega⟩
        | false =>
         go_wp2_with (go_at_call 52; refine T52.mono ?_; rintro e w3 ⟨rfl, d3⟩; have H3 := hide (G3.out w3 d3); have HI3 := hide (GI.out w3 H3.out.2.1); clear d3)
         have T := HK2.out (.slice b2 nf d2) w3 (hide (by rw [HEn.out, if_neg (by decide), HTL.out]; exact H3.out.1)) (hide HI3.out.1) (hide HI3.out.2)
         by_cases hbig : 65536 < E2.length
         · have jb : (65536 : Int) < (E2.length : Int) := by omega
           go_wp2_with (go_at_call 123; refine T.mono ?_; rintro e w5 ⟨b5, d5, rfl, H5⟩)
           refine bodyPost_ret (results_tmp2 rfl _ _ _) rfl ?_
           refine brP_big (Nat.lt_of_lt_of_le hbig HZ.out) rfl ?_
           have q := HA.out.be.trans (H5.out.2.mono HA.out.be.size)
           exact HD.out.2.1.trans (q.mono HD.out.2.1.size)
         · have jb : ¬ (65536 : Int) < (E2.length : Int) := by omega
           go_wp2_with (go_at_call 123; refine T.mono ?_; rintro e w5 ⟨b5, d5, rfl, H5⟩)
           refine ⟨⟨s + 1, by omega, by go_num, hide (by rw [HE2.out]; exact ⟨H5.out.1, H5.out.2, by omega⟩)⟩, by simp [intOf]; omega⟩
      · obtain rfl : m = s := by omega
        have j0 : ¬ (m : Int) < (m : Int) := by omega
        have HN : Hid (BrI wx (brL Ed Fi Bg m (p + 1)) u8 wr) := hide (by rw [brL_next]; exact HI.out)
        clear HI
        go_wp2_with fail
        refine ⟨⟨p + 1, by omega, by go_num, HN⟩, by simp [intOf]; omega⟩
   · obtain rfl : N = p := by omega
     have i0 : ¬ (N : Int) < (N : Int) := by omega
     go_wp2_with fail
     refine bodyPost_ret (results_tmp2 rfl _ _ _) rfl ?_
     have q := HA.out.be.trans (HY.out.be.mono HA.out.be.size)
     have s1 := HD.out.2.2
     have s2 := HA.out.be.size
     exact brP_ok HY.out.le rfl (owns_down HY.out.ow (by omega)) (HD.out.2.1.trans (q.mono HD.out.2.1.size))
def movN (L : List Int) (b : Int) : List Int := L.map (· + b)
theorem movN_len (L : List Int) (b : Int) : (movN L b).length = L.length := by simp [movN]
theorem mrw_row {W : World} {B H n : Nat} {K : List Int} (h : Mrw W H 3 n (fun c => .int .i64 (K.getD c 0)) n) (hK : K.length = n) (hB : B ≤ H) (hn : n ≤ maxLen) : W.ownsRow B 3 1 (.slice (some ⟨H, 0, none⟩) n n) n (K.map (Value.int .i64)) := by
 obtain ⟨cur, h1, h2, h3⟩ := h
 refine ⟨by simp [hK], .inr ⟨H, n, cur, rfl, hB, h1, Nat.le_refl _, hn, by omega, ?_⟩⟩
 rw [Nat.mul_one, List.take_of_length_le (by simp; omega)]
 apply List.ext_getElem?
 intro j
 by_cases hj : j < n
 · rw [Array.getElem?_toList, h3 j hj, List.getElem?_map, List.getElem?_eq_getElem (by omega)]
   simp [List.getD, List.getElem?_eq_getElem (show j < K.length by omega)]
 · rw [List.getElem?_eq_none (by simp; omega), List.getElem?_eq_none (by simp; omega)]
theorem movedS_any (w : World) (ao : Option Addr) (n c : Nat) (L : List Int) (b : Int) (hn : L.length = n) (hA : Hid (RdN w ao L)) (hl : n ≤ 4194304) (hb : 0 ≤ b ∧ b ≤ 4194304) (hin : Hid (∀ x ∈ L, 0 ≤ x ∧ x ≤ 4194304)) :
 Calls Tryz.prog 84 #[.slice ao n c, .int .i64 b] w fun e w' => ∃ g, e = .returned (.slice (some ⟨g, 0, none⟩) n n) ∧ Hid (w'.ownsRow w.heap.size 3 1 (.slice (some ⟨g, 0, none⟩) n n) n ((movN L b).map (Value.int .i64)) ∧ Below w.heap.size w w') := by
 have HN := hide hn
 clear hn
 obtain ⟨i9, hi9, hz90, hz91, hz92⟩ := info_parts info3
 go_enter Tryz.func84, Tryz.ntmps84
 go_upto_region 2 with (at_make; refine wpList_make_full _ rfl _ _ 22 rfl w.heap.size 3 i9 (.int .i64 0) 1 Tryz.underlying22 hi9 hz90 hz91 _ _ _ _ n rfl rfl (by go_num) (by go_num) (by rw [hz92]; omega) (by unfold maxLen; omega) (Nat.le_refl _) ?_; intro w6 ho hg)
 have D6 : Below w.heap.size w w6 := (Below.refl _ _).grown hg (Nat.le_refl _) (by intro k hk; cases hk)
 have M6 : Mrw w6 w.heap.size 3 n (fun c => .int .i64 ((movN L b).getD c 0)) 0 := by
  have q := Mrw.ofRow (fun c => .int .i64 ((movN L b).getD c 0)) ho
  rw [Nat.mul_one] at q
  exact q
 have H6 := hide (And.intro M6 D6)
 clear ho hg D6 M6
 go_wp2_with fail
 go_loopw [13] (fun iv wr => ∃ i : Nat, i ≤ n ∧ iv = .int .i64 (i : Int) ∧ Hid (Mrw wr w.heap.size 3 n (fun c => .int .i64 ((movN L b).getD c 0)) i ∧ Below w.heap.size w wr)) (fun iv _ => n - (intOf iv).toNat)
 case atStart => exact ⟨0, Nat.zero_le _, rfl, H6⟩
 case round =>
  obtain ⟨i, hi, rfl, HY⟩ := hrel
  clear H6
  by_cases hlt : i < n
  · have l0 : (i : Int) < (n : Int) := by omega
    have i0 : (0 : Int) ≤ (i : Int) := by omega
    have hil : i < L.length := by have := HN.out; omega
    obtain ⟨g, o, ea, ca⟩ := (hA.out.on HY.out.2) i hil
    subst ea
    have hx := hin.out _ (List.getElem_mem hil)
    have HV : Hid ((movN L b).getD i 0 = L[i] + b) := hide (by simp [movN, List.getD, List.getElem?_eq_getElem hil])
    generalize L[i] = x at ca hx HV
    have ew : IntKind.i64.wrap (x + b) = x + b := by rw [IntKind.wrap_i64]; omega
    obtain ⟨u, cu⟩ := HY.out.1.cell i hlt
    have zu := HY.out.1.fz i
    have J : Hid (Mrw (wr.setCell ⟨w.heap.size, i, none⟩ (.int .i64 (x + b))) w.heap.size 3 n (fun c => .int .i64 ((movN L b).getD c 0)) (i + 1) ∧ Below w.heap.size w (wr.setCell ⟨w.heap.size, i, none⟩ (.int .i64 (x + b)))) := hide ⟨HY.out.1.put hlt _ (by rw [HV.out]), HY.out.2.setCell (Nat.le_refl _) _⟩
    clear HY
    go_wp2_with fail
    go_roundw
    case rel => exact ⟨i + 1, by omega, by go_num, J⟩
    case measure => simp [intOf]; omega
  · have l0 : ¬ (i : Int) < (n : Int) := by omega
    obtain rfl : i = n := by omega
    have J := hide (And.intro (mrw_row HY.out.1 ((movN_len L b).trans HN.out) (Nat.le_refl _) (by unfold maxLen; omega)) HY.out.2)
    clear HY
    go_wp2_with fail
    go_ret
    exact ⟨_, rfl, J⟩
def rdEP (X : List EdT) : MkP := fun x _ _ W => ∃ b c, x = .slice b X.length c ∧ RdE W b X
theorem rdEP_mono {X : List EdT} : MonoP (rdEP X) := fun _ _ _ _ _ _ d ⟨b, c, e, o⟩ => ⟨b, c, e, o.on d⟩
def ownE (B : Nat) (X : List EdT) : MkP := fun x _ _ W => W.ownsRow B 61 3 x X.length (X.flatMap encE)
theorem ownE_mono {B : Nat} {X : List EdT} : MonoP (ownE B X) := fun _ _ _ _ _ _ d h => own_below h d
theorem mrg_mem : ∀ (A B : List EdT) (x : EdT), x ∈ mrgE A B ↔ x ∈ A ∨ x ∈ B
 | [], B, x => by simp [mrgE]
 | a :: A, [], x => by simp [mrgE]
 | a :: A, b :: B, x => by
  rw [mrgE]
  split
  · rw [List.mem_cons, mrg_mem A (b :: B), List.mem_cons (a := x) (l := A)]; exact or_assoc.symm
  · split
    · rename_i h; subst h
      rw [List.mem_cons, mrg_mem A B, List.mem_cons, List.mem_cons]
      constructor
      · rintro (h | h | h)
        · exact Or.inl (Or.inl h)
        · exact Or.inl (Or.inr h)
        · exact Or.inr (Or.inr h)
      · rintro ((h | h) | (h | h))
        · exact Or.inl h
        · exact Or.inr (Or.inl h)
        · exact Or.inl h
        · exact Or.inr (Or.inr h)
    · rw [List.mem_cons, mrg_mem (a :: A) B, List.mem_cons (a := x) (l := B)]
      constructor
      · rintro (h | h | h)
        · exact Or.inr (Or.inl h)
        · exact Or.inl h
        · exact Or.inr (Or.inr h)
      · rintro (h | h | h)
        · exact Or.inr (Or.inl h)
        · exact Or.inl h
        · exact Or.inr (Or.inr h)
termination_by A B => A.length + B.length
theorem mrg_ss : ∀ (A B : List EdT), SsE A → SsE B → SsE (mrgE A B)
 | [], B, _, hB => by simpa [mrgE] using hB
 | a :: A, [], hA, _ => by simpa [mrgE] using hA
 | a :: A, b :: B, hA, hB => by
  have hA' := List.pairwise_cons.1 hA
  have hB' := List.pairwise_cons.1 hB
  have tr : ∀ {x y z : EdT}, ltE x y = true → ltE y z = true → ltE x z = true := fun h1 h2 => by rw [ltE_iff] at h1 h2 ⊢; omega
  rw [mrgE]
  split
  · rename_i hab
    refine List.pairwise_cons.2 ⟨fun y hy => ?_, mrg_ss A (b :: B) hA'.2 hB⟩
    rcases (mrg_mem A (b :: B) y).1 hy with h | h
    · exact hA'.1 y h
    · rcases List.mem_cons.1 h with rfl | h
      · exact hab
      · exact tr hab (hB'.1 y h)
  · rename_i hab
    split
    · rename_i h; subst h
      refine List.pairwise_cons.2 ⟨fun y hy => ?_, mrg_ss A B hA'.2 hB'.2⟩
      rcases (mrg_mem A B y).1 hy with h | h
      · exact hA'.1 y h
      · exact hB'.1 y h
    · rename_i hne
      have hba : ltE b a = true := by
       cases h : ltE b a with
       | true => rfl
       | false => exact absurd (totE a b (by simpa using hab) h) hne
      refine List.pairwise_cons.2 ⟨fun y hy => ?_, mrg_ss (a :: A) B hA hB'.2⟩
      rcases (mrg_mem (a :: A) B y).1 hy with h | h
      · rcases List.mem_cons.1 h with rfl | h
        · exact hba
        · exact tr hba (hA'.1 y h)
      · exact hB'.1 y h
termination_by A B => A.length + B.length
theorem mrg_rise (A B : List EdT) : mrgE (riseE A) (riseE B) = riseE (A ++ B) :=
 ss_eq _ _ (mrg_ss _ _ (riseE_ss A) (riseE_ss B)) (riseE_ss _) fun x => by rw [mrg_mem, riseE_iff, riseE_iff, riseE_iff, List.mem_append]
theorem riseE_one {L : List EdT} (h : L.length < 2) : riseE L = L :=
 ss_eq _ _ (riseE_ss _) (by
  match L, h with
  | [], _ => exact List.Pairwise.nil
  | [x], _ => exact List.pairwise_singleton _ _) fun x => riseE_iff L x
theorem RdE.take {W : World} {ao : Option Addr} {L : List EdT} (h : RdE W ao L) (k : Nat) : RdE W ao (L.take k) := fun j hj => by
 have hj2 : j < L.length := by rw [List.length_take] at hj; omega
 obtain ⟨g, o, e, q⟩ := h j hj2
 exact ⟨g, o, e, by simpa using q⟩
theorem RdE.drop {W : World} {g o : Nat} {L : List EdT} (h : RdE W (some ⟨g, o, none⟩) L) (k : Nat) : RdE W (some ⟨g, o + k * 3, none⟩) (L.drop k) := fun j hj => by
 have hj2 : k + j < L.length := by rw [List.length_drop] at hj; omega
 obtain ⟨g', o', e, q1, q2, q3⟩ := h (k + j) hj2
 cases e
 refine ⟨g, o + k * 3, rfl, ?_⟩
 have e1 : o + k * 3 + j * 3 = o + (k + j) * 3 := by omega
 rw [e1]
 simpa using And.intro q1 (And.intro q2 q3)
theorem edgesR_any : ∀ (n : Nat) (w : World) (ao : Option Addr) (L : List EdT) (cp : Nat), L.length ≤ n → Hid (RdE w ao L) → L.length ≤ cp → L.length ≤ 4194304 →
 Calls Tryz.prog 60 #[.slice ao L.length cp] w fun e w' => ∃ b c, e = .returned (.slice b (riseE L).length c) ∧ Hid (w'.ownsRow w.heap.size 61 3 (.slice b (riseE L).length c) (riseE L).length ((riseE L).flatMap encE)) ∧ Below w.heap.size w w' := by
 intro n
 induction n with
 | zero =>
  intro w ao L cp hn hr hc hl
  have T := merge_any w ao none L [] cp 0 hr (hide fun j hj => by simp at hj) hl (by simp)
  rw [mrg_nil] at T
  have l0 : ((L.length : Nat) : Int) < 2 := by omega
  have HE : Hid (riseE L = L) := hide (riseE_one (by omega))
  go_enter Tryz.func60, Tryz.ntmps60
  go_wp2_with (go_at_call 98; refine T.mono ?_; rintro e w2 ⟨b, c, rfl, HR, d2⟩; have HD := hide d2; clear d2)
  refine bodyPost_ret (results_tmp rfl _ _ _) rfl ?_
  exact ⟨b, c, by rw [HE.out]; rfl, by rw [HE.out]; exact HR, HD.out⟩
 | succ n ih =>
  intro w ao L cp hn hr hc hl
  by_cases h2 : L.length < 2
  · have T := merge_any w ao none L [] cp 0 hr (hide fun j hj => by simp at hj) hl (by simp)
    rw [mrg_nil] at T
    have l0 : ((L.length : Nat) : Int) < 2 := by omega
    have HE : Hid (riseE L = L) := hide (riseE_one h2)
    clear ih
    go_enter Tryz.func60, Tryz.ntmps60
    go_wp2_with (go_at_call 98; refine T.mono ?_; rintro e w2 ⟨b, c, rfl, HR, d2⟩; have HD := hide d2; clear d2)
    refine bodyPost_ret (results_tmp rfl _ _ _) rfl ?_
    exact ⟨b, c, by rw [HE.out]; rfl, by rw [HE.out]; exact HR, HD.out⟩
  · obtain ⟨h, hh⟩ : ∃ h, L.length / 2 = h := ⟨_, rfl⟩
    have hpos : 0 < L.length := by omega
    obtain ⟨g, o, hao, hq0⟩ := hr.out 0 hpos
    subst hao
    clear hq0
    have h1 : h ≤ L.length := by omega
    have h3 : 1 ≤ h ∧ h + 1 ≤ L.length := by omega
    have T1 : Hid (∀ W, Below w.heap.size w W → Calls Tryz.prog 60 #[.slice (some ⟨g, o, none⟩) h cp] W fun e w' => ∃ b c, e = .returned (.slice b (riseE (L.take h)).length c) ∧ Hid (RdE w' b (riseE (L.take h))) ∧ Below W.heap.size W w') := hide (fun W d => by
     have t := ih W (some ⟨g, o, none⟩) (L.take h) cp (by rw [List.length_take]; omega) (hide ((hr.out.on d).take h)) (by rw [List.length_take]; omega) (by rw [List.length_take]; omega)
     rw [show (L.take h).length = h by rw [List.length_take]; omega] at t
     exact t.mono fun e w' ⟨b, c, he, ho, dd⟩ => ⟨b, c, he, hide (own_rdE ho.out), dd⟩)
    have T2 : Hid (∀ W, Below w.heap.size w W → Calls Tryz.prog 60 #[.slice (some ⟨g, o + h * 3, none⟩) (L.length - h) (cp - h)] W fun e w' => ∃ b c, e = .returned (.slice b (riseE (L.drop h)).length c) ∧ Hid (RdE w' b (riseE (L.drop h))) ∧ Below W.heap.size W w') := hide (fun W d => by
     have t := ih W (some ⟨g, o + h * 3, none⟩) (L.drop h) (cp - h) (by rw [List.length_drop]; omega) (hide ((hr.out.on d).drop h)) (by rw [List.length_drop]; omega) (by rw [List.length_drop]; omega)
     rw [show (L.drop h).length = L.length - h by rw [List.length_drop]] at t
     exact t.mono fun e w' ⟨b, c, he, ho, dd⟩ => ⟨b, c, he, hide (own_rdE ho.out), dd⟩)
    have T3 : Hid (∀ W b1 c1 b2 c2, Below w.heap.size w W → RdE W b1 (riseE (L.take h)) → RdE W b2 (riseE (L.drop h)) → Calls Tryz.prog 98 #[.slice b1 (riseE (L.take h)).length c1, .slice b2 (riseE (L.drop h)).length c2] W fun e w' => ∃ b c, e = .returned (.slice b (riseE L).length c) ∧ Hid (w'.ownsRow w.heap.size 61 3 (.slice b (riseE L).length c) (riseE L).length ((riseE L).flatMap encE)) ∧ Below W.heap.size W w') := hide (fun W b1 c1 b2 c2 d r1 r2 => by
     have t := merge_any W b1 b2 (riseE (L.take h)) (riseE (L.drop h)) c1 c2 (hide r1) (hide r2) (Nat.le_trans (riseE_len _) (by rw [List.length_take]; omega)) (Nat.le_trans (riseE_len _) (by rw [List.length_drop]; omega))
     rw [mrg_rise, List.take_append_drop] at t
     refine t.mono ?_
     rintro e w' ⟨b, c, he, ho, dd⟩
     exact ⟨b, c, he, hide (owns_down ho.out d.size), dd⟩)
    have l0 : ¬ ((L.length : Nat) : Int) < 2 := by omega
    have iw : IntKind.i64.wrap ((L.length : Int) / 2) = (h : Int) := by rw [IntKind.wrap_i64]; omega
    have iw2 : (L.length : Int) / 2 = (h : Int) := by omega
    have iw3 : IntKind.i64.wrap ((h : Int)) = (h : Int) := by rw [IntKind.wrap_i64]; omega
    have iw4 : (L.length : Int).tdiv 2 = (h : Int) := by rw [Int.tdiv_eq_ediv_of_nonneg (by omega)]; omega
    have c0 : (h : Int) ≤ (cp : Int) := by omega
    have c1 : (h : Int) ≤ (L.length : Int) := by omega
    have c2 : (0 : Int) ≤ (h : Int) := by omega
    have c3 : (L.length : Int) ≤ (cp : Int) := by omega
    have c4 : ¬ cp = h := by omega
    clear ih hh hpos
    go_enter Tryz.func60, Tryz.ntmps60
    go_upto_region 3 with fail
    have hmo : MonIL 0 [vI 0 (.slice (some ⟨g, o, none⟩) L.length cp), vI 1 (.slice (some ⟨g, o, none⟩) L.length cp), vI 2 (.int .i64 (L.length : Int)), vI 3 (.int .i64 (h : Int)), vI 4 (.slice (some ⟨g, o, none⟩) h cp), pI 5 (rdEP (riseE (L.take h))), vI 6 (.slice (some ⟨g, o, none⟩) L.length cp), vI 7 (.slice (some ⟨g, o, none⟩) L.length cp), vI 8 (.int .i64 (L.length : Int)), vI 9 (.int .i64 (h : Int)), vI 10 (.slice (some ⟨g, o + h * 3, none⟩) (L.length - h) (cp - h)), pI 11 (rdEP (riseE (L.drop h))), pI 12 (ownE w.heap.size (riseE L))] := ⟨vI_mono _ _, vI_mono _ _, vI_mono _ _, vI_mono _ _, vI_mono _ _, pI_mono rdEP_mono, vI_mono _ _, vI_mono _ _, vI_mono _ _, vI_mono _ _, vI_mono _ _, pI_mono rdEP_mono, pI_mono ownE_mono, trivial⟩
    refine wp_region_sl _ (by kernel_rfl) (by kernel_rfl) (by kernel_rfl) (by kernel_rfl) hmo ⟨?o0, ?o1, ?o2, ?o3, ?o4, ?o5, ?o6, ?o7, ?o8, ?o9, ?o10, ?o11, ?o12, trivial⟩ ?fin
    case o0 | o1 | o6 | o7 =>
     intro At yy W hy hb d hd K hK
     obtain ⟨s0, s0'⟩ := zsb (hb 0 rfl : _ = .slice (some ⟨g, o, none⟩) L.length cp)
     clear hd hy hb
     go_simp
     exact zkq hK hmo d (if_pos rfl)
    case o2 =>
     intro At yy W hy hb d hd K hK
     obtain ⟨s9, s9'⟩ := zsg 1 9 .data hy hd rfl
     clear hd hy hb
     go_simp
     exact zkq hK hmo d (if_pos rfl)
    case o3 =>
     intro At yy W hy hb d hd K hK
     obtain ⟨s10, s10'⟩ := zsg 2 10 .data hy hd rfl
     clear hd hy hb
     go_simp
     exact zkq hK hmo d (if_pos rfl)
    case o4 =>
     intro At yy W hy hb d hd K hK
     obtain ⟨s8, s8'⟩ := zsg 0 8 .data hy hd rfl
     obtain ⟨s11, s11'⟩ := zsg 3 11 .data hy hd rfl
     clear hd hy hb
     go_simp
     exact zkq hK hmo d (if_pos rfl)
    case o5 =>
     intro At yy W hy hb d hd K hK
     obtain ⟨s12, s12'⟩ := zsg 4 12 .data hy hd rfl
     clear hd hy hb
     go_simp
     go_wp2_with (go_at_call 60; refine (T1.out _ d).mono ?_; rintro e wa ⟨b, c, rfl, hR, da⟩)
     exact hK.out _ wa (stp_of hmo d da) ⟨b, c, if_pos rfl, hR.out⟩
    case o8 =>
     intro At yy W hy hb d hd K hK
     obtain ⟨s15, s15'⟩ := zsg 7 15 .data hy hd rfl
     clear hd hy hb
     go_simp
     exact zkq hK hmo d (if_pos rfl)
    case o9 =>
     intro At yy W hy hb d hd K hK
     obtain ⟨s16, s16'⟩ := zsg 8 16 .data hy hd rfl
     clear hd hy hb
     go_simp
     exact zkq hK hmo d (if_pos rfl)
    case o10 =>
     intro At yy W hy hb d hd K hK
     obtain ⟨s14, s14'⟩ := zsg 6 14 .data hy hd rfl
     obtain ⟨s17, s17'⟩ := zsg 9 17 .data hy hd rfl
     clear hd hy hb
     go_simp
     exact zkq hK hmo d (if_pos rfl)
    case o11 =>
     intro At yy W hy hb d hd K hK
     obtain ⟨s18, s18'⟩ := zsg 10 18 .data hy hd rfl
     clear hd hy hb
     go_simp
     go_wp2_with (go_at_call 60; refine (T2.out _ d).mono ?_; rintro e wa ⟨b, c, rfl, hR, da⟩)
     exact hK.out _ wa (stp_of hmo d da) ⟨b, c, if_pos rfl, hR.out⟩
    case o12 =>
     intro At yy W hy hb d hd K hK
     have f5 := hd ⟨5, .data⟩ (by simp) rfl rfl
     have f11 := hd ⟨11, .data⟩ (by simp) rfl rfl
     obtain ⟨_, _, _, _, b1, c1, e5, r5⟩ := f5
     obtain ⟨_, _, _, _, b2, c2, e11, r11⟩ := f11
     obtain ⟨s13, s13'⟩ := zsb ((hy 5 _ 13 rfl rfl).trans e5)
     obtain ⟨s19, s19'⟩ := zsb ((hy 11 _ 19 rfl rfl).trans e11)
     clear hd hy hb
     go_simp
     go_wp2_with (go_at_call 98; refine (T3.out _ _ _ _ _ d r5 r11).mono ?_; rintro e wa ⟨b, c, rfl, hR, da⟩)
     exact hK.out _ wa (stp_of hmo d da) (by show World.ownsRow _ _ _ _ (updV yy 12 _ 12) _ _; rw [show updV yy 12 (.slice b (riseE L).length c) 12 = .slice b (riseE L).length c from if_pos rfl]; exact hR.out)
    case fin =>
     intro yy lo hi W hM
     show wpList _ _ _ [_] _ _
     have e0 := hM.v 0 (by simp) rfl rfl rfl
     have e1 := hM.v 1 (by simp) rfl rfl rfl
     have e2 := hM.v 2 (by simp) rfl rfl rfl
     have e3 := hM.v 3 (by simp) rfl rfl rfl
     have e4 := hM.v 4 (by simp) rfl rfl rfl
     have e6 := hM.v 6 (by simp) rfl rfl rfl
     have e7 := hM.v 7 (by simp) rfl rfl rfl
     have e8 := hM.v 8 (by simp) rfl rfl rfl
     have e9 := hM.v 9 (by simp) rfl rfl rfl
     have e10 := hM.v 10 (by simp) rfl rfl rfl
     have DW := hide hM.d
     have r12 : W.ownsRow w.heap.size 61 3 (yy 12) (riseE L).length ((riseE L).flatMap encE) := hM.fact 12 (by simp) rfl (notR_all 12 rfl)
     obtain ⟨b, c, e12⟩ := own_slice r12
     rw [e12] at r12
     have HR := hide r12
     simp only [fills, Act.put, List.take, List.length, List.setIfInBounds_toArray, List.set_cons_zero, List.set_cons_succ, e0, e1, e2, e3, e4, e6, e7, e8, e9, e10, e12]
     clear hM hmo e0 e1 e2 e3 e4 e6 e7 e8 e9 e10 e12 r12
     go_wp2_with fail
     refine bodyPost_ret (results_tmp rfl _ _ _) rfl ?_
     exact ⟨b, c, rfl, HR, DW.out⟩
end Go.Proofs.YtchoopnjckcohaaGreatDoor
