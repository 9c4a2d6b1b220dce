import Derived.Test.YtocoghljmlpdeaaQad
import Derived.DeepKeys4
import Derived.Maps.OwnSet
namespace Go.Proofs.Ytocoghljmlpdeaa
open Go.RowKit Go.Maps
attribute [local go_sem] Oper.semAt_some
/-! ### others -/
/-- Those that wait are those whose flag is set, each once. -/
def WtOk (N M : Nat) (L : Nat → List Nat) (fl : Nat → Bool) : Prop := ∀ a, a < M → (L (1 + a)).Nodup ∧ ∀ s, s ∈ L (1 + a) ↔ s < N ∧ fl (s * M + a) = true
theorem place_div {p M : Nat} : p / M * M + p % M = p := by rw [Nat.mul_comm]; exact Nat.div_add_mod p M
theorem WtOk.put {N M p : Nat} {L : Nat → List Nat} {fl : Nat → Bool} (h : WtOk N M L fl) (hp : p < N * M) (hf : fl p = false) : WtOk N M (updF L (1 + p % M) (L (1 + p % M) ++ [p / M])) (updF fl p true) := fun a ha => by
  obtain ⟨h1, h2⟩ := h a ha
  have hM : 0 < M := by omega
  have hs : p / M < N := Nat.div_lt_of_lt_mul (by rw [Nat.mul_comm]; exact hp)
  by_cases e : a = p % M
  · subst e
    rw [updF_same]
    refine ⟨List.nodup_append.2 ⟨h1, by simp, fun x hx y hy e => ?_⟩, fun s => ?_⟩
    · rw [List.mem_singleton] at hy
      subst hy
      subst e
      have := ((h2 _).1 hx).2
      rw [place_div, hf] at this
      cases this
    · rw [List.mem_append, List.mem_singleton, h2 s]
      by_cases e : s = p / M
      · subst e
        rw [place_div]
        exact ⟨fun _ => ⟨hs, updF_same _ _ _⟩, fun _ => Or.inr rfl⟩
      · rw [updF_ne _ _ (fun z => e (by rw [← z]; exact (div_place ha).symm))]
        exact ⟨fun z => z.resolve_right e, Or.inl⟩
  · rw [updF_ne _ _ (by omega)]
    refine ⟨h1, fun s => ?_⟩
    rw [updF_ne _ _ (fun z => e (by rw [← z]; exact (mod_place ha).symm))]
    exact h2 s
theorem WtOk.few {N M a : Nat} {L : Nat → List Nat} {fl : Nat → Bool} (h : WtOk N M L fl) (ha : a < M) : (L (1 + a)).length ≤ N := nodup_le (h a ha).1 (fun q hq => (((h a ha).2 q).1 hq).1)
theorem updF_eq {α : Type} {f : Nat → α} {i : Nat} {x : α} (h : f i = x) : updF f i x = f := funext fun j => by
  by_cases e : j = i
  · subst e; rw [updF_same, h]
  · exact updF_ne _ _ e
theorem wait_any (B : Nat) (Z : Nat → Prop) (w : World) (b N M gf : Nat) (aN : Option Addr) (lN cN gc gw gs gi : Nat) (V : Nat → Value) (L : Nat → List Nat) (cl : Nat → Nat) (fl : Nat → Bool) (h : PaR B Z w b N M gf aN lN cN gc gw gs gi V L cl fl) (hW : WtOk N M L fl) (p : Nat) (hp : p < lN) (hlN : lN = N * M) (bl : lN ≤ 4194304) (bN : N ≤ 16777216) (hB : B ≤ w.heap.size) (hh : ∀ k, Z k → k < w.heap.size) :
    Calls Try.prog 70 #[.pointer (some ⟨b, 0, none⟩), .int .i64 (p : Int)] w fun e w' => e = .returned (.tuple #[]) ∧ ∃ V' L', Hid (PaR B Z w' b N M gf aN lN cN gc gw gs gi V' L' cl (updF fl p true) ∧ WtOk N M L' (updF fl p true) ∧ (V' 0 = V 0 ∧ L' 0 = L 0) ∧ (∀ s, V' (1 + M + s) = V (1 + M + s) ∧ L' (1 + M + s) = L (1 + M + s)) ∧ Only w w' (Rz B Z)) := by
  cases hf : fl p with
  | true =>
    refine (wait_no B Z w b N M gf aN lN cN gc gw gs gi V L cl fl h p hp hf).mono ?_
    rintro e w' ⟨rfl, e2⟩
    obtain rfl := e2.symm
    exact ⟨rfl, V, L, hide ⟨by rw [updF_eq hf]; exact h, by rw [updF_eq hf]; exact hW, ⟨rfl, rfl⟩, fun _ => ⟨rfl, rfl⟩, Only.ofBelow (Below.refl _ _)⟩⟩
  | false =>
    have hpp : p < N * M := by rw [← hlN]; exact hp
    have hM : p % M < M := Nat.mod_lt _ (by
      rcases Nat.eq_zero_or_pos M with e | e
      · rw [e, Nat.mul_zero] at hpp; omega
      · exact e)
    refine (wait_ok B Z w b N M gf aN lN cN gc gw gs gi V L cl fl h p hp hlN bl hf (by have := hW.few hM; omega) hB hh).mono ?_
    rintro e w' ⟨rfl, v, H⟩
    refine ⟨rfl, _, _, hide ⟨H.out.1, hW.put hpp hf, ⟨updF_ne _ _ (by omega), updF_ne _ _ (by omega)⟩, fun s => ⟨updF_ne _ _ (by omega), updF_ne _ _ (by omega)⟩, H.out.2⟩⟩
/-- The states of a class that are not in a group. -/
def othL (N : Nat) (cl : Nat → Nat) (C : Nat) (G : List Nat) : List Nat := (List.range N).filter (fun s => decide (cl s = C) && !decide (s ∈ G))
theorem othL_le (N : Nat) (cl : Nat → Nat) (C : Nat) (G : List Nat) : (othL N cl C G).length ≤ N := by
  unfold othL
  exact Nat.le_trans (List.length_filter_le _ _) (by simp)
theorem othL_succ (N : Nat) (cl : Nat → Nat) (C : Nat) (G : List Nat) : othL (N + 1) cl C G = othL N cl C G ++ (if cl N = C ∧ N ∉ G then [N] else []) := by
  unfold othL
  rw [List.range_succ, List.filter_append]
  congr 1
  by_cases h1 : cl N = C
  · by_cases h2 : N ∈ G
    · simp [h1, h2]
    · simp [h1, h2]
  · simp [h1]
theorem natI_get (T : List Nat) (i : Nat) (h : i < T.length) : (natI T)[i]'(by rw [natI_len]; exact h) = ((T[i] : Nat) : Int) := by simp [natI]
theorem natI_rd {W : World} {ao : Option Addr} {T : List Nat} (h : RdN W ao (natI T)) (i : Nat) (hi : i < T.length) : ∃ g o, ao = some ⟨g, o, none⟩ ∧ W.cell? ⟨g, o + i, none⟩ = some (.int .i64 ((T[i] : Nat) : Int)) := by
  obtain ⟨g, o, e, c⟩ := h i (by rw [natI_len]; exact hi)
  rw [natI_get T i hi] at c
  exact ⟨g, o, e, c⟩
theorem mrw_own {W : World} {B g t n : Nat} {z : Value} (hz : z.cells = #[z]) (h : W.ownsRow B t 1 (.slice (some ⟨g, 0, none⟩) n n) n (madeCells z.cells (n * 1)).toList) : Mrw W g t n (fun _ => z) n := by
  rcases h.2 with ⟨e, _⟩ | ⟨g', cap, cur, e, hb, hg, hn, hc, hs, ht⟩
  · cases e
  · cases e
    refine ⟨cur, hg, by omega, fun j hj => ?_⟩
    rw [hz, Nat.mul_one, toList_madeCells_one] at ht
    have q : (cur.toList.take n)[j]? = some z := by rw [ht, List.getElem?_replicate, if_pos hj]
    rw [List.getElem?_take_of_lt hj] at q
    simpa using q
set_option maxRecDepth 100000 in
set_option maxHeartbeats 4000000 in
theorem others_any (B : Nat) (Z : Nat → Prop) (w : World) (b N M gf : Nat) (aN : Option Addr) (lN cN gc gw gs gi : Nat) (V : Nat → Value) (L : Nat → List Nat) (cl : Nat → Nat) (fl : Nat → Bool) (h : PaR B Z w b N M gf aN lN cN gc gw gs gi V L cl fl) (C n cg : Nat) (ag : Option Addr) (G : List Nat) (hG : RdN w ag (natI G)) (hn : G.length = n) (hGN : ∀ s ∈ G, s < N) (bn : n ≤ 4194304) (bN : N ≤ 4194304) :
    Calls Try.prog 77 #[.pointer (some ⟨b, 0, none⟩), .int .i64 (C : Int), .slice ag n cg] w fun e w' => ∃ b' m c', e = .returned (.slice b' m c') ∧ Hid (OwI w' w.heap.size (.slice b' m c') (natI (othL N cl C G))) ∧ Below w.heap.size w w' := by
  obtain ⟨i4, hi4, hz40, hz41, hz42⟩ := info_parts info4
  have y3 : w.cell? ⟨b, 3, none⟩ = some (.slice (some ⟨gc, 0, none⟩) N N) := cell_of h.bx rfl
  have HX := hide (And.intro h.bx (And.intro h.cr hG))
  clear h hG
  go_enter Try.func77, Try.ntmps77
  go_upto_region 2 with fail
  go_upto_region 3 with (at_make; refine wpList_make_full _ rfl _ _ 58 rfl w.heap.size 4 i4 (.bool false) 1 Try.underlying58 hi4 hz40 hz41 _ _ _ _ N rfl rfl rfl rfl (by rw [hz42]; omega) (by unfold maxLen; omega) (Nat.le_refl _) ?_; intro w1 ho hg)
  have D1 : Below w.heap.size w w1 := (Below.refl _ _).grown hg (Nat.le_refl _) (by intro k hk; cases hk)
  obtain ⟨gm, hgm⟩ : ∃ g, w.heap.size = g := ⟨_, rfl⟩
  have M0 : Mrw w1 gm 4 N (fun s => .bool (decide (s ∈ G.take 0))) N := by
    rw [hgm] at ho
    exact (mrw_own rfl ho).congr (fun c _ => by simp)
  rw [hgm]
  have HS := hide hgm
  have J0 := hide (And.intro M0 (Only.ofBelow (R := fun k => k = gm) (Below.refl w1.heap.size w1)))
  have HD1 := hide D1
  have gml : gm < w1.heap.size := M0.lt
  clear D1 M0 ho hg hgm y3 hi4 hz40 hz41 hz42
  go_wp2_with fail
  go_loopw [21] (fun iv wr => ∃ i : Nat, i ≤ n ∧ iv = .int .i64 (i : Int) ∧ Hid (Mrw wr gm 4 N (fun s => .bool (decide (s ∈ G.take i))) N ∧ Only w1 wr (fun k => k = gm))) (fun iv _ => n - (intOf iv).toNat)
  case atStart => exact ⟨0, Nat.zero_le _, rfl, J0⟩
  case round =>
    clear J0
    obtain ⟨i, hi, rfl, HY⟩ := hrel
    by_cases hlt : i < n
    · have l0 : (i : Int) < (n : Int) := by omega
      have l1 : (0 : Int) ≤ (i : Int) := by omega
      have hil : i < G.length := by omega
      have hrd := (HX.out.2.2).on HD1.out
      obtain ⟨g, o, eg, c⟩ := natI_rd HX.out.2.2 i hil
      have hne : g ≠ gm := by
        have z : g < w.heap.size := World.block_lt_of_cell? w _ c
        have := HS.out
        omega
      obtain ⟨x, hx⟩ : ∃ x, G[i] = x := ⟨_, rfl⟩
      rw [hx] at c
      have hxN : x < N := by rw [← hx]; exact hGN _ (List.getElem_mem hil)
      have c1 : wr.cell? ⟨g, o + i, none⟩ = some (.int .i64 (x : Int)) := by
        have z1 := (HD1.out.cell (p := ⟨g, o + i, none⟩) (World.block_lt_of_cell? w _ c)).trans c
        have lt1 := World.block_lt_of_cell? w1 _ z1
        rw [World.cell?_of_block (HY.out.2.block g lt1 hne)]
        exact z1
      subst eg
      have x0 : (0 : Int) ≤ (x : Int) := by omega
      have x1 : (x : Int) < (N : Int) := by omega
      have f := HY.out.1.fz x
      have HG' : Hid (G[i]? = some x) := hide (by rw [List.getElem?_eq_getElem hil, hx])
      obtain ⟨u9, c9⟩ := HY.out.1.cell x hxN
      clear hrd c hx hil hne
      go_wp2_with fail
      go_roundw
      case rel =>
        refine ⟨i + 1, by omega, by go_num, hide ⟨?_, HY.out.2.trans (only_set _ gm x (.bool true))⟩⟩
        refine (HY.out.1.upd x (.bool true)).congr (fun c hc => ?_)
        rw [List.take_add_one, HG'.out]
        by_cases e : c = x
        · subst e; simp
        · simp [e]
      case measure => simp [intOf]; omega
    · have l0 : ¬ (i : Int) < (n : Int) := by omega
      obtain rfl : i = n := by omega
      have M2 : Mrw wr gm 4 N (fun s => .bool (decide (s ∈ G))) N := by
        have := HY.out.1
        rw [← hn, List.take_length] at this
        exact this
      obtain ⟨w2, hw2⟩ : ∃ w2, wr = w2 := ⟨_, rfl⟩
      subst hw2
      have O1 := HY.out.2
      have hBX : wr.heap[b]? = _ := (O1.block b (by have := (Array.getElem?_eq_some_iff.1 (blk_on HX.out.1 HD1.out)).1; exact this) (by have := (Array.getElem?_eq_some_iff.1 HX.out.1).1; have := HS.out; omega)).trans (blk_on HX.out.1 HD1.out)
      have hCR : Mrw wr gc 3 N (fun s => .int .i64 ((cl s : Nat) : Int)) N := (HX.out.2.1.below HD1.out HX.out.2.1.lt).only O1 (by have := HX.out.2.1.lt; have := HS.out; omega)
      have D2 : Below w.heap.size w wr := HD1.out.trans (O1.toBelow HD1.out.size (fun k hk => by have := HS.out; omega))
      have HZ := hide (And.intro M2 (And.intro hCR D2))
      have y3 : wr.cell? ⟨b, 3, none⟩ = some (.slice (some ⟨gc, 0, none⟩) N N) := cell_of hBX rfl
      rename World => w2
      clear HY M2 O1 hBX hCR D2
      have K0 : Hid (OwI w2 w2.heap.size (.slice none 0 0) (natI (othL 0 cl C G)) ∧ Below w2.heap.size w2 w2) := hide ⟨owI_nil _ _, Below.refl _ _⟩
      go_wp2_with fail
      clear y3
      go_loopw [7, 34] (fun v iv wr => ∃ s : Nat, s ≤ N ∧ iv = .int .i64 (s : Int) ∧ ∃ b1 m1 k1, v = .slice b1 m1 k1 ∧ Hid (OwI wr w2.heap.size (.slice b1 m1 k1) (natI (othL s cl C G)) ∧ Below w2.heap.size w2 wr)) (fun _ iv _ => N - (intOf iv).toNat)
      case atStart => exact ⟨0, Nat.zero_le _, rfl, none, 0, 0, rfl, K0⟩
      case round =>
        clear K0
        obtain ⟨s, hs, rfl, b1, m1, k1, rfl, HY⟩ := hrel
        by_cases hlt : s < N
        · have l0 : (s : Int) < (N : Int) := by omega
          have l1 : (0 : Int) ≤ (s : Int) := by omega
          have HW := hide (HZ.out.2.1.below HY.out.2 HZ.out.2.1.lt)
          have c1 : wr.cell? ⟨gc, s, none⟩ = some (.int .i64 ((cl s : Nat) : Int)) := HW.out.at s hlt
          have HV := hide (HZ.out.1.below HY.out.2 HZ.out.1.lt)
          have c2 : wr.cell? ⟨gm, s, none⟩ = some (.bool (decide (s ∈ G))) := HV.out.at s hlt
          have hsc := othL_succ s cl C G
          by_cases e1 : cl s = C
          · by_cases e2 : s ∈ G
            · rw [decide_eq_true e2] at c2
              rw [if_neg (fun z => z.2 e2), List.append_nil] at hsc
              have HE := hide (And.intro e2 hsc)
              rw [e1] at c1
              clear e1 e2 hsc
              go_wp2_with fail
              go_roundw
              case rel => exact ⟨s + 1, by omega, by go_num, b1, m1, k1, rfl, hide ⟨by rw [HE.out.2]; exact HY.out.1, HY.out.2⟩⟩
              case measure => simp [intOf]; omega
            · rw [decide_eq_false e2] at c2
              rw [if_pos ⟨e1, e2⟩] at hsc
              have HE := hide (And.intro e2 hsc)
              rw [e1] at c1
              clear e1 e2 hsc
              have hle := othL_le s cl C G
              have dA : ∀ o : Obj, Below wr.heap.size wr (wr.alloc o) := fun o => (Below.refl _ _).alloc (Nat.le_refl _) _
              have hB := HY.out.2.size
              go_wp2_with (at_builtin; refine wpList_appI rfl (.tmp 49) (.tmp 51) rfl w2.heap.size (.slice b1 m1 k1) (natI (othL s cl C G)) rfl (own_below HY.out.1 (dA _)) wr.heap.size (s : Int) rfl (World.alloc_heap_new _ _) (by rw [natI_len]; omega) (by simp <;> omega) ?_; intro b2 m2 k2 w4 h1 h2 h3 h4; have HN := hide (And.intro h1.out ((HY.out.2.trans ((dA (.cells #[.int .i64 (s : Int)] 3)).mono hB)).trans (h3.out.toBelow (by simp <;> omega) (fun q hq => (HY.out.1.lt q hq).1)))); clear h1 h2 h3 h4)
              go_roundw
              case rel => exact ⟨s + 1, by omega, by go_num, b2, m2, k2, rfl, hide ⟨by rw [HE.out.2, natI_snoc]; exact HN.out.1, HN.out.2⟩⟩
              case measure => simp [intOf]; omega
          · have e3 : ¬ ((cl s : Nat) : Int) = (C : Int) := by omega
            rw [if_neg (fun z => e1 z.1), List.append_nil] at hsc
            have HE := hide hsc
            have HE1 := hide e1
            obtain ⟨q, hq⟩ : ∃ q, cl s = q := ⟨_, rfl⟩
            rw [hq] at e3 c1 e1
            clear hsc hq c2
            go_wp2_with fail
            go_roundw
            case rel => exact ⟨s + 1, by omega, by go_num, b1, m1, k1, rfl, hide ⟨by rw [HE.out]; exact HY.out.1, HY.out.2⟩⟩
            case measure => simp [intOf]; omega
        · have l0 : ¬ (s : Int) < (N : Int) := by omega
          obtain rfl : s = N := by omega
          go_wp2_with fail
          go_ret
          exact ⟨b1, m1, k1, rfl, hide (owns_down HY.out.1 HZ.out.2.2.size), HZ.out.2.2.trans (HY.out.2.mono HZ.out.2.2.size)⟩
/-! ### The sizes of the classes -/
theorem sub_len {α : Type} [BEq α] [LawfulBEq α] : ∀ (A B : List α), A.Nodup → (∀ x ∈ A, x ∈ B) → A.length ≤ B.length
  | [], _, _, _ => Nat.zero_le _
  | x :: A, B, hn, h => by
    have hx := h x (by simp)
    have h1 := sub_len A (B.erase x) (List.nodup_cons.1 hn).2 (fun y hy => (List.mem_erase_of_ne (fun e => (List.nodup_cons.1 hn).1 (by rw [← e]; exact hy))).2 (h y (by simp [hy])))
    have h2 := List.length_erase_of_mem hx
    have h3 := List.length_pos_of_mem hx
    simp only [List.length_cons]
    omega
theorem same_len {α : Type} [BEq α] [LawfulBEq α] {A B : List α} (ha : A.Nodup) (hb : B.Nodup) (h : ∀ x, x ∈ A ↔ x ∈ B) : A.length = B.length :=
  Nat.le_antisymm (sub_len A B ha (fun x hx => (h x).1 hx)) (sub_len B A hb (fun x hx => (h x).2 hx))
/-- How many states a class has. -/
def clN (N : Nat) (cl : Nat → Nat) (k : Nat) : Nat := ((List.range N).filter (fun s => decide (cl s = k))).length
theorem nodup_filter_range (N : Nat) (p : Nat → Bool) : ((List.range N).filter p).Nodup := List.Nodup.sublist List.filter_sublist List.nodup_range
theorem cN_le (N : Nat) (cl : Nat → Nat) (k : Nat) : clN N cl k ≤ N := by
  unfold clN
  exact Nat.le_trans (List.length_filter_le _ _) (by simp)
theorem cN_oth {N C : Nat} {cl : Nat → Nat} {G : List Nat} (hG : G.Nodup) (hg : ∀ s ∈ G, s < N ∧ cl s = C) : clN N cl C = G.length + (othL N cl C G).length := by
  have hd : (G ++ othL N cl C G).Nodup := List.nodup_append.2 ⟨hG, nodup_filter_range _ _, fun x hx y hy e => by
    subst e
    have := (List.mem_filter.1 hy).2
    simp at this
    exact this.2 hx⟩
  rw [← List.length_append]
  refine same_len (nodup_filter_range _ _) hd (fun x => ?_)
  unfold othL
  simp only [List.mem_filter, List.mem_range, List.mem_append, decide_eq_true_eq, Bool.and_eq_true, Bool.not_eq_true', decide_eq_false_iff_not]
  constructor
  · intro h
    by_cases e : x ∈ G
    · exact Or.inl e
    · exact Or.inr ⟨h.1, h.2, e⟩
  · intro h
    rcases h with h | h
    · exact hg x h
    · exact ⟨h.1, h.2.1⟩
/-- The sizes are those of the classes. -/
def SzOk (N K : Nat) (cl : Nat → Nat) (S : List Nat) : Prop := S.length = K ∧ ∀ k, k < K → S.getD k 0 = clN N cl k
theorem SzOk.split {N K C : Nat} {cl : Nat → Nat} {S X : List Nat} (h : SzOk N K cl S) (hC : C < K) (kl : ∀ s, s < N → cl s < K) (hX : X.Nodup) (hx : ∀ s ∈ X, s < N ∧ cl s = C) : SzOk N (K + 1) (fun s => if decide (s ∈ X) then K else cl s) (S.set C (S.getD C 0 - X.length) ++ [X.length]) := by
  obtain ⟨h1, h2⟩ := h
  refine ⟨by simp [h1], fun k hk => ?_⟩
  have hcl : ∀ s, s ∈ X → s < N := fun s hs => (hx s hs).1
  by_cases e : k = K
  · subst e
    have e1 : (S.set C (S.getD C 0 - X.length) ++ [X.length]).getD k 0 = X.length := by
      rw [List.getD_eq_getElem?_getD, List.getElem?_append_right (by simp [h1])]
      simp [h1]
    rw [e1]
    unfold clN
    refine same_len hX (nodup_filter_range _ _) (fun x => ?_)
    simp only [List.mem_filter, List.mem_range, decide_eq_true_eq]
    constructor
    · intro hxm
      exact ⟨hcl x hxm, by rw [if_pos hxm]⟩
    · intro hh
      refine Classical.byContradiction fun hxm => ?_
      rw [if_neg hxm] at hh
      have := kl x hh.1
      omega
  · have hk2 : k < K := by omega
    have e1 : (S.set C (S.getD C 0 - X.length) ++ [X.length]).getD k 0 = (S.set C (S.getD C 0 - X.length)).getD k 0 := by
      rw [List.getD_eq_getElem?_getD, List.getElem?_append_left (by simp [h1]; omega), ← List.getD_eq_getElem?_getD]
    rw [e1]
    by_cases e2 : k = C
    · subst e2
      have e3 : (S.set k (S.getD k 0 - X.length)).getD k 0 = S.getD k 0 - X.length := by
        rw [List.getD_eq_getElem?_getD, List.getElem?_set_self (by omega)]
        rfl
      rw [e3, h2 k hk2]
      have hd : ((List.range N).filter (fun s => decide ((if decide (s ∈ X) then K else cl s) = k)) ++ X).Nodup := List.nodup_append.2 ⟨nodup_filter_range _ _, hX, fun x hx' y hy e => by
        subst e
        have := (List.mem_filter.1 hx').2
        simp only [decide_eq_true_eq] at this
        rw [if_pos hy] at this
        omega⟩
      have hl := same_len (nodup_filter_range N (fun s => decide (cl s = k))) hd (fun x => by
        simp only [List.mem_filter, List.mem_range, List.mem_append, decide_eq_true_eq]
        constructor
        · intro hh
          by_cases hm : x ∈ X
          · exact Or.inr hm
          · exact Or.inl ⟨hh.1, by rw [if_neg hm]; exact hh.2⟩
        · intro hh
          rcases hh with hh | hh
          · by_cases hm : x ∈ X
            · exact hx x hm
            · rw [if_neg hm] at hh; exact hh
          · exact hx x hh)
      rw [List.length_append] at hl
      have e9 : clN N (fun s => if decide (s ∈ X) then K else cl s) k = ((List.range N).filter (fun s => decide ((if decide (s ∈ X) then K else cl s) = k))).length := rfl
      rw [e9]
      unfold clN
      omega
    · have e3 : (S.set C (S.getD C 0 - X.length)).getD k 0 = S.getD k 0 := by
        rw [List.getD_eq_getElem?_getD, List.getElem?_set_ne (fun z => e2 z.symm), ← List.getD_eq_getElem?_getD]
      rw [e3, h2 k hk2]
      unfold clN
      refine same_len (nodup_filter_range _ _) (nodup_filter_range _ _) (fun x => ?_)
      simp only [List.mem_filter, List.mem_range, decide_eq_true_eq]
      by_cases hm : x ∈ X
      · rw [if_pos hm, (hx x hm).2]
        constructor
        · intro hh; omega
        · intro hh; omega
      · rw [if_neg hm]
theorem natI_set (T : List Nat) (j x : Nat) : (natI T).set j (x : Int) = natI (T.set j x) := by
  unfold natI
  rw [List.map_set]
/-- A size is written. -/
theorem PaR.size {B : Nat} {Z : Nat → Prop} {w : World} {b N M gf : Nat} {aN : Option Addr} {lN cN gc gw gs gi : Nat} {V : Nat → Value} {L : Nat → List Nat} {cl : Nat → Nat} {fl : Nat → Bool} {gk : Nat} {n c : Nat} (h : PaR B Z w b N M gf aN lN cN gc gw gs gi V L cl fl) (hV : V 0 = .slice (some ⟨gk, 0, none⟩) n c) (j x : Nat) :
    PaR B Z (w.setCell ⟨gk, j, none⟩ (.int .i64 (x : Int))) b N M gf aN lN cN gc gw gs gi V (updF L 0 ((L 0).set j x)) cl fl ∧ Only w (w.setCell ⟨gk, j, none⟩ (.int .i64 (x : Int))) (fun k => k = gk) ∧ Rz B Z gk := by
  have o := only_set w gk j (.int .i64 (x : Int))
  have hz := h.fam.zv 0 (by omega) gk (by rw [hV]; rfl)
  have h0 := h.fam.own 0 (by omega)
  obtain ⟨cs, fr, hx⟩ := own_ty h0 (k := gk) (by rw [hV]; rfl)
  have fr0 : fr = (0, 0) := by
    rcases h0.2 with ⟨e, _⟩ | ⟨g, cap, cur, e, hb, hg, _⟩
    · rw [hV] at e; cases e
    · rw [hV] at e; cases e
      rw [hx] at hg
      injection hg with hg
      injection hg
  rw [fr0] at hx
  have k := h.kept hx o
  refine ⟨⟨k.1 (by decide), ?_, k.2.2.1 (by decide), k.2.2.2.1 (by decide), k.2.2.2.2.1 (by decide), ⟨fun i hi => ?_, h.fam.ap, h.fam.ac, h.fam.zv⟩, h.wi, h.zo⟩, o, hz⟩
  · exact h.cr.only o (fun e => h.fam.ac 0 (by omega) (by rw [hV, e]; rfl))
  · by_cases e : i = 0
    · subst e
      rw [updF_same]
      unfold OwI at h0 ⊢
      rw [← natI_set, List.length_set, List.map_set]
      rw [hV] at h0 ⊢
      have en : n = (natI (L 0)).length := by
        rcases h0.2 with ⟨e, _⟩ | ⟨g, cap, cur, e, _⟩
        · cases e
        · cases e; rfl
      subst en
      exact row1_set h0 j _
    · rw [updF_ne _ _ e]
      exact row_only (h.fam.own i hi) o (fun k hk q => h.fam.ap i 0 hi (by omega) e k hk (by rw [hV, q]; rfl))
/-- The sizes grow by one. -/
theorem PaR.grow {B : Nat} {Z : Nat → Prop} {w : World} {b N M gf : Nat} {aN : Option Addr} {lN cN gc gw gs gi : Nat} {V : Nat → Value} {L : Nat → List Nat} {cl : Nat → Nat} {fl : Nat → Bool} {w' : World} {v : Value} {X : List Nat} (h : PaR B Z w b N M gf aN lN cN gc gw gs gi V L cl fl) (hh : ∀ k, Z k → k < w.heap.size) (o : Only w w' (fun k => (V 0).ownBlock = some k)) (ho : OwI w' B v (natI X)) (hb : ∀ k, v.ownBlock = some k → (V 0).ownBlock = some k ∨ w.heap.size ≤ k) :
    PaR B Z (w'.setCell ⟨b, 4, none⟩ v) b N M gf aN lN cN gc gw gs gi (updF V 0 v) (updF L 0 X) cl fl ∧ Only w (w'.setCell ⟨b, 4, none⟩ v) (Rz B Z) := by
  have hz := h.fam.zv 0 (by omega)
  have nb : ∀ {k t : Nat} {cs : Array Value}, w.heap[k]? = some (.cells cs t (0, 0)) → t ≠ 3 → ¬ (V 0).ownBlock = some k := fun z ne e => row_tag (h.fam.own 0 (by omega)) z ne e
  have gcl := h.cr.lt
  obtain ⟨cw, hw⟩ : ∃ cs, w.heap[gw]? = some (.cells cs 22 (0, 0)) := by obtain ⟨c, h1, _⟩ := h.wr; exact ⟨c, h1⟩
  obtain ⟨cs, hs⟩ : ∃ cs, w.heap[gs]? = some (.cells cs 4 (0, 0)) := by obtain ⟨c, h1, _⟩ := h.sr; exact ⟨c, h1⟩
  obtain ⟨ci, hi2⟩ : ∃ cs, w.heap[gi]? = some (.cells cs 22 (0, 0)) := by obtain ⟨c, h1, _⟩ := h.ir; exact ⟨c, h1⟩
  have q := only_set w' b 4 v
  have f1 := h.fam.put (by omega) o ho hb gcl hh
  have bb : w'.heap[b]? = _ := (o.block _ (Array.getElem?_eq_some_iff.1 h.bx).1 (nb h.bx (by decide))).trans h.bx
  have r1 := h.cr.only o (h.fam.ac 0 (by omega))
  have r2 := h.wr.only o (nb hw (by decide))
  have r3 := h.sr.only o (nb hs (by decide))
  have r4 := h.ir.only o (nb hi2 (by decide))
  refine ⟨⟨?_, r1.only q (r1.tag bb (by decide)), ?_, r3.only q (r3.tag bb (by decide)), ?_, ?_, h.wi, h.zo⟩, ?_⟩
  · exact heap_setCell_same _ _ 4 _ 93 _ bb
  · exact (r2.only q (r2.tag bb (by decide))).congr (fun c _ => by rw [updF_ne _ _ (by omega)])
  · exact (r4.only q (r4.tag bb (by decide))).congr (fun c _ => by rw [updF_ne _ _ (by omega)])
  · exact f1.only q (fun i hi k hk e => by subst e; exact row_tag (f1.own i hi) bb (by decide) hk)
  · exact (o.mono (fun k _ e => hz k e)).trans (q.mono (fun k _ e => by rw [e]; exact h.zo.1))
theorem PaR.alike {B : Nat} {Z : Nat → Prop} {w : World} {b N M gf : Nat} {aN : Option Addr} {lN cN gc gw gs gi : Nat} {V : Nat → Value} {L : Nat → List Nat} {cl : Nat → Nat} {fl : Nat → Bool} {cl' : Nat → Nat} {fl' : Nat → Bool} (h : PaR B Z w b N M gf aN lN cN gc gw gs gi V L cl fl) (hc : ∀ s, s < N → cl' s = cl s) (hf : ∀ p, p < lN → fl' p = fl p) : PaR B Z w b N M gf aN lN cN gc gw gs gi V L cl' fl' :=
  ⟨h.bx, h.cr.congr (fun c q => by rw [hc c q]), h.wr, h.sr.congr (fun c q => by rw [hf c q]), h.ir, h.fam, h.wi, h.zo⟩
theorem WtOk.alike {N M : Nat} {L L' : Nat → List Nat} {fl fl' : Nat → Bool} (h : WtOk N M L fl) (hl : ∀ a, a < M → L' (1 + a) = L (1 + a)) (hf : ∀ p, p < N * M → fl' p = fl p) : WtOk N M L' fl' := fun a ha => by
  obtain ⟨h1, h2⟩ := h a ha
  rw [hl a ha]
  refine ⟨h1, fun s => ?_⟩
  rw [h2 s]
  constructor
  · intro q; exact ⟨q.1, by rw [hf _ (place_lt q.1 ha)]; exact q.2⟩
  · intro q; exact ⟨q.1, by rw [← hf _ (place_lt q.1 ha)]; exact q.2⟩
/-- Of each state the places that lead to it. -/
def InOk (N M : Nat) (Nx : List Int) (L : Nat → List Nat) : Prop := ∀ s, s < N → (L (1 + M + s)).Nodup ∧ ∀ p, p ∈ L (1 + M + s) ↔ p < N * M ∧ nxt Nx p = s
open Go.Shelf
/-! ### Pairs as keys -/
/-- A kind of items: a type whose values may be keys, and how a value lies in memory. -/
structure Kd (α : Type) where
  ty : Nat
  sz : Nat
  val : α → Value
  cs : α → List Value
  key : α → Lit
  ok : α → Prop
  kmk : ∀ a, ok a → keyOf Try.prog ty (val a) = some (key a)
  inj : ∀ a b, ok a → ok b → key a = key b → a = b
  lit : ∀ a, WideAt.IsKeyLit (key a)
  len : ∀ a, (cs a).length = sz
  one : ∀ a, ∀ u ∈ cs a, u.oneCell' = true
  law : Keyed Try.prog ty
section
variable {α : Type} (K : Kd α)
/-- A map says at which place each item stands. -/
structure IsPl (D : DataW Unit) (l : List α) : Prop where
  tidy : Tidy D
  has : ∀ s, K.ok s → (Maps.has D (K.key s) = true ↔ s ∈ l)
  at_ : ∀ i (h : i < l.length) z, D.atKey (K.key l[i]) z = .lit (.int .i64 (i : Nat))
theorem isPl_nil : IsPl K (.map []) [] := ⟨tidy_empty, fun s _ => (by constructor <;> intro h <;> cases h), fun i h => (by simp at h)⟩
variable {K}
theorem IsPl.new {D : DataW Unit} {l : List α} {s : α} (h : IsPl K D l) (hok : ∀ x ∈ l, K.ok x) (hs : s ∉ l) (ho : K.ok s) : IsPl K (D.put (K.key s) (.lit (.int .i64 (l.length : Nat)))) (l ++ [s]) := by
  refine ⟨h.tidy.put (K.lit s) _, fun t ht => ?_, fun i hi z => ?_⟩
  · by_cases e : t = s
    · subst e; rw [has_put_same h.tidy.isMap (K.lit _)]; simp
    · rw [has_put_other (fun h => e (K.inj _ _ ht ho h)), h.has t ht]; simp [e]
  · by_cases e : i < l.length
    · rw [List.getElem_append_left e]
      have hm : l[i] ∈ l := List.getElem_mem e
      rw [atKey_put_other (fun h => hs (by rw [← K.inj _ _ (hok _ hm) ho h]; exact hm)), h.at_ i e z]
    · have : i = l.length := by simp at hi; omega
      subst this
      rw [List.getElem_append_right (Nat.le_refl _)]
      simp only [Nat.sub_self, List.getElem_cons_zero]
      rw [atKey_put_same h.tidy.isMap (K.lit _)]
end
theorem laidOutP : laidOutB Try.prog = true := by kernel_rfl
theorem row69 : (69 : TypeId) < Try.prog.types.size := of_decide_eq_true (by kernel_rfl)
theorem wide69 : (match Try.prog.underlying 69 with | some (.array _ _) | some (.struct _) => true | _ => false) = true := by rw [Try.underlying69]
set_option maxRecDepth 100000 in
theorem law69 : Keyed Try.prog 69 := Keyed.of_law (deep_law_laid laidOutP (m := 2) (by omega) row69 (by kernel_rfl) wide69)
theorem keyTy69 : Try.prog.keyType 69 = true := by kernel_rfl
theorem cells69 : Try.prog.cellsOf 69 = 2 := by kernel_rfl
theorem cells3' : Try.prog.cellsOf 3 = 1 := by kernel_rfl
theorem key_pair {Q : Program} {k a : TypeId} (hu : Q.underlying k = some (.array 2 a)) (ua : Q.underlying a = some (.int .i64)) (ca : Q.cellsOf a = 1) (ck : Q.cellsOf k = 2) (hkt : Q.keyType k = true) (hk0 : k < Q.types.size) (p r : Int) (w1 : (Lit.int .i64 p).wf = true) (w2 : (Lit.int .i64 r).wf = true) : keyOf Q k (.agg #[.int .i64 p, .int .i64 r]) = some (.string (keyBytes [.int .i64 p, .int .i64 r])) := by
  obtain ⟨n, hn⟩ : ∃ n, Q.types.size = n + 1 := ⟨Q.types.size - 1, (Nat.sub_add_cancel (Nat.lt_of_le_of_lt (Nat.zero_le _) hk0)).symm⟩
  unfold keyOf
  rw [hu]
  simp only [hkt, Value.formed, hu, ck, Value.cells, hn, Program.keyLits]
  simp [ua, ca, w1, w2, List.range, List.range.loop]
abbrev PrT := Nat × Nat
def prV (s : PrT) : Value := .agg #[.int .i64 (s.1 : Int), .int .i64 (s.2 : Int)]
def prC (s : PrT) : List Value := [.int .i64 (s.1 : Int), .int .i64 (s.2 : Int)]
def kPr (s : PrT) : Lit := .string (keyBytes [.int .i64 (s.1 : Int), .int .i64 (s.2 : Int)])
def okPr (s : PrT) : Prop := s.1 ≤ 1099511627776 ∧ s.2 ≤ 1099511627776
theorem keyPr (s : PrT) (h : okPr s) : keyOf Try.prog 69 (prV s) = some (kPr s) :=
  key_pair Try.underlying69 Try.underlying3 cells3' cells69 keyTy69 row69 (s.1 : Int) (s.2 : Int) (WalkArith.wf_i64 (by have := h.1; omega)) (WalkArith.wf_i64 (by have := h.2; omega))
theorem kPr_inj (s t : PrT) (hs : okPr s) (ht : okPr t) (h : kPr s = kPr t) : s = t := by
  have := law69.inj (keyPr s hs) (by rw [h]; exact keyPr t ht)
  obtain ⟨p, r⟩ := s
  obtain ⟨p', r'⟩ := t
  simp only [prV, Value.agg.injEq, Array.mk.injEq, List.cons.injEq, Value.int.injEq, true_and, and_true] at this
  exact Prod.ext (Int.ofNat_inj.1 this.1) (Int.ofNat_inj.1 this.2)
/-- Pairs as items. -/
def kPrs : Kd PrT where
  ty := 69
  sz := 2
  val := prV
  cs := prC
  key := kPr
  ok := okPr
  kmk := keyPr
  inj := kPr_inj
  lit := fun _ => trivial
  len := fun _ => rfl
  one := fun s u hu => by
    simp only [prC, List.mem_cons, List.not_mem_nil, or_false] at hu
    rcases hu with rfl | rfl <;> rfl
  law := law69
theorem look_in_run {α : Type} (K : Kd α) (w : World) (mt : TypeId) (ht : Try.prog.underlying mt = some (.map K.ty 3)) (b : Nat) (l : List α) (i : Nat) (hi : i < l.length) (D : DataW Unit) (hown : w.ownsMap Try.prog K.ty (plainElem Try.prog 3) b l.length D) (hp : IsPl K D l) (ho : K.ok l[i]) :
    (Instr.lookup mt (.map (some b)) (K.val l[i]) true).run Try.prog w = .ok (.tuple #[.int .i64 (i : Nat), .bool true]) w := by
  obtain ⟨v, ps, hrun, hv⟩ := hown.look_ok K.law ht (z := .int .i64 0) (by kernel_rfl) (plainElem_int Try.underlying3 (by decide)) (K.kmk _ ho)
  obtain ⟨c, rfl, hc, _⟩ := plainElem_int_inv Try.underlying3 hv
  have e : D.atKey (K.key l[i]) (.lit (.int .i64 0)) = .lit (.int .i64 c) := congrArg Prod.fst hc
  rw [hp.at_ i hi] at e
  simp only [DataW.lit.injEq, Lit.int.injEq, true_and] at e
  rw [hrun, (hp.has _ ho).2 (List.getElem_mem hi), ← e]
theorem look_out_run {α : Type} (K : Kd α) (w : World) (mt : TypeId) (ht : Try.prog.underlying mt = some (.map K.ty 3)) (b : Nat) (l : List α) (s : α) (hs : s ∉ l) (D : DataW Unit) (hown : w.ownsMap Try.prog K.ty (plainElem Try.prog 3) b l.length D) (hp : IsPl K D l) (ho : K.ok s) :
    ∃ c : Int, (Instr.lookup mt (.map (some b)) (K.val s) true).run Try.prog w = .ok (.tuple #[.int .i64 c, .bool false]) w := by
  obtain ⟨v, ps, hrun, hv⟩ := hown.look_ok K.law ht (z := .int .i64 0) (by kernel_rfl) (plainElem_int Try.underlying3 (by decide)) (K.kmk _ ho)
  obtain ⟨c, rfl, hc, _⟩ := plainElem_int_inv Try.underlying3 hv
  have : Maps.has D (K.key s) = false := by
    rw [Bool.eq_false_iff]; intro e; exact hs ((hp.has s ho).1 e)
  rw [this] at hrun
  exact ⟨c, hrun⟩
theorem map_only {W W' : World} {k e : TypeId} {b n : Nat} {Dm : DataW Unit} {R : Nat → Prop} (o : W.ownsMap Try.prog k (plainElem Try.prog e) b n Dm) (h : Only W W' R) (hn : ¬ R b) : W'.ownsMap Try.prog k (plainElem Try.prog e) b n Dm := by
  have hlt := o.lt
  obtain ⟨es, ck, h1, h2⟩ := o
  exact ⟨es, ck, (h.block b hlt hn).trans h1, h2⟩
/-! ### Groups -/
/-- Groups: a row of rows. -/
structure GrS (H gx : Nat) (w : World) (vg : Value) (n : Nat) (val : Nat → Value) (GL : Nat → List Nat) : Prop where
  row : w.ownsRow H 22 1 vg n ((List.range n).map val)
  fam : Fam H (fun _ => False) n gx w val GL
theorem GrS.only {H gx n : Nat} {w w' : World} {vg : Value} {val : Nat → Value} {GL : Nat → List Nat} {R : Nat → Prop} (h : GrS H gx w vg n val GL) (o : Only w w' R) (hR : ∀ k, H ≤ k → k < w.heap.size → ¬ R k) : GrS H gx w' vg n val GL :=
  ⟨row_only h.row o (fun k hk => hR k (h.row.lt k hk).1 (h.row.lt k hk).2), h.fam.only o (fun i hi k hk => hR k ((h.fam.own i hi).lt k hk).1 ((h.fam.own i hi).lt k hk).2)⟩
theorem GrS.off {H gx n : Nat} {w w' : World} {vg : Value} {val : Nat → Value} {GL : Nat → List Nat} {R : Nat → Prop} (h : GrS H gx w vg n val GL) (o : Only w w' R) (hR : ∀ k, (vg.ownBlock = some k ∨ ∃ i, i < n ∧ (val i).ownBlock = some k) → ¬ R k) : GrS H gx w' vg n val GL :=
  ⟨row_only h.row o (fun k hk => hR k (Or.inl hk)), h.fam.only o (fun i hi k hk => hR k (Or.inr ⟨i, hi, hk⟩))⟩
theorem GrS.below {H gx n : Nat} {w w' : World} {vg : Value} {val : Nat → Value} {GL : Nat → List Nat} (h : GrS H gx w vg n val GL) (d : Below w.heap.size w w') : GrS H gx w' vg n val GL := h.only (R := fun _ => False) (Only.ofBelow d) (fun _ _ _ => id)
theorem range_new (val : Nat → Value) (n : Nat) (x : Value) : (List.range (n + 1)).map (updF val n x) = (List.range n).map val ++ [x] := by
  rw [List.range_succ, List.map_append, List.map_singleton, updF_same]
  congr 1
  refine List.map_congr_left (fun i hi => updF_ne _ _ ?_)
  have := List.mem_range.1 hi
  omega
theorem range_put (val : Nat → Value) (n i : Nat) (x : Value) : ((List.range n).map val).set i x = (List.range n).map (updF val i x) := by
  refine List.ext_getElem? (fun j => ?_)
  rw [List.getElem?_set, List.getElem?_map]
  by_cases hj : j < n
  · rw [List.getElem?_map, List.getElem?_range hj]
    by_cases e : i = j
    · subst e
      rw [if_pos rfl, if_pos (by simpa using hj)]
      simp [updF]
    · rw [if_neg e]
      simp [updF]
      exact fun z => absurd z.symm e
  · rw [List.getElem?_map, List.getElem?_eq_none (by simpa using hj)]
    by_cases e : i = j
    · subst e
      rw [if_pos rfl, if_neg (by simpa using hj)]
      rfl
    · rw [if_neg e]
      rfl
/-- A group that is empty so far. -/
theorem GrS.new {H gx n : Nat} {w w' : World} {vg vg' : Value} {val : Nat → Value} {GL : Nat → List Nat} (h : GrS H gx w vg n val GL) (o : Only w w' (fun k => vg.ownBlock = some k)) (ho : w'.ownsRow H 22 1 vg' (n + 1) ((List.range n).map val ++ [.slice none 0 0])) : GrS H gx w' vg' (n + 1) (updF val n (.slice none 0 0)) (updF GL n []) := by
  have f := h.fam.only o (fun i hi k hk e => by
    obtain ⟨cs, fr, hx⟩ := own_ty (h.fam.own i hi) hk
    exact row_tag h.row hx (by decide) e)
  have nb : ∀ k, (Value.slice none 0 0).ownBlock = some k → False := fun k hk => by cases hk
  refine ⟨by rw [range_new]; exact ho, ⟨fun i hi => ?_, fun i j hi hj ne k hk hk' => ?_, fun i hi e => ?_, fun i hi k hk => ?_⟩⟩
  · by_cases e : i = n
    · subst e; rw [updF_same, updF_same]; exact owI_nil _ _
    · rw [updF_ne _ _ e, updF_ne _ _ e]; exact f.own i (by omega)
  · by_cases e : i = n
    · subst e; rw [updF_same] at hk; exact nb k hk
    · by_cases e2 : j = n
      · subst e2; rw [updF_same] at hk'; exact nb k hk'
      · rw [updF_ne _ _ e] at hk; rw [updF_ne _ _ e2] at hk'; exact f.ap i j (by omega) (by omega) ne k hk hk'
  · by_cases e2 : i = n
    · subst e2; rw [updF_same] at e; exact nb _ e
    · rw [updF_ne _ _ e2] at e; exact f.ac i (by omega) e
  · by_cases e : i = n
    · subst e; rw [updF_same] at hk; exact (nb _ hk).elim
    · rw [updF_ne _ _ e] at hk; exact f.zv i (by omega) k hk
/-- A group that grows. -/
theorem GrS.put {H gx n i gg c : Nat} {w w' : World} {val : Nat → Value} {GL : Nat → List Nat} {v : Value} {X : List Nat} (h : GrS H gx w (.slice (some ⟨gg, 0, none⟩) n c) n val GL) (hi : i < n) (o : Only w w' (fun k => (val i).ownBlock = some k)) (ho : OwI w' H v (natI X)) (hb : ∀ k, v.ownBlock = some k → (val i).ownBlock = some k ∨ w.heap.size ≤ k) (hg : gx < w.heap.size) :
    GrS H gx (w'.setCell ⟨gg, i, none⟩ v) (.slice (some ⟨gg, 0, none⟩) n c) n (updF val i v) (updF GL i X) ∧ Only w (w'.setCell ⟨gg, i, none⟩ v) (fun k => (val i).ownBlock = some k ∨ k = gg) := by
  have f := h.fam.put hi o ho hb hg (fun _ z => z.elim)
  have hgg := h.row.lt gg rfl
  have r := row_only h.row o (fun k hk e => by
    obtain ⟨cs, fr, hx⟩ := own_ty (h.fam.own i hi) e
    exact row_tag h.row hx (by decide) hk)
  have q := only_set w' gg i v
  obtain ⟨cs, fr, hx⟩ := own_ty r (k := gg) rfl
  refine ⟨⟨by rw [← range_put]; exact row1_set r i v, f.only q (fun j hj k hk e => by subst e; exact row_tag (f.own j hj) hx (by decide) hk)⟩, ?_⟩
  exact (o.mono (fun k _ e => Or.inl e)).trans (q.mono (fun k _ e => Or.inr e))
theorem row_cell {W : World} {B g n c j : Nat} {t : TypeId} {xs : List Value} {u : Value} (h : W.ownsRow B t 1 (.slice (some ⟨g, 0, none⟩) n c) n xs) (hu : xs[j]? = some u) : W.cell? ⟨g, j, none⟩ = some u ∧ W.frozen? ⟨g, j, none⟩ = false := by
  rcases h.2 with ⟨e, _⟩ | ⟨g', cap, cur, e, hb, hg, hn, hc, hs, ht⟩
  · cases e
  · cases e
    have hj : j < n := by
      have := (List.getElem?_eq_some_iff.1 hu).1
      have h0 := h.1
      omega
    rw [← ht, Nat.mul_one, List.getElem?_take_of_lt hj] at hu
    exact ⟨cell_of hg (by simpa using hu), fz_of hg⟩
theorem row_nomap {W : World} {B sz n k m : Nat} {t kt e : TypeId} {v : Value} {xs : List Value} {D : DataW Unit} (h : W.ownsRow B t sz v n xs) (hk : v.ownBlock = some k) (o : W.ownsMap Try.prog kt (plainElem Try.prog e) k m D) : False := by
  obtain ⟨cs, fr, hx⟩ := own_ty h hk
  obtain ⟨es, ck, h1, _⟩ := o
  rw [hx] at h1
  cases h1
theorem row_some {W : World} {B t n : Nat} {v : Value} {xs : List Value} (h : W.ownsRow B t 1 v n xs) (hn : 0 < n) : ∃ g c, v = .slice (some ⟨g, 0, none⟩) n c := by
  rcases h.2 with ⟨_, e⟩ | ⟨g, cap, cur, e, _⟩
  · omega
  · exact ⟨g, cap, e⟩
def kbP (B : Nat) : MkP := fun x lo hi W => x = .pointer (some ⟨lo, 0, none⟩) ∧ B ≤ lo ∧ lo < hi ∧ W.heap[lo]? = some (.cells #[.int .i64 0, .int .i64 0] 69 (0, 0))
theorem kbP_mono {B : Nat} : MonoP (kbP B) := fun _ _ _ _ _ hs d ⟨e, l, l2, z⟩ => ⟨e, l, l2, (d.block _ (by omega)).trans z⟩
/-- What the groups are: of those in P, by their keys. -/
structure GrK (ky : Nat → Nat × Nat) (P : List Nat) (Ky : List (Nat × Nat)) (GL : Nat → List Nat) : Prop where
  nd : Ky.Nodup
  gl : ∀ j (h : j < Ky.length), GL j = P.filter (fun s => decide (ky s = Ky[j]))
  kin : ∀ s ∈ P, ky s ∈ Ky
  ex : ∀ k ∈ Ky, ∃ s ∈ P, ky s = k
theorem nodup_inj {α : Type} {l : List α} (h : l.Nodup) {i j : Nat} (hi : i < l.length) (hj : j < l.length) (e : l[i] = l[j]) : i = j := by
  have q := List.pairwise_iff_getElem.1 h
  rcases Nat.lt_trichotomy i j with g | g | g
  · exact absurd e (q i j hi hj g)
  · exact g
  · exact absurd e.symm (q j i hj hi g)
theorem GrK.old {ky : Nat → Nat × Nat} {P : List Nat} {Ky : List (Nat × Nat)} {GL : Nat → List Nat} {s j0 : Nat} (h : GrK ky P Ky GL) (hj : j0 < Ky.length) (e : Ky[j0] = ky s) : GrK ky (P ++ [s]) Ky (updF GL j0 (GL j0 ++ [s])) := by
  refine ⟨h.nd, fun j hj2 => ?_, fun t ht => ?_, fun k hk => ?_⟩
  · rw [List.filter_append]
    by_cases q : j = j0
    · subst q
      rw [updF_same, h.gl j hj2]
      simp [e]
    · rw [updF_ne _ _ q, h.gl j hj2]
      have : ¬ ky s = Ky[j] := fun z => q (nodup_inj h.nd hj2 hj (by rw [← z]; exact e.symm))
      simp [this]
  · rcases List.mem_append.1 ht with q | q
    · exact h.kin t q
    · rw [List.mem_singleton] at q; subst q; rw [← e]; exact List.getElem_mem hj
  · obtain ⟨t, ht, q⟩ := h.ex k hk
    exact ⟨t, by simp [ht], q⟩
theorem GrK.new {ky : Nat → Nat × Nat} {P : List Nat} {Ky : List (Nat × Nat)} {GL : Nat → List Nat} {s : Nat} (h : GrK ky P Ky GL) (hs : ky s ∉ Ky) : GrK ky (P ++ [s]) (Ky ++ [ky s]) (updF (updF GL Ky.length []) Ky.length [s]) := by
  have e0 : P.filter (fun t => decide (ky t = ky s)) = [] := by
    rw [List.filter_eq_nil_iff]
    intro t ht q
    exact hs (by rw [← of_decide_eq_true q]; exact h.kin t ht)
  refine ⟨List.nodup_append.2 ⟨h.nd, by simp, fun a ha b hb e => by rw [List.mem_singleton] at hb; subst hb; subst e; exact hs ha⟩, fun j hj => ?_, fun t ht => ?_, fun k hk => ?_⟩
  · rw [List.filter_append]
    by_cases q : j = Ky.length
    · subst q
      rw [updF_same]
      simp only [List.getElem_append_right (Nat.le_refl _), Nat.sub_self, List.getElem_cons_zero]
      rw [e0]
      simp
    · have hj2 : j < Ky.length := by simp at hj; omega
      rw [updF_ne _ _ q, updF_ne _ _ q, h.gl j hj2]
      simp only [List.getElem_append_left hj2]
      have : ¬ ky s = Ky[j] := fun z => hs (by rw [z]; exact List.getElem_mem hj2)
      simp [this]
  · rcases List.mem_append.1 ht with q | q
    · exact List.mem_append.2 (Or.inl (h.kin t q))
    · rw [List.mem_singleton] at q; subst q; simp
  · rcases List.mem_append.1 hk with q | q
    · obtain ⟨t, ht, z⟩ := h.ex k q
      exact ⟨t, by simp [ht], z⟩
    · rw [List.mem_singleton] at q; exact ⟨s, by simp, q.symm⟩
/-! ### groups -/
/-- The flags that are left when those of P have been cleared. -/
def flC (M a : Nat) (fl : Nat → Bool) (P : List Nat) : Nat → Bool := fun p => fl p && !decide (p ∈ P.map (fun s => s * M + a))
def kyF (Nx : List Int) (M a : Nat) (cl : Nat → Nat) : Nat → Nat × Nat := fun s => (cl s, cl (dl Nx M s a))
theorem kin_len {ky : Nat → Nat × Nat} {P : List Nat} {Ky : List (Nat × Nat)} {GL : Nat → List Nat} (h : GrK ky P Ky GL) : Ky.length ≤ P.length := by
  have := sub_len Ky (P.map ky) h.nd (fun k hk => by
    obtain ⟨s, hs, e⟩ := h.ex k hk
    exact List.mem_map.2 ⟨s, hs, e⟩)
  rwa [List.length_map] at this
theorem row_two {W : World} {B k n sz : Nat} {t : TypeId} {v u : Value} {xs : List Value} {X : List Int} (h : W.ownsRow B t sz v n xs) (h' : OwI W B u X) (ne : (3 : TypeId) ≠ t) (hk : v.ownBlock = some k) (hk' : u.ownBlock = some k) : False := by
  obtain ⟨cs, fr, hx⟩ := own_ty h' hk'
  exact row_tag h hx ne hk
set_option maxRecDepth 100000 in
set_option maxHeartbeats 8000000 in
theorem groups_any (B : Nat) (Z : Nat → Prop) (w : World) (b N M gf : Nat) (aN : Option Addr) (lN cN gc gw gs gi : Nat) (V : Nat → Value) (L : Nat → List Nat) (cl : Nat → Nat) (fl : Nat → Bool) (Nx : List Int) (a : Nat) (h : PaR B Z w b N M gf aN lN cN gc gw gs gi V L cl fl) (hW : WtOk N M L fl) (hlN : lN = N * M) (bl : lN ≤ 4194304) (bN : N ≤ 4194304) (bM : M ≤ 4194304) (_hB : B ≤ w.heap.size) (hh : ∀ k, Z k → k < w.heap.size) (hNx : ∀ W, Only w W (Rz B Z) → RdN W aN Nx) (hl : Nx.length = N * M) (hin : ∀ x ∈ Nx, 0 ≤ x ∧ x < (N : Int)) (ha : a < M) (kl : ∀ s, s < N → cl s ≤ 4194306) :
    Calls Try.prog 71 #[.pointer (some ⟨b, 0, none⟩), .int .i64 (a : Int)] w fun e w' => ∃ bg n cg, e = .returned (.slice bg n cg) ∧ ∃ val GL Ky, Hid (PaR B (fun k => Z k ∨ (w.heap.size ≤ k ∧ k < w'.heap.size)) w' b N M gf aN lN cN gc gw gs gi (updF V (1 + a) (.slice none 0 0)) (updF L (1 + a) []) cl (fun p => fl p && !decide (p % M = a)) ∧ n = Ky.length ∧ GrS w.heap.size gc w' (.slice bg n cg) n val GL ∧ GrK (kyF Nx M a cl) (L (1 + a)) Ky GL ∧ Only w w' (Rz B Z)) := by
  obtain ⟨H, hH⟩ : ∃ H, w.heap.size = H := ⟨_, rfl⟩
  obtain ⟨WL, hWL⟩ : ∃ X, L (1 + a) = X := ⟨_, rfl⟩
  obtain ⟨Zp, hZp⟩ : ∃ Zp : Nat → Prop, (fun k => Z k ∨ H ≤ k) = Zp := ⟨_, rfl⟩
  have hWa := hW a ha
  rw [hWL] at hWa
  have hlen : WL.length ≤ N := nodup_le hWa.1 (fun q hq => ((hWa.2 q).1 hq).1)
  obtain ⟨nW, hnW⟩ : ∃ n, WL.length = n := ⟨_, rfl⟩
  have hO := h.fam.own (1 + a) (by omega)
  rw [hWL] at hO
  obtain ⟨t1, k1, hv⟩ := own_slice hO
  rw [natI_len, hnW] at hv
  have hp : PaR B Zp w b N M gf aN lN cN gc gw gs gi V L cl fl := h.zone (fun k hk z => by rw [← hZp] at z; exact z.elim id (fun q => by omega))
  obtain ⟨w1, hw1⟩ : ∃ w1, w.alloc (.map #[] 0) = w1 := ⟨_, rfl⟩
  have D1 : Below w.heap.size w w1 := by rw [← hw1]; exact (Below.refl _ _).alloc (Nat.le_refl _) _
  have s1 : w1.heap.size = H + 1 := by rw [← hw1, ← hH]; simp
  have M1 : w1.ownsMap Try.prog 69 (plainElem Try.prog 3) H 0 (.map [] : DataW Unit) := by rw [← hw1, ← hH]; exact World.ownsMap_made w _ _ _
  have y5 : w1.cell? ⟨b, 5, none⟩ = some (.slice (some ⟨gw, 0, none⟩) M M) := cell_of (hp.below D1).bx rfl
  have yW : w1.cell? ⟨gw, a, none⟩ = some (.slice t1 nW k1) := by have := (hp.below D1).wr.at a ha; rwa [hv] at this
  have a0 : (0 : Int) ≤ (a : Int) := by omega
  have a1 : (a : Int) < (M : Int) := by omega
  have J0 : Hid (PaR B Zp w1 b N M gf aN lN cN gc gw gs gi V L cl (flC M a fl (WL.take 0)) ∧ (∃ Dm : DataW Unit, w1.ownsMap Try.prog 69 (plainElem Try.prog 3) H ([] : List (Nat × Nat)).length Dm ∧ IsPl kPrs Dm ([] : List (Nat × Nat))) ∧ GrS H gc w1 (.slice none 0 0) ([] : List (Nat × Nat)).length (fun _ => .slice none 0 0) (fun _ => []) ∧ GrK (kyF Nx M a cl) (WL.take 0) ([] : List (Nat × Nat)) (fun _ => []) ∧ Only w w1 (fun k => Rz B Z k ∨ H ≤ k)) := hide ⟨(hp.below D1).alike (fun _ _ => rfl) (fun p _ => by simp [flC]), ⟨_, M1, isPl_nil kPrs⟩, ⟨World.ownsRow_nil _ _ _ _, ⟨fun i hi => by simp at hi, fun i j hi => by simp at hi, fun i hi => by simp at hi, fun i hi => by simp at hi⟩⟩, ⟨List.nodup_nil, fun j hj => by simp at hj, fun s hs => by simp at hs, fun k hk => by cases hk⟩, Only.ofBelow D1⟩
  have hWlN : nW ≤ 4194304 := by omega
  have HZ := hide (And.intro h (And.intro hW (And.intro hlN (And.intro hh (And.intro hNx (And.intro hl (And.intro hin kl)))))))
  have HX := hide (And.intro hH (And.intro hWL (And.intro hZp (And.intro hWa (And.intro hlen (And.intro hnW (And.intro hv s1)))))))
  have bNM : N * M ≤ 4194304 := by rw [← hlN]; exact bl
  have HNM := hide bNM
  clear h hW hlN hh hNx hl hin kl hH hWL hZp hWa hlen hnW hv s1 hO hp D1 M1 bNM
  have hmm := @run_makeMap Try.prog
  go_enter Try.func71, Try.ntmps71
  go_upto_region 3 with fail
  try rw [hw1]
  rw [HX.out.1]
  clear hmm
  have hw1' := hide hw1
  clear hw1
  go_wp2_with fail
  clear y5 yW
  go_loopw [5, 21] (fun v5 iv wr => ∃ i : Nat, i ≤ nW ∧ iv = .int .i64 (i : Int) ∧ ∃ (Ky : List (Nat × Nat)) (val : Nat → Value) (GL : Nat → List Nat), Hid (PaR B Zp wr b N M gf aN lN cN gc gw gs gi V L cl (flC M a fl (WL.take i)) ∧ (∃ Dm : DataW Unit, wr.ownsMap Try.prog 69 (plainElem Try.prog 3) H Ky.length Dm ∧ IsPl kPrs Dm Ky) ∧ GrS H gc wr v5 Ky.length val GL ∧ GrK (kyF Nx M a cl) (WL.take i) Ky GL ∧ Only w wr (fun k => Rz B Z k ∨ H ≤ k))) (fun _ iv _ => nW - (intOf iv).toNat)
  case atStart => exact ⟨0, Nat.zero_le _, rfl, [], _, _, J0⟩
  case round =>
    clear J0
    obtain ⟨i, hi, rfl, Ky, val, GL, HY⟩ := hrel
    by_cases hlt : i < nW
    · have i0 : (i : Int) < (nW : Int) := by omega
      have i1 : (0 : Int) ≤ (i : Int) := by omega
      have hil : i < WL.length := by have := HX.out.2.2.2.2.2.1; omega
      obtain ⟨s, hs⟩ : ∃ s, WL[i]'hil = s := ⟨_, rfl⟩
      have hsm := (HX.out.2.2.2.1.2 s).1 (by rw [← hs]; exact List.getElem_mem hil)
      have hsN := hsm.1
      have hO := HY.out.1.fam.own (1 + a) (by omega)
      rw [HX.out.2.1, HX.out.2.2.2.2.2.2.1] at hO
      obtain ⟨gx, ox, ex, cx1⟩ := natI_rd (owI_rd hO).2 i hil
      rw [hs] at cx1
      subst ex
      have HSI : Hid (WL[i]? = some s) := hide (by rw [List.getElem?_eq_getElem hil, hs])
      obtain ⟨sM, hsM⟩ : ∃ x, s * M = x := ⟨_, rfl⟩
      obtain ⟨p, hpp⟩ : ∃ x, sM + a = x := ⟨_, rfl⟩
      have HSP : Hid (s * M + a = p) := hide (by rw [hsM]; exact hpp)
      have hpl : p < lN := by rw [← HSP.out, HZ.out.2.2.1]; exact place_lt hsN ha
      have iw1 : IntKind.i64.wrap ((s : Int) * (M : Int)) = (sM : Int) := by
        have e : ((s * M : Nat) : Int) = (s : Int) * (M : Int) := by simp
        rw [← e, hsM, IntKind.wrap_i64]
        omega
      have iw2 : IntKind.i64.wrap ((sM : Int) + (a : Int)) = (p : Int) := by rw [IntKind.wrap_i64]; omega
      have l0 : (0 : Int) ≤ (p : Int) := by omega
      have l1 : (p : Int) < (lN : Int) := by omega
      have s0 : (0 : Int) ≤ (s : Int) := by omega
      have s1 : (s : Int) < (N : Int) := by omega
      obtain ⟨t, ht⟩ : ∃ t, dl Nx M s a = t := ⟨_, rfl⟩
      have htN : t < N := by rw [← ht]; exact (dl_spec HZ.out.2.2.2.2.2.1 HZ.out.2.2.2.2.2.2.1 hsN ha).2.2
      have t0 : (0 : Int) ≤ (t : Int) := by omega
      have t9 : (t : Int) < (N : Int) := by omega
      obtain ⟨c1, hc1'⟩ : ∃ c, cl s = c := ⟨_, rfl⟩
      obtain ⟨c2, hc2'⟩ : ∃ c, cl t = c := ⟨_, rfl⟩
      have hc1 : c1 ≤ 4194306 := by rw [← hc1']; exact HZ.out.2.2.2.2.2.2.2 s hsN
      have hc2 : c2 ≤ 4194306 := by rw [← hc2']; exact HZ.out.2.2.2.2.2.2.2 t htN
      have HC1 := hide hc1'
      have HC2 := hide hc2'
      have HTT := hide ht
      have HPI := hide HY.out.1
      have HOW : Hid (Only w wr (Rz B Z)) := hide (HY.out.2.2.2.2.mono (fun k hk e => by
        rcases e with e | e
        · exact e
        · have := HX.out.1; omega))
      clear hs hil hsm hO hsM hpp ht hc1' hc2'
      go_upto_region 6 with fail
      clear cx1
      have hmo : MonIL 0 [vI 0 (.pointer (some ⟨b, 0, none⟩)), vI 1 (.pointer (some ⟨b, 0, none⟩)), vI 2 (.pointer (some ⟨b, 6, none⟩)), vI 3 (.slice (some ⟨gs, 0, none⟩) lN lN), vI 4 (.int .i64 (s : Int)), vI 5 (.pointer (some ⟨b, 0, none⟩)), vI 6 (.pointer (some ⟨b, 0, none⟩)), vI 7 (.pointer (some ⟨b, 0, none⟩)), vI 8 (.pointer (some ⟨b, 0, none⟩)), vI 9 (.int .i64 (M : Int)), vI 10 (.int .i64 (sM : Int)), vI 11 (.int .i64 (a : Int)), vI 12 (.int .i64 (p : Int)), vI 13 (.pointer (some ⟨gs, p, none⟩))] := ⟨vI_mono _ _, vI_mono _ _, vI_mono _ _, vI_mono _ _, vI_mono _ _, vI_mono _ _, vI_mono _ _, vI_mono _ _, vI_mono _ _, vI_mono _ _, vI_mono _ _, vI_mono _ _, vI_mono _ _, vI_mono _ _, trivial⟩
      refine wp_region_sl [vI 0 (.pointer (some ⟨b, 0, none⟩)), vI 1 (.pointer (some ⟨b, 0, none⟩)), vI 2 (.pointer (some ⟨b, 6, none⟩)), vI 3 (.slice (some ⟨gs, 0, none⟩) lN lN), vI 4 (.int .i64 (s : Int)), vI 5 (.pointer (some ⟨b, 0, none⟩)), vI 6 (.pointer (some ⟨b, 0, none⟩)), vI 7 (.pointer (some ⟨b, 0, none⟩)), vI 8 (.pointer (some ⟨b, 0, none⟩)), vI 9 (.int .i64 (M : Int)), vI 10 (.int .i64 (sM : Int)), vI 11 (.int .i64 (a : Int)), vI 12 (.int .i64 (p : Int)), vI 13 (.pointer (some ⟨gs, p, none⟩))] (by kernel_rfl) (by kernel_rfl) (by kernel_rfl) (by kernel_rfl) hmo ⟨?o0, ?o1, ?o2, ?o3, ?o4, ?o5, ?o6, ?o7, ?o8, ?o9, ?o10, ?o11, ?o12, ?o13, trivial⟩ ?fin
      case o0 =>
        intro At yy W hy hb d hd K hK
        have s0 : At.tmps.getD 0 undef = .pointer (some ⟨b, 0, none⟩) := hb 0 rfl
        have s0' := s0
        rw [Array.getD_eq_getD_getElem?] at s0'
        clear hd hy hb
        go_simp
        exact hK.out _ W (stp_of hmo d (Below.refl _ _)) (if_pos rfl)
      case o1 =>
        intro At yy W hy hb d hd K hK
        have e0 : yy 0 = .pointer (some ⟨b, 0, none⟩) := by obtain ⟨_, _, _, _, e⟩ := hd ⟨0, .data⟩ (by simp) rfl rfl; exact e
        have s25 := (hy 0 _ 25 rfl rfl).trans e0
        have s25' := s25
        rw [Array.getD_eq_getD_getElem?] at s25'
        clear hd hy hb
        go_simp
        exact hK.out _ W (stp_of hmo d (Below.refl _ _)) (if_pos rfl)
      case o2 =>
        intro At yy W hy hb d hd K hK
        have e1 : yy 1 = .pointer (some ⟨b, 0, none⟩) := by obtain ⟨_, _, _, _, e⟩ := hd ⟨1, .data⟩ (by simp) rfl rfl; exact e
        have s26 := (hy 1 _ 26 rfl rfl).trans e1
        have s26' := s26
        rw [Array.getD_eq_getD_getElem?] at s26'
        clear hd hy hb
        go_simp
        exact hK.out _ W (stp_of hmo d (Below.refl _ _)) (if_pos rfl)
      case o3 =>
        intro At yy W hy hb d hd K hK
        have e2 : yy 2 = .pointer (some ⟨b, 6, none⟩) := by obtain ⟨_, _, _, _, e⟩ := hd ⟨2, .data⟩ (by simp) rfl rfl; exact e
        have s27 := (hy 2 _ 27 rfl rfl).trans e2
        have s27' := s27
        rw [Array.getD_eq_getD_getElem?] at s27'
        clear hd hy hb
        have y6 : W.cell? ⟨b, 6, none⟩ = some (.slice (some ⟨gs, 0, none⟩) lN lN) := cell_of (blk_on HPI.out.bx d) rfl
        go_simp
        exact hK.out _ W (stp_of hmo d (Below.refl _ _)) (if_pos rfl)
      case o4 =>
        intro At yy W hy hb d hd K hK
        have s8 : At.tmps.getD 8 undef = .int .i64 (s : Int) := hb 8 rfl
        have s8' := s8
        rw [Array.getD_eq_getD_getElem?] at s8'
        clear hd hy hb
        go_simp
        exact hK.out _ W (stp_of hmo d (Below.refl _ _)) (if_pos rfl)
      case o5 =>
        intro At yy W hy hb d hd K hK
        have s0 : At.tmps.getD 0 undef = .pointer (some ⟨b, 0, none⟩) := hb 0 rfl
        have s0' := s0
        rw [Array.getD_eq_getD_getElem?] at s0'
        clear hd hy hb
        go_simp
        exact hK.out _ W (stp_of hmo d (Below.refl _ _)) (if_pos rfl)
      case o6 =>
        intro At yy W hy hb d hd K hK
        have e5 : yy 5 = .pointer (some ⟨b, 0, none⟩) := by obtain ⟨_, _, _, _, e⟩ := hd ⟨5, .data⟩ (by simp) rfl rfl; exact e
        have s30 := (hy 5 _ 30 rfl rfl).trans e5
        have s30' := s30
        rw [Array.getD_eq_getD_getElem?] at s30'
        clear hd hy hb
        go_simp
        exact hK.out _ W (stp_of hmo d (Below.refl _ _)) (if_pos rfl)
      case o7 =>
        intro At yy W hy hb d hd K hK
        have e6 : yy 6 = .pointer (some ⟨b, 0, none⟩) := by obtain ⟨_, _, _, _, e⟩ := hd ⟨6, .data⟩ (by simp) rfl rfl; exact e
        have s31 := (hy 6 _ 31 rfl rfl).trans e6
        have s31' := s31
        rw [Array.getD_eq_getD_getElem?] at s31'
        clear hd hy hb
        go_simp
        exact hK.out _ W (stp_of hmo d (Below.refl _ _)) (if_pos rfl)
      case o8 =>
        intro At yy W hy hb d hd K hK
        have e7 : yy 7 = .pointer (some ⟨b, 0, none⟩) := by obtain ⟨_, _, _, _, e⟩ := hd ⟨7, .data⟩ (by simp) rfl rfl; exact e
        have s32 := (hy 7 _ 32 rfl rfl).trans e7
        have s32' := s32
        rw [Array.getD_eq_getD_getElem?] at s32'
        clear hd hy hb
        go_simp
        exact hK.out _ W (stp_of hmo d (Below.refl _ _)) (if_pos rfl)
      case o9 =>
        intro At yy W hy hb d hd K hK
        have e8 : yy 8 = .pointer (some ⟨b, 0, none⟩) := by obtain ⟨_, _, _, _, e⟩ := hd ⟨8, .data⟩ (by simp) rfl rfl; exact e
        have s33 := (hy 8 _ 33 rfl rfl).trans e8
        have s33' := s33
        rw [Array.getD_eq_getD_getElem?] at s33'
        clear hd hy hb
        have y0 : W.cell? ⟨b, 0, none⟩ = some (.int .i64 (M : Int)) := cell_of (blk_on HPI.out.bx d) rfl
        go_simp
        exact hK.out _ W (stp_of hmo d (Below.refl _ _)) (if_pos rfl)
      case o10 =>
        intro At yy W hy hb d hd K hK
        have e4 : yy 4 = .int .i64 (s : Int) := by obtain ⟨_, _, _, _, e⟩ := hd ⟨4, .data⟩ (by simp) rfl rfl; exact e
        have e9 : yy 9 = .int .i64 (M : Int) := by obtain ⟨_, _, _, _, e⟩ := hd ⟨9, .data⟩ (by simp) rfl rfl; exact e
        have s29 := (hy 4 _ 29 rfl rfl).trans e4
        have s29' := s29
        rw [Array.getD_eq_getD_getElem?] at s29'
        have s34 := (hy 9 _ 34 rfl rfl).trans e9
        have s34' := s34
        rw [Array.getD_eq_getD_getElem?] at s34'
        clear hd hy hb
        go_simp
        exact hK.out _ W (stp_of hmo d (Below.refl _ _)) (if_pos rfl)
      case o11 =>
        intro At yy W hy hb d hd K hK
        have s1 : At.tmps.getD 1 undef = .int .i64 (a : Int) := hb 1 rfl
        have s1' := s1
        rw [Array.getD_eq_getD_getElem?] at s1'
        clear hd hy hb
        go_simp
        exact hK.out _ W (stp_of hmo d (Below.refl _ _)) (if_pos rfl)
      case o12 =>
        intro At yy W hy hb d hd K hK
        have e10 : yy 10 = .int .i64 (sM : Int) := by obtain ⟨_, _, _, _, e⟩ := hd ⟨10, .data⟩ (by simp) rfl rfl; exact e
        have e11 : yy 11 = .int .i64 (a : Int) := by obtain ⟨_, _, _, _, e⟩ := hd ⟨11, .data⟩ (by simp) rfl rfl; exact e
        have s35 := (hy 10 _ 35 rfl rfl).trans e10
        have s35' := s35
        rw [Array.getD_eq_getD_getElem?] at s35'
        have s36 := (hy 11 _ 36 rfl rfl).trans e11
        have s36' := s36
        rw [Array.getD_eq_getD_getElem?] at s36'
        clear hd hy hb
        go_simp
        exact hK.out _ W (stp_of hmo d (Below.refl _ _)) (if_pos rfl)
      case o13 =>
        intro At yy W hy hb d hd K hK
        have e3 : yy 3 = .slice (some ⟨gs, 0, none⟩) lN lN := by obtain ⟨_, _, _, _, e⟩ := hd ⟨3, .data⟩ (by simp) rfl rfl; exact e
        have e12 : yy 12 = .int .i64 (p : Int) := by obtain ⟨_, _, _, _, e⟩ := hd ⟨12, .data⟩ (by simp) rfl rfl; exact e
        have s28 := (hy 3 _ 28 rfl rfl).trans e3
        have s28' := s28
        rw [Array.getD_eq_getD_getElem?] at s28'
        have s37 := (hy 12 _ 37 rfl rfl).trans e12
        have s37' := s37
        rw [Array.getD_eq_getD_getElem?] at s37'
        clear hd hy hb
        go_simp
        exact hK.out _ W (stp_of hmo d (Below.refl _ _)) (if_pos rfl)
      case fin =>
        intro yy lo hi W hM
        show wpList _ _ _ [_] _ _
        have e0 : yy 0 = .pointer (some ⟨b, 0, none⟩) := hM.fact 0 (by simp) rfl (notR_all 0 rfl)
        have e1 : yy 1 = .pointer (some ⟨b, 0, none⟩) := hM.fact 1 (by simp) rfl (notR_all 1 rfl)
        have e2 : yy 2 = .pointer (some ⟨b, 6, none⟩) := hM.fact 2 (by simp) rfl (notR_all 2 rfl)
        have e3 : yy 3 = .slice (some ⟨gs, 0, none⟩) lN lN := hM.fact 3 (by simp) rfl (notR_all 3 rfl)
        have e4 : yy 4 = .int .i64 (s : Int) := hM.fact 4 (by simp) rfl (notR_all 4 rfl)
        have e5 : yy 5 = .pointer (some ⟨b, 0, none⟩) := hM.fact 5 (by simp) rfl (notR_all 5 rfl)
        have e6 : yy 6 = .pointer (some ⟨b, 0, none⟩) := hM.fact 6 (by simp) rfl (notR_all 6 rfl)
        have e7 : yy 7 = .pointer (some ⟨b, 0, none⟩) := hM.fact 7 (by simp) rfl (notR_all 7 rfl)
        have e8 : yy 8 = .pointer (some ⟨b, 0, none⟩) := hM.fact 8 (by simp) rfl (notR_all 8 rfl)
        have e9 : yy 9 = .int .i64 (M : Int) := hM.fact 9 (by simp) rfl (notR_all 9 rfl)
        have e10 : yy 10 = .int .i64 (sM : Int) := hM.fact 10 (by simp) rfl (notR_all 10 rfl)
        have e11 : yy 11 = .int .i64 (a : Int) := hM.fact 11 (by simp) rfl (notR_all 11 rfl)
        have e12 : yy 12 = .int .i64 (p : Int) := hM.fact 12 (by simp) rfl (notR_all 12 rfl)
        have e13 : yy 13 = .pointer (some ⟨gs, p, none⟩) := hM.fact 13 (by simp) rfl (notR_all 13 rfl)
        have dd := hM.d
        simp only [fills, Act.put, List.take, List.length, List.setIfInBounds_toArray, List.set_cons_zero, List.set_cons_succ, e0, e1, e2, e3, e4, e5, e6, e7, e8, e9, e10, e11, e12, e13]
        clear hM hmo e0 e1 e2 e3 e4 e5 e6 e7 e8 e9 e10 e11 e12 e13
        obtain ⟨u8, c8⟩ := (HPI.out.below dd).sr.cell p hpl
        have f8 := (HPI.out.below dd).sr.fz p
        obtain ⟨w7, hw7⟩ : ∃ w7, W.setCell ⟨gs, p, none⟩ (.bool false) = w7 := ⟨_, rfl⟩
        have HF := hide ((HPI.out.below dd).flag p false)
        rw [hw7] at HF
        have O7 : Only wr w7 (fun k => k = gs) := (Only.ofBelow dd).trans HF.out.2
        have HO7 := hide O7
        clear dd O7
        go_upto_region 7 with fail
        try rw [hw7]
        clear c8 f8 hw7
        have HPI := hide HF.out.1
        have hgsZ := HZ.out.1.zo.2.2.2.1
        have HOW7 : Hid (Only w w7 (Rz B Z)) := hide (HOW.out.trans (HO7.out.mono (fun k _ e => by rw [e]; exact hgsZ)))
        have hH7 : H ≤ w7.heap.size := by have := HX.out.1; have := HOW7.out.size; omega
        have TF : Hid (∀ W, Below w7.heap.size w7 W → Calls Try.prog 35 #[.agg #[.int .i64 (M : Int), .slice (some ⟨gf, 0, none⟩) N N, .slice aN lN cN], .int .i64 (s : Int), .int .i64 (a : Int)] W fun e w' => e = .returned (.int .i64 (t : Int)) ∧ Below W.heap.size W w') := hide (fun W d => by
          have q := follow_rd W M N s a lN cN (some ⟨gf, 0, none⟩) N N aN Nx ((HZ.out.2.2.2.2.1 w7 HOW7.out).on d) HZ.out.2.2.2.2.2.1 HZ.out.2.2.2.2.2.2.1 HZ.out.2.2.1 hsN ha HNM.out bM bN
          rw [HTT.out] at q
          exact q)
        have hmo : MonIL 0 [vI 0 (.pointer (some ⟨b, 0, none⟩)), vI 1 (.pointer (some ⟨b, 0, none⟩)), vI 2 (.pointer (some ⟨b, 3, none⟩)), vI 3 (.slice (some ⟨gc, 0, none⟩) N N), vI 4 (.int .i64 (s : Int)), vI 5 (.pointer (some ⟨gc, s, none⟩)), vI 6 (.int .i64 (c1 : Int)), vI 7 (.pointer (some ⟨b, 0, none⟩)), vI 8 (.pointer (some ⟨b, 0, none⟩)), vI 9 (.pointer (some ⟨b, 3, none⟩)), vI 10 (.slice (some ⟨gc, 0, none⟩) N N), vI 11 (.pointer (some ⟨b, 0, none⟩)), vI 12 (.pointer (some ⟨b, 0, none⟩)), vI 13 (.pointer (some ⟨b, 0, none⟩)), vI 14 (.agg #[.int .i64 (M : Int), .slice (some ⟨gf, 0, none⟩) N N, .slice aN lN cN]), vI 15 (.int .i64 (s : Int)), vI 16 (.int .i64 (a : Int)), vI 17 (.int .i64 (t : Int)), vI 18 (.pointer (some ⟨gc, t, none⟩)), vI 19 (.int .i64 (c2 : Int)), vI 20 (.agg #[.int .i64 (c1 : Int), .int .i64 (c2 : Int)]), pI 21 (kbP w7.heap.size)] := ⟨vI_mono _ _, vI_mono _ _, vI_mono _ _, vI_mono _ _, vI_mono _ _, vI_mono _ _, vI_mono _ _, vI_mono _ _, vI_mono _ _, vI_mono _ _, vI_mono _ _, vI_mono _ _, vI_mono _ _, vI_mono _ _, vI_mono _ _, vI_mono _ _, vI_mono _ _, vI_mono _ _, vI_mono _ _, vI_mono _ _, vI_mono _ _, pI_mono kbP_mono, trivial⟩
        refine wp_region_sl [vI 0 (.pointer (some ⟨b, 0, none⟩)), vI 1 (.pointer (some ⟨b, 0, none⟩)), vI 2 (.pointer (some ⟨b, 3, none⟩)), vI 3 (.slice (some ⟨gc, 0, none⟩) N N), vI 4 (.int .i64 (s : Int)), vI 5 (.pointer (some ⟨gc, s, none⟩)), vI 6 (.int .i64 (c1 : Int)), vI 7 (.pointer (some ⟨b, 0, none⟩)), vI 8 (.pointer (some ⟨b, 0, none⟩)), vI 9 (.pointer (some ⟨b, 3, none⟩)), vI 10 (.slice (some ⟨gc, 0, none⟩) N N), vI 11 (.pointer (some ⟨b, 0, none⟩)), vI 12 (.pointer (some ⟨b, 0, none⟩)), vI 13 (.pointer (some ⟨b, 0, none⟩)), vI 14 (.agg #[.int .i64 (M : Int), .slice (some ⟨gf, 0, none⟩) N N, .slice aN lN cN]), vI 15 (.int .i64 (s : Int)), vI 16 (.int .i64 (a : Int)), vI 17 (.int .i64 (t : Int)), vI 18 (.pointer (some ⟨gc, t, none⟩)), vI 19 (.int .i64 (c2 : Int)), vI 20 (.agg #[.int .i64 (c1 : Int), .int .i64 (c2 : Int)]), pI 21 (kbP w7.heap.size)] (by kernel_rfl) (by kernel_rfl) (by kernel_rfl) (by kernel_rfl) hmo ⟨?o0, ?o1, ?o2, ?o3, ?o4, ?o5, ?o6, ?o7, ?o8, ?o9, ?o10, ?o11, ?o12, ?o13, ?o14, ?o15, ?o16, ?o17, ?o18, ?o19, ?o20, ?o21, trivial⟩ ?fin
        case o0 =>
          intro At yy W hy hb d hd K hK
          have s0 : At.tmps.getD 0 undef = .pointer (some ⟨b, 0, none⟩) := hb 0 rfl
          have s0' := s0
          rw [Array.getD_eq_getD_getElem?] at s0'
          clear hd hy hb
          go_simp
          exact hK.out _ W (stp_of hmo d (Below.refl _ _)) (if_pos rfl)
        case o1 =>
          intro At yy W hy hb d hd K hK
          have e0 : yy 0 = .pointer (some ⟨b, 0, none⟩) := by obtain ⟨_, _, _, _, e⟩ := hd ⟨0, .data⟩ (by simp) rfl rfl; exact e
          have s39 := (hy 0 _ 39 rfl rfl).trans e0
          have s39' := s39
          rw [Array.getD_eq_getD_getElem?] at s39'
          clear hd hy hb
          go_simp
          exact hK.out _ W (stp_of hmo d (Below.refl _ _)) (if_pos rfl)
        case o2 =>
          intro At yy W hy hb d hd K hK
          have e1 : yy 1 = .pointer (some ⟨b, 0, none⟩) := by obtain ⟨_, _, _, _, e⟩ := hd ⟨1, .data⟩ (by simp) rfl rfl; exact e
          have s40 := (hy 1 _ 40 rfl rfl).trans e1
          have s40' := s40
          rw [Array.getD_eq_getD_getElem?] at s40'
          clear hd hy hb
          go_simp
          exact hK.out _ W (stp_of hmo d (Below.refl _ _)) (if_pos rfl)
        case o3 =>
          intro At yy W hy hb d hd K hK
          have e2 : yy 2 = .pointer (some ⟨b, 3, none⟩) := by obtain ⟨_, _, _, _, e⟩ := hd ⟨2, .data⟩ (by simp) rfl rfl; exact e
          have s41 := (hy 2 _ 41 rfl rfl).trans e2
          have s41' := s41
          rw [Array.getD_eq_getD_getElem?] at s41'
          clear hd hy hb
          have y3 : W.cell? ⟨b, 3, none⟩ = some (.slice (some ⟨gc, 0, none⟩) N N) := cell_of (blk_on HPI.out.bx d) rfl
          go_simp
          exact hK.out _ W (stp_of hmo d (Below.refl _ _)) (if_pos rfl)
        case o4 =>
          intro At yy W hy hb d hd K hK
          have s8 : At.tmps.getD 8 undef = .int .i64 (s : Int) := hb 8 rfl
          have s8' := s8
          rw [Array.getD_eq_getD_getElem?] at s8'
          clear hd hy hb
          go_simp
          exact hK.out _ W (stp_of hmo d (Below.refl _ _)) (if_pos rfl)
        case o5 =>
          intro At yy W hy hb d hd K hK
          have e3 : yy 3 = .slice (some ⟨gc, 0, none⟩) N N := by obtain ⟨_, _, _, _, e⟩ := hd ⟨3, .data⟩ (by simp) rfl rfl; exact e
          have e4 : yy 4 = .int .i64 (s : Int) := by obtain ⟨_, _, _, _, e⟩ := hd ⟨4, .data⟩ (by simp) rfl rfl; exact e
          have s42 := (hy 3 _ 42 rfl rfl).trans e3
          have s42' := s42
          rw [Array.getD_eq_getD_getElem?] at s42'
          have s43 := (hy 4 _ 43 rfl rfl).trans e4
          have s43' := s43
          rw [Array.getD_eq_getD_getElem?] at s43'
          clear hd hy hb
          go_simp
          exact hK.out _ W (stp_of hmo d (Below.refl _ _)) (if_pos rfl)
        case o6 =>
          intro At yy W hy hb d hd K hK
          have e5 : yy 5 = .pointer (some ⟨gc, s, none⟩) := by obtain ⟨_, _, _, _, e⟩ := hd ⟨5, .data⟩ (by simp) rfl rfl; exact e
          have s44 := (hy 5 _ 44 rfl rfl).trans e5
          have s44' := s44
          rw [Array.getD_eq_getD_getElem?] at s44'
          clear hd hy hb
          have y : W.cell? ⟨gc, s, none⟩ = some (.int .i64 (c1 : Int)) := by have := (HPI.out.below d).cr.at s hsN; rwa [HC1.out] at this
          go_simp
          exact hK.out _ W (stp_of hmo d (Below.refl _ _)) (if_pos rfl)
        case o7 =>
          intro At yy W hy hb d hd K hK
          have s0 : At.tmps.getD 0 undef = .pointer (some ⟨b, 0, none⟩) := hb 0 rfl
          have s0' := s0
          rw [Array.getD_eq_getD_getElem?] at s0'
          clear hd hy hb
          go_simp
          exact hK.out _ W (stp_of hmo d (Below.refl _ _)) (if_pos rfl)
        case o8 =>
          intro At yy W hy hb d hd K hK
          have e7 : yy 7 = .pointer (some ⟨b, 0, none⟩) := by obtain ⟨_, _, _, _, e⟩ := hd ⟨7, .data⟩ (by simp) rfl rfl; exact e
          have s46 := (hy 7 _ 46 rfl rfl).trans e7
          have s46' := s46
          rw [Array.getD_eq_getD_getElem?] at s46'
          clear hd hy hb
          go_simp
          exact hK.out _ W (stp_of hmo d (Below.refl _ _)) (if_pos rfl)
        case o9 =>
          intro At yy W hy hb d hd K hK
          have e8 : yy 8 = .pointer (some ⟨b, 0, none⟩) := by obtain ⟨_, _, _, _, e⟩ := hd ⟨8, .data⟩ (by simp) rfl rfl; exact e
          have s47 := (hy 8 _ 47 rfl rfl).trans e8
          have s47' := s47
          rw [Array.getD_eq_getD_getElem?] at s47'
          clear hd hy hb
          go_simp
          exact hK.out _ W (stp_of hmo d (Below.refl _ _)) (if_pos rfl)
        case o10 =>
          intro At yy W hy hb d hd K hK
          have e9 : yy 9 = .pointer (some ⟨b, 3, none⟩) := by obtain ⟨_, _, _, _, e⟩ := hd ⟨9, .data⟩ (by simp) rfl rfl; exact e
          have s48 := (hy 9 _ 48 rfl rfl).trans e9
          have s48' := s48
          rw [Array.getD_eq_getD_getElem?] at s48'
          clear hd hy hb
          have y3 : W.cell? ⟨b, 3, none⟩ = some (.slice (some ⟨gc, 0, none⟩) N N) := cell_of (blk_on HPI.out.bx d) rfl
          go_simp
          exact hK.out _ W (stp_of hmo d (Below.refl _ _)) (if_pos rfl)
        case o11 =>
          intro At yy W hy hb d hd K hK
          have s0 : At.tmps.getD 0 undef = .pointer (some ⟨b, 0, none⟩) := hb 0 rfl
          have s0' := s0
          rw [Array.getD_eq_getD_getElem?] at s0'
          clear hd hy hb
          go_simp
          exact hK.out _ W (stp_of hmo d (Below.refl _ _)) (if_pos rfl)
        case o12 =>
          intro At yy W hy hb d hd K hK
          have e11 : yy 11 = .pointer (some ⟨b, 0, none⟩) := by obtain ⟨_, _, _, _, e⟩ := hd ⟨11, .data⟩ (by simp) rfl rfl; exact e
          have s50 := (hy 11 _ 50 rfl rfl).trans e11
          have s50' := s50
          rw [Array.getD_eq_getD_getElem?] at s50'
          clear hd hy hb
          go_simp
          exact hK.out _ W (stp_of hmo d (Below.refl _ _)) (if_pos rfl)
        case o13 =>
          intro At yy W hy hb d hd K hK
          have e12 : yy 12 = .pointer (some ⟨b, 0, none⟩) := by obtain ⟨_, _, _, _, e⟩ := hd ⟨12, .data⟩ (by simp) rfl rfl; exact e
          have s51 := (hy 12 _ 51 rfl rfl).trans e12
          have s51' := s51
          rw [Array.getD_eq_getD_getElem?] at s51'
          clear hd hy hb
          go_simp
          exact hK.out _ W (stp_of hmo d (Below.refl _ _)) (if_pos rfl)
        case o14 =>
          intro At yy W hy hb d hd K hK
          have e13 : yy 13 = .pointer (some ⟨b, 0, none⟩) := by obtain ⟨_, _, _, _, e⟩ := hd ⟨13, .data⟩ (by simp) rfl rfl; exact e
          have s52 := (hy 13 _ 52 rfl rfl).trans e13
          have s52' := s52
          rw [Array.getD_eq_getD_getElem?] at s52'
          clear hd hy hb
          have y0 : W.cell? ⟨b, 0, none⟩ = some (.int .i64 (M : Int)) := cell_of (blk_on HPI.out.bx d) rfl
          have y1 : W.cell? ⟨b, 1, none⟩ = some (.slice (some ⟨gf, 0, none⟩) N N) := cell_of (blk_on HPI.out.bx d) rfl
          have y2 : W.cell? ⟨b, 2, none⟩ = some (.slice aN lN cN) := cell_of (blk_on HPI.out.bx d) rfl
          go_simp
          exact hK.out _ W (stp_of hmo d (Below.refl _ _)) (if_pos rfl)
        case o15 =>
          intro At yy W hy hb d hd K hK
          have s8 : At.tmps.getD 8 undef = .int .i64 (s : Int) := hb 8 rfl
          have s8' := s8
          rw [Array.getD_eq_getD_getElem?] at s8'
          clear hd hy hb
          go_simp
          exact hK.out _ W (stp_of hmo d (Below.refl _ _)) (if_pos rfl)
        case o16 =>
          intro At yy W hy hb d hd K hK
          have s1 : At.tmps.getD 1 undef = .int .i64 (a : Int) := hb 1 rfl
          have s1' := s1
          rw [Array.getD_eq_getD_getElem?] at s1'
          clear hd hy hb
          go_simp
          exact hK.out _ W (stp_of hmo d (Below.refl _ _)) (if_pos rfl)
        case o17 =>
          intro At yy W hy hb d hd K hK
          have e14 : yy 14 = .agg #[.int .i64 (M : Int), .slice (some ⟨gf, 0, none⟩) N N, .slice aN lN cN] := by obtain ⟨_, _, _, _, e⟩ := hd ⟨14, .data⟩ (by simp) rfl rfl; exact e
          have e15 : yy 15 = .int .i64 (s : Int) := by obtain ⟨_, _, _, _, e⟩ := hd ⟨15, .data⟩ (by simp) rfl rfl; exact e
          have e16 : yy 16 = .int .i64 (a : Int) := by obtain ⟨_, _, _, _, e⟩ := hd ⟨16, .data⟩ (by simp) rfl rfl; exact e
          have s53 := (hy 14 _ 53 rfl rfl).trans e14
          have s53' := s53
          rw [Array.getD_eq_getD_getElem?] at s53'
          have s54 := (hy 15 _ 54 rfl rfl).trans e15
          have s54' := s54
          rw [Array.getD_eq_getD_getElem?] at s54'
          have s55 := (hy 16 _ 55 rfl rfl).trans e16
          have s55' := s55
          rw [Array.getD_eq_getD_getElem?] at s55'
          clear hd hy hb
          go_simp
          go_wp2_with (go_at_call 35; refine (TF.out _ d).mono ?_; rintro e wa ⟨rfl, da⟩)
          exact hK.out _ wa (stp_of hmo d da) (if_pos rfl)
        case o18 =>
          intro At yy W hy hb d hd K hK
          have e10 : yy 10 = .slice (some ⟨gc, 0, none⟩) N N := by obtain ⟨_, _, _, _, e⟩ := hd ⟨10, .data⟩ (by simp) rfl rfl; exact e
          have e17 : yy 17 = .int .i64 (t : Int) := by obtain ⟨_, _, _, _, e⟩ := hd ⟨17, .data⟩ (by simp) rfl rfl; exact e
          have s49 := (hy 10 _ 49 rfl rfl).trans e10
          have s49' := s49
          rw [Array.getD_eq_getD_getElem?] at s49'
          have s56 := (hy 17 _ 56 rfl rfl).trans e17
          have s56' := s56
          rw [Array.getD_eq_getD_getElem?] at s56'
          clear hd hy hb
          go_simp
          exact hK.out _ W (stp_of hmo d (Below.refl _ _)) (if_pos rfl)
        case o19 =>
          intro At yy W hy hb d hd K hK
          have e18 : yy 18 = .pointer (some ⟨gc, t, none⟩) := by obtain ⟨_, _, _, _, e⟩ := hd ⟨18, .data⟩ (by simp) rfl rfl; exact e
          have s57 := (hy 18 _ 57 rfl rfl).trans e18
          have s57' := s57
          rw [Array.getD_eq_getD_getElem?] at s57'
          clear hd hy hb
          have y : W.cell? ⟨gc, t, none⟩ = some (.int .i64 (c2 : Int)) := by have := (HPI.out.below d).cr.at t htN; rwa [HC2.out] at this
          go_simp
          exact hK.out _ W (stp_of hmo d (Below.refl _ _)) (if_pos rfl)
        case o20 =>
          intro At yy W hy hb d hd K hK
          have e6 : yy 6 = .int .i64 (c1 : Int) := by obtain ⟨_, _, _, _, e⟩ := hd ⟨6, .data⟩ (by simp) rfl rfl; exact e
          have e19 : yy 19 = .int .i64 (c2 : Int) := by obtain ⟨_, _, _, _, e⟩ := hd ⟨19, .data⟩ (by simp) rfl rfl; exact e
          have s45 := (hy 6 _ 45 rfl rfl).trans e6
          have s45' := s45
          rw [Array.getD_eq_getD_getElem?] at s45'
          have s58 := (hy 19 _ 58 rfl rfl).trans e19
          have s58' := s58
          rw [Array.getD_eq_getD_getElem?] at s58'
          clear hd hy hb
          go_simp
          exact hK.out _ W (stp_of hmo d (Below.refl _ _)) (if_pos rfl)
        case o21 =>
          intro At yy W hy hb d hd K hK
          clear hd hy hb
          go_simp
          exact hK.out _ _ (stp_of hmo d ((Below.refl _ _).alloc (Nat.le_refl _) _)) ⟨if_pos rfl, d.size, by simp, World.alloc_heap_new _ _⟩
        case fin =>
          intro yy lo hi W hM
          show wpList _ _ _ [_] _ _
          have e0 : yy 0 = .pointer (some ⟨b, 0, none⟩) := hM.fact 0 (by simp) rfl (notR_all 0 rfl)
          have e1 : yy 1 = .pointer (some ⟨b, 0, none⟩) := hM.fact 1 (by simp) rfl (notR_all 1 rfl)
          have e2 : yy 2 = .pointer (some ⟨b, 3, none⟩) := hM.fact 2 (by simp) rfl (notR_all 2 rfl)
          have e3 : yy 3 = .slice (some ⟨gc, 0, none⟩) N N := hM.fact 3 (by simp) rfl (notR_all 3 rfl)
          have e4 : yy 4 = .int .i64 (s : Int) := hM.fact 4 (by simp) rfl (notR_all 4 rfl)
          have e5 : yy 5 = .pointer (some ⟨gc, s, none⟩) := hM.fact 5 (by simp) rfl (notR_all 5 rfl)
          have e6 : yy 6 = .int .i64 (c1 : Int) := hM.fact 6 (by simp) rfl (notR_all 6 rfl)
          have e7 : yy 7 = .pointer (some ⟨b, 0, none⟩) := hM.fact 7 (by simp) rfl (notR_all 7 rfl)
          have e8 : yy 8 = .pointer (some ⟨b, 0, none⟩) := hM.fact 8 (by simp) rfl (notR_all 8 rfl)
          have e9 : yy 9 = .pointer (some ⟨b, 3, none⟩) := hM.fact 9 (by simp) rfl (notR_all 9 rfl)
          have e10 : yy 10 = .slice (some ⟨gc, 0, none⟩) N N := hM.fact 10 (by simp) rfl (notR_all 10 rfl)
          have e11 : yy 11 = .pointer (some ⟨b, 0, none⟩) := hM.fact 11 (by simp) rfl (notR_all 11 rfl)
          have e12 : yy 12 = .pointer (some ⟨b, 0, none⟩) := hM.fact 12 (by simp) rfl (notR_all 12 rfl)
          have e13 : yy 13 = .pointer (some ⟨b, 0, none⟩) := hM.fact 13 (by simp) rfl (notR_all 13 rfl)
          have e14 : yy 14 = .agg #[.int .i64 (M : Int), .slice (some ⟨gf, 0, none⟩) N N, .slice aN lN cN] := hM.fact 14 (by simp) rfl (notR_all 14 rfl)
          have e15 : yy 15 = .int .i64 (s : Int) := hM.fact 15 (by simp) rfl (notR_all 15 rfl)
          have e16 : yy 16 = .int .i64 (a : Int) := hM.fact 16 (by simp) rfl (notR_all 16 rfl)
          have e17 : yy 17 = .int .i64 (t : Int) := hM.fact 17 (by simp) rfl (notR_all 17 rfl)
          have e18 : yy 18 = .pointer (some ⟨gc, t, none⟩) := hM.fact 18 (by simp) rfl (notR_all 18 rfl)
          have e19 : yy 19 = .int .i64 (c2 : Int) := hM.fact 19 (by simp) rfl (notR_all 19 rfl)
          have e20 : yy 20 = .agg #[.int .i64 (c1 : Int), .int .i64 (c2 : Int)] := hM.fact 20 (by simp) rfl (notR_all 20 rfl)
          obtain ⟨e21, b21, l21, z21⟩ := hM.fact 21 (by simp) rfl (notR_all 21 rfl)
          have dd := hM.d
          simp only [fills, Act.put, List.take, List.length, List.setIfInBounds_toArray, List.set_cons_zero, List.set_cons_succ, e0, e1, e2, e3, e4, e5, e6, e7, e8, e9, e10, e11, e12, e13, e14, e15, e16, e17, e18, e19, e20, e21]
          generalize lo 21 = p9 at z21 b21 l21 ⊢
          clear hM hmo e0 e1 e2 e3 e4 e5 e6 e7 e8 e9 e10 e11 e12 e13 e14 e15 e16 e17 e18 e19 e20 e21
          have k0 : W.cell? ⟨p9, 0, none⟩ = some (.int .i64 0) := cell_of z21 rfl
          have k1 : W.cell? ⟨p9, 1, none⟩ = some (.int .i64 0) := cell_of z21 rfl
          have g0 : W.frozen? ⟨p9, 0, none⟩ = false := fz_of z21
          have g1 : W.frozen? ⟨p9, 1, none⟩ = false := fz_of z21
          obtain ⟨w8, hw8⟩ : ∃ w8, (W.setCell ⟨p9, 0, none⟩ (.int .i64 (c1 : Int))).setCell ⟨p9, 1, none⟩ (.int .i64 (c2 : Int)) = w8 := ⟨_, rfl⟩
          have h8 : w8.heap[p9]? = some (.cells #[.int .i64 (c1 : Int), .int .i64 (c2 : Int)] 69 (0, 0)) := by rw [← hw8]; exact set2 W p9 _ _ _ _ 69 z21
          have O8 : Only w7 w8 (fun k => k = p9 ∧ w7.heap.size ≤ k) := by
            have q := ((only_set W p9 0 (.int .i64 (c1 : Int))).trans (only_set (W.setCell ⟨p9, 0, none⟩ (.int .i64 (c1 : Int))) p9 1 (.int .i64 (c2 : Int))))
            rw [hw8] at q
            exact (Only.ofBelow dd).trans (q.mono (fun k _ e => ⟨e, by rw [e]; exact b21⟩))
          have HO8 := hide (And.intro h8 (And.intro O8 (And.intro b21 l21)))
          clear h8 O8 z21 dd b21 l21
          go_upto_region 8 with fail
          clear k0 k1 g0 g1
          have B8 : w8.heap[p9]? = _ := HO8.out.1
          have k0 : w8.cell? ⟨p9, 0, none⟩ = some (.int .i64 (c1 : Int)) := cell_of B8 rfl
          have k1 : w8.cell? ⟨p9, 1, none⟩ = some (.int .i64 (c2 : Int)) := cell_of B8 rfl
          clear B8
          try rw [hw8]
          clear hw8
          have hp9 : H ≤ p9 := Nat.le_trans hH7 HO8.out.2.2.1
          have HP8 := hide (HPI.out.on HO8.out.2.1 (fun k r e => r.2 (by have := HX.out.2.2.1; rw [← this]; exact Or.inr (by omega))))
          obtain ⟨Dm, hm7, hIs⟩ := HY.out.2.1
          have hHg : H ≠ gs := by have q := HZ.out.1.sr.lt; have := HX.out.1; omega
          have hm8 := map_only (map_only hm7 HO7.out hHg) HO8.out.2.1 (fun e => by have q := hm7.lt; have := HO7.out.size; omega)
          have hG8 := (HY.out.2.2.1.only HO7.out (fun k hk hk2 e => by have q := HZ.out.1.sr.lt; have := HX.out.1; omega)).only HO8.out.2.1 (fun k hk hk2 e => by omega)
          have HM8 := hide (And.intro hm8 hIs)
          have HG8 := hide hG8
          have HK8 := hide HY.out.2.2.2.1
          have HW8 : Hid (Only w w8 (fun k => Rz B Z k ∨ H ≤ k)) := hide ((HY.out.2.2.2.2.trans (HO7.out.mono (fun k _ e => by rw [e]; exact Or.inl hgsZ))).trans (HO8.out.2.1.mono (fun k _ e => Or.inr (by omega))))
          have hKl : Ky.length ≤ nW := by
            have q := kin_len HK8.out
            have e := HX.out.2.2.2.2.2.1
            rw [List.length_take] at q
            omega
          have hky : kyF Nx M a cl s = (c1, c2) := by unfold kyF; rw [HTT.out, HC1.out, HC2.out]
          have HKY := hide hky
          have HOK : Hid (∀ x ∈ Ky, okPr x) := hide (fun x hx => by
            obtain ⟨q, hq, e⟩ := HK8.out.ex x hx
            have hqW := List.mem_of_mem_take hq
            have hqN := ((HX.out.2.2.2.1.2 q).1 hqW).1
            have z1 := HZ.out.2.2.2.2.2.2.2 q hqN
            have z2 := HZ.out.2.2.2.2.2.2.2 _ (dl_spec HZ.out.2.2.2.2.2.1 HZ.out.2.2.2.2.2.2.1 hqN ha).2.2
            rw [← e]
            exact ⟨by show cl q ≤ _; omega, by show cl (dl Nx M q a) ≤ _; omega⟩)
          have hokk : okPr (c1, c2) := ⟨by have := hc1; show c1 ≤ _; omega, by have := hc2; show c2 ≤ _; omega⟩
          have hH8 : H ≤ w8.heap.size := by have := HO8.out.2.1.size; omega
          have dA : ∀ o : Obj, Below w8.heap.size w8 (w8.alloc o) := fun o => (Below.refl _ _).alloc (Nat.le_refl _) _
          have HFL : Hid (∀ q, flC M a fl (WL.take (i + 1)) q = updF (flC M a fl (WL.take i)) p false q) := hide (fun q => by
            unfold flC
            rw [List.take_add_one, HSI.out]
            by_cases e : q = p
            · subst e; rw [updF_same]; simp [HSP.out]
            · rw [updF_ne _ _ e]
              have : ¬ q = s * M + a := by rw [HSP.out]; exact e
              simp [this])
          have HTK : Hid (WL.take (i + 1) = WL.take i ++ [s]) := hide (by rw [List.take_add_one, HSI.out]; rfl)
          clear hm7 hIs hm8 hG8 hky HY HPI HF hgsZ
          by_cases hk : (c1, c2) ∈ Ky
          · obtain ⟨j0, hj0, hkj⟩ := List.getElem_of_mem hk
            have hlook := look_in_run kPrs w8 120 Try.underlying120 H Ky j0 hj0 Dm HM8.out.1 HM8.out.2 (by rw [hkj]; exact hokk)
            rw [hkj] at hlook
            have hlook' : (Instr.lookup 120 (.map (some H)) (.agg #[.int .i64 (c1 : Int), .int .i64 (c2 : Int)]) true).run Try.prog w8 = .ok (.tuple #[.int .i64 (j0 : Int), .bool true]) w8 := hlook
            obtain ⟨gg, cg, rfl⟩ := row_some HG8.out.row (by omega)
            have hO3 := HG8.out.fam.own j0 hj0
            obtain ⟨b3, k3, hv3⟩ := own_slice hO3
            obtain ⟨m3, hm3⟩ : ∃ m, (natI (GL j0)).length = m := ⟨_, rfl⟩
            rw [hm3] at hv3
            rw [hv3] at hO3
            have hval : ((List.range Ky.length).map val)[j0]? = some (.slice b3 m3 k3) := by rw [List.getElem?_map, List.getElem?_range hj0, Option.map_some, hv3]
            have HR := hide (And.intro hO3 (And.intro HG8.out.row hval))
            have q3 := (row_cell HR.out.2.1 hval).1
            have f3 := (row_cell HR.out.2.1 hval).2
            have hkq : Ky[j0]? = some (c1, c2) := by rw [List.getElem?_eq_getElem hj0, hkj]
            have HV3 := hide (And.intro hv3 (And.intro hj0 hkq))
            have hGl : (GL j0).length ≤ 4194304 := by
              rw [HK8.out.gl j0 hj0]
              have q := List.length_filter_le (fun s => decide (kyF Nx M a cl s = Ky[j0])) (WL.take i)
              rw [List.length_take] at q
              have := HX.out.2.2.2.2.1
              omega
            have HGl := hide hGl
            have j1 : (0 : Int) ≤ (j0 : Int) := by omega
            have j2 : (j0 : Int) < (Ky.length : Int) := by omega
            clear hO3 hv3 hval hlook hm3 hkj hkq hj0 hk
            go_wp2_with (at_builtin; refine wpList_appI rfl (.tmp 81) (.tmp 83) rfl H (.slice b3 m3 k3) (natI (GL j0)) rfl (own_below HR.out.1 (dA _)) w8.heap.size (s : Int) rfl (World.alloc_heap_new _ _) (by rw [natI_len]; omega) (by simp <;> omega) ?_; intro b4 m4 k4 w9 h1 h2 h3 h4; have O89 : Only w8 w9 (fun k => (Value.slice b3 m3 k3).ownBlock = some k) := (Only.ofBelow (dA _)).trans h3.out; have R9 := row_only HR.out.2.1 O89 (fun k hk e => row_two HR.out.2.1 HR.out.1 (by decide) hk e); have z1 := (row_cell R9 (u := .slice b3 m3 k3) (j := j0) HR.out.2.2).1; have z2 := (row_cell R9 (u := .slice b3 m3 k3) (j := j0) HR.out.2.2).2; have HN := hide (And.intro h1.out (And.intro h2.out (And.intro O89 h4.out))); clear h1 h2 h3 h4 O89 R9)
            go_roundw
            case rel =>
              have hj0 := HV3.out.2.1
              have GP := HG8.out.put (v := .slice b4 m4 k4) (X := GL j0 ++ [s]) hj0 (by rw [HV3.out.1]; exact HN.out.2.2.1) (by rw [natI_snoc]; exact HN.out.1) (fun k hk => by
                rw [HV3.out.1]
                rcases HN.out.2.2.2 with q | q
                · exact Or.inl (by rw [← q]; exact hk)
                · rw [q] at hk
                  cases hk
                  exact Or.inr (by simp)) (by have q := HZ.out.1.cr.lt; have := HX.out.1; omega)
              have hHk : ∀ k, ((val j0).ownBlock = some k ∨ k = gg) → H ≤ k := fun k e => e.elim (fun q => ((HG8.out.fam.own j0 hj0).lt k q).1) (fun q => by rw [q]; exact (HG8.out.row.lt gg rfl).1)
              refine ⟨i + 1, by omega, by go_num, Ky, _, _, hide ⟨(HP8.out.alike (fun _ _ => rfl) (fun q _ => HFL.out q)).on GP.2 (fun k r e => r.2 (by have := HX.out.2.2.1; rw [← this]; exact Or.inr (hHk k e))), ⟨Dm, map_only HM8.out.1 GP.2 (fun e => e.elim (fun q => row_nomap (HG8.out.fam.own j0 hj0) q HM8.out.1) (fun q => row_nomap HG8.out.row (k := gg) rfl (q ▸ HM8.out.1))), HM8.out.2⟩, GP.1, ?_, HW8.out.trans (GP.2.mono (fun k _ e => Or.inr (hHk k e)))⟩⟩
              rw [HTK.out]
              have hkj : Ky[j0]'hj0 = (c1, c2) := by have := HV3.out.2.2; rw [List.getElem?_eq_getElem hj0] at this; exact Option.some.inj this
              exact HK8.out.old hj0 (hkj.trans HKY.out.symm)
            case measure => simp [intOf]; omega
          · obtain ⟨cc, hlook⟩ := look_out_run kPrs w8 120 Try.underlying120 H Ky (c1, c2) hk Dm HM8.out.1 HM8.out.2 hokk
            have hlook' : (Instr.lookup 120 (.map (some H)) (.agg #[.int .i64 (c1 : Int), .int .i64 (c2 : Int)]) true).run Try.prog w8 = .ok (.tuple #[.int .i64 cc, .bool false]) w8 := hlook
            obtain ⟨bg, cg, rfl⟩ := own_slice HG8.out.row
            obtain ⟨nK, hnK⟩ : ∃ n, Ky.length = n := ⟨_, rfl⟩
            obtain ⟨w9', hrun9, hm9, hg9⟩ := World.ownsMap.update (w := w8) (t := 120) (e := 3) HM8.out.1 law69 Try.underlying120 (by unfold maxLen; omega) (val := .int .i64 (nK : Nat)) (keyPr (c1, c2) hokk) (plainElem_int Try.underlying3 (WalkArith.wf_i64 (by omega)))
            have hrun9' : (Instr.mapUpdate 120 (.map (some H)) (.agg #[.int .i64 (c1 : Int), .int .i64 (c2 : Int)]) (.int .i64 (nK : Int))).run Try.prog w8 = .ok () w9' := hrun9
            have hG9 := HG8.out.off (grown_only hg9) (fun k e z => by
              cases z
              rcases e with e | ⟨q, hq, e⟩
              · exact row_nomap HG8.out.row e HM8.out.1
              · exact row_nomap (HG8.out.fam.own q hq) e HM8.out.1)
            rw [hnK] at hG9 hm9 hKl ⊢
            have HG9 := hide hG9
            have HM9 := hide (And.intro hm9 (And.intro (grown_only hg9) hk))
            have HNK := hide hnK
            have hH9 : H ≤ w9'.heap.size := by have := hg9.size; omega
            have dB : ∀ o : Obj, Below w9'.heap.size w9' (w9'.alloc o) := fun o => (Below.refl _ _).alloc (Nat.le_refl _) _
            obtain ⟨i22, hi22, hz220, hz221, hz222⟩ := info_parts info22
            clear hlook hrun9 hm9 hg9 hG9 hk hnK
            go_upto_region 13 with (at_builtin; refine wpList_append_lies _ rfl (.tmp 73) (.tmp 74) 32 rfl H 22 i22 _ 1 24 Try.underlying32 hi22 hz220 hz221 hz222 rfl (by omega) (.slice bg nK cg) nK ((List.range nK).map val) rfl (own_below HG9.out.row (dB _)) ⟨w9'.heap.size, 0, none⟩ 1 1 [.slice none 0 0] rfl rfl (one_cells (World.alloc_heap_new _ _)) (by simp [Value.oneCell']) (by omega) (by unfold maxLen; omega) (by omega) (by simp <;> omega) _ rfl ?_; intro gg cap w10 h1 h2 h3 h4; have HN1 := hide (And.intro h1 h2); clear h1 h2 h3 h4)
            have O10 : Only w9' w10 (fun k => (Value.slice bg nK cg).ownBlock = some k) := (Only.ofBelow (dB _)).trans (grown_only HN1.out.2)
            have HG10 := hide (HG9.out.new O10 HN1.out.1)
            have hval : ((List.range nK).map val ++ [Value.slice none 0 0])[nK]? = some (.slice none 0 0) := by rw [List.getElem?_append_right (by simp)]; simp
            have HR := hide (And.intro (owI_nil w10 H) (And.intro HN1.out.1 hval))
            have q3 := (row_cell HR.out.2.1 hval).1
            have f3 := (row_cell HR.out.2.1 hval).2
            have hH10 : H ≤ w10.heap.size := by have := O10.size; omega
            have HO10 := hide O10
            have j1 : (0 : Int) ≤ (nK : Int) := by omega
            have j2 : (nK : Int) < ((nK + 1 : Nat) : Int) := by omega
            clear O10 hval hi22 hz220 hz221 hz222 dA dB
            have dA : ∀ o : Obj, Below w10.heap.size w10 (w10.alloc o) := fun o => (Below.refl _ _).alloc (Nat.le_refl _) _
            go_wp2_with (at_builtin; refine wpList_appI rfl (.tmp 81) (.tmp 83) rfl H (.slice none 0 0) (natI ([] : List Nat)) rfl (own_below HR.out.1 (dA _)) w10.heap.size (s : Int) rfl (World.alloc_heap_new _ _) (by simp [natI]) (by simp <;> omega) ?_; intro b4 m4 k4 w9 h1 h2 h3 h4; have O89 : Only w10 w9 (fun k => (Value.slice none 0 0).ownBlock = some k) := (Only.ofBelow (dA _)).trans h3.out; have R9 := row_only HR.out.2.1 O89 (fun k hk e => row_two HR.out.2.1 HR.out.1 (by decide) hk e); have z1 := (row_cell R9 (u := .slice none 0 0) (j := nK) HR.out.2.2).1; have z2 := (row_cell R9 (u := .slice none 0 0) (j := nK) HR.out.2.2).2; have HN := hide (And.intro h1.out (And.intro h2.out (And.intro O89 h4.out))); clear h1 h2 h3 h4 O89 R9)
            go_roundw
            case rel =>
              have GP := HG10.out.put (i := nK) (v := .slice b4 m4 k4) (X := [s]) (by omega) (by rw [updF_same]; exact HN.out.2.2.1) (by have := HN.out.1; simpa [natI] using this) (fun k hk => by
                rw [updF_same]
                rcases HN.out.2.2.2 with q | q
                · exact Or.inl (by rw [← q]; exact hk)
                · rw [q] at hk
                  cases hk
                  exact Or.inr (by simp)) (by have q := HZ.out.1.cr.lt; have := HX.out.1; omega)
              have hgg : H ≤ gg := (HG10.out.row.lt gg rfl).1
              have hHk : ∀ k, ((updF val nK (Value.slice none 0 0) nK).ownBlock = some k ∨ k = gg) → H ≤ k := fun k e => e.elim (fun q => by rw [updF_same] at q; cases q) (fun q => by rw [q]; exact hgg)
              have hHb : ∀ k, (Value.slice bg nK cg).ownBlock = some k → H ≤ k := fun k e => (HG9.out.row.lt k e).1
              have hZk : ∀ k, Rz B Zp k → ¬ H ≤ k := fun k r e => r.2 (by have := HX.out.2.2.1; rw [← this]; exact Or.inr e)
              have m10 := map_only HM9.out.1 HO10.out (fun e => row_nomap HG9.out.row e HM9.out.1)
              refine ⟨i + 1, by omega, by go_num, Ky ++ [(c1, c2)], updF (updF val nK (.slice none 0 0)) nK (.slice b4 m4 k4), updF (updF GL nK []) nK [s], hide ⟨(((HP8.out.alike (fun _ _ => rfl) (fun q _ => HFL.out q)).on HM9.out.2.1 (fun k r e => hZk k r (by cases e; exact Nat.le_refl _))).on HO10.out (fun k r e => hZk k r (hHb k e))).on GP.2 (fun k r e => hZk k r (hHk k e)), ⟨_, ?_, HM8.out.2.new HOK.out HM9.out.2.2 hokk⟩, ?_, ?_, ((HW8.out.trans (HM9.out.2.1.mono (fun k _ e => Or.inr (by cases e; exact Nat.le_refl _)))).trans (HO10.out.mono (fun k _ e => Or.inr (hHb k e)))).trans (GP.2.mono (fun k _ e => Or.inr (hHk k e)))⟩⟩
              · have q := map_only m10 GP.2 (fun e => e.elim (fun q => by rw [updF_same] at q; cases q) (fun q => row_nomap HG10.out.row (k := gg) rfl (q ▸ m10)))
                rw [List.length_append, List.length_singleton, HNK.out]
                exact q
              · rw [List.length_append, List.length_singleton, HNK.out]
                exact GP.1
              · rw [HTK.out, ← HKY.out, ← HNK.out]
                exact HK8.out.new (by rw [HKY.out]; exact HM9.out.2.2)
            case measure => simp [intOf]; omega
    · have i0 : ¬ (i : Int) < (nW : Int) := by omega
      obtain rfl : i = nW := by omega
      obtain ⟨bg, cg, rfl⟩ := own_slice HY.out.2.2.1.row
      obtain ⟨nK, hnK⟩ : ∃ n, Ky.length = n := ⟨_, rfl⟩
      have HNK := hide hnK
      rw [hnK] at HY ⊢
      have hp := HY.out.1.zone (Z' := fun k => Z k ∨ (w.heap.size ≤ k ∧ k < wr.heap.size)) (fun k _ z => by have := HX.out.2.2.1; rw [← this]; exact z.elim Or.inl (fun q => Or.inr (by rw [← HX.out.1]; exact q.1)))
      have HOW : Hid (Only w wr (Rz B Z)) := hide (HY.out.2.2.2.2.mono (fun k hk e => by
        rcases e with e | e
        · exact e
        · have := HX.out.1; omega))
      have PW := hp.wait (v := .slice none 0 0) (X := []) (w' := wr) ha (fun k z => z.elim (fun q => Nat.lt_of_lt_of_le (HZ.out.2.2.2.1 k q) HOW.out.size) (fun q => q.2)) (Only.ofBelow (Below.refl _ _)) (owI_nil _ _) (fun k hk => by cases hk)
      have y5 : wr.cell? ⟨b, 5, none⟩ = some (.slice (some ⟨gw, 0, none⟩) M M) := cell_of hp.bx rfl
      have yW : wr.cell? ⟨gw, a, none⟩ = some (.slice t1 i k1) := by have := hp.wr.at a ha; rwa [HX.out.2.2.2.2.2.2.1] at this
      have fW := hp.wr.fz a
      have HPW := hide PW
      have hgwH : gw < H := by have q := HZ.out.1.wr.lt; have := HX.out.1; omega
      clear hp PW hnK
      go_wp2_with fail
      go_ret
      have eW : WL.take i = WL := by rw [← HX.out.2.2.2.2.2.1, List.take_length]
      refine ⟨bg, nK, cg, rfl, val, GL, Ky, hide ⟨(HPW.out.1.zone (fun k _ z => z.imp id (fun q => ⟨q.1, by simpa [World.setCell] using q.2⟩))).alike (fun _ _ => rfl) (fun p hp => ?_), HNK.out.symm, ?_, ?_, HOW.out.trans (HPW.out.2.mono (fun k _ r => ⟨r.1, fun z => r.2 (Or.inl z)⟩))⟩⟩
      · unfold flC
        rw [eW]
        have hM : 0 < M := by omega
        have hpN : p / M < N := Nat.div_lt_of_lt_mul (by rw [Nat.mul_comm, ← HZ.out.2.2.1]; exact hp)
        by_cases e : p % M = a
        · cases hf : fl p with
          | false => simp
          | true =>
            have hm : p / M ∈ WL := (HX.out.2.2.2.1.2 _).2 ⟨hpN, by rw [← e, place_div]; exact hf⟩
            have hmm2 : p ∈ WL.map (fun s => s * M + a) := List.mem_map.2 ⟨p / M, hm, by rw [← e]; exact place_div⟩
            rw [decide_eq_true e, decide_eq_true hmm2]
        · have hmm2 : ¬ p ∈ WL.map (fun s => s * M + a) := fun z => by
            obtain ⟨q, _, z⟩ := List.mem_map.1 z
            exact e (by rw [← z]; exact mod_place ha)
          rw [decide_eq_false e, decide_eq_false hmm2]
      · rw [HX.out.1]
        exact HY.out.2.2.1.only (only_set wr gw a (.slice none 0 0)) (fun k hk _ e => by omega)
      · rw [HX.out.2.1]
        have q := HY.out.2.2.2.1
        rwa [eW] at q
end Go.Proofs.Ytocoghljmlpdeaa
