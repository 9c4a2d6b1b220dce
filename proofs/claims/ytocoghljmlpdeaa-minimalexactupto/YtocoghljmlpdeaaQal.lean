import Derived.Test.YtocoghljmlpdeaaQak
namespace Go.Proofs.Ytocoghljmlpdeaa.ov
open Go.RowKit Go.Maps Go.Shelf
attribute [local go_sem] Oper.semAt_some
/-! ### The law's over -/
def aW (n : Nat → Nat) (k : Nat) : Nat → Nat := fun r => if r < k then n r else 0
theorem aW_next (n : Nat → Nat) (k : Nat) : upd (aW n k) k (n k) = aW n (k + 1) := by
  funext r
  unfold upd aW
  by_cases e : r = k
  · subst e; simp
  · rw [if_neg e]
    by_cases h : r < k
    · rw [if_pos h, if_pos (by omega)]
    · rw [if_neg h, if_neg (by omega)]
theorem aW_zero (n : Nat → Nat) (k : Nat) : upd (aW n k) k 0 = aW n k := by
  funext r
  unfold upd aW
  by_cases e : r = k
  · subst e; rw [if_pos rfl, if_neg (by omega)]
  · rw [if_neg e]
theorem map_rep (m : Nat) (y : Value) : (List.range m).map (fun _ => y) = List.replicate m y := by
  apply List.ext_getElem <;> simp
theorem Gf.over {w W : World} {K : Nat} {v : Nat → Value} {bx : Bx} {n : Nat → Nat} {x : Nat → List Value} (h : Gf w W K v bx (fun _ => 3) (fun _ => 1) n (fun i _ => mkI i) x (aW n K)) : Gg w W K v bx (fun i => List.replicate (n i) (mkI i)) ∧ ∀ r, r < K → W.ownsRow 0 3 1 (v r) (n r) (List.replicate (n r) (mkI r)) := by
  have q := Gf.full (z := n) h (fun i hi => ⟨by have t := (h.r i hi).1; rw [gx_len] at t; omega, by unfold aW; rw [if_pos hi]; exact Nat.le_refl _⟩)
  simp only [map_rep] at q
  exact q
theorem rep_cell {W : World} {m n g : Nat} {c : Nat} {y : Value} (h : W.ownsRow 0 3 1 (.slice (some ⟨g, 0, none⟩) n c) n (List.replicate m y)) (i : Nat) (hi : i < m) : W.cell? ⟨g, i, none⟩ = some y := by
  have := rv_of h g rfl i (by simpa using hi)
  rw [this]
  simp
set_option maxRecDepth 100000 in
set_option maxHeartbeats 8000000 in
theorem over_any (w W : World) (K : Nat) (v : Nat → Value) (n : Nat → Nat) (x : Nat → List Value) (gL cL : Nat) (A : Array Value) (hK : K ≤ 8192) (hS : Hid (Gst w K v [(gL, A, 22)]))
    (hF : Hid (Gf w W K v [(gL, A, 22)] (fun _ => 3) (fun _ => 1) n (fun i _ => mkI i) x (aW n 0))) (hA : Hid (∀ k, k < K → ∃ ao cp, v k = .slice ao (n k) cp ∧ A[k]? = some (.slice ao (n k) cp) ∧ n k ≤ 4194000)) :
    Calls Try.prog 27 #[.slice (some ⟨gL, 0, none⟩) K cL] W fun e w' => e = .returned (.bool true) ∧ Only w w' (fun b => ∃ i, i < K ∧ (v i).ownBlock = some b) := by
  obtain ⟨i3, hi3, hz30, hz31, hz32⟩ := info_parts info3
  obtain ⟨i2, hi2, hz20, hz21, hz22⟩ := info_parts info22
  have hA2 : Hid (∀ k, k < K → 0 < n k → ∀ ao cp, v k = .slice ao (n k) cp → ∃ g, ao = some ⟨g, 0, none⟩) := hide (fun k hk h0 ao cp hv => by
    have t := hF.out.r k hk
    rw [hv] at t
    obtain ⟨g, c, e, _, _⟩ := t.form h0
    cases e
    exact ⟨g, rfl⟩)
  go_enter Try.func27, Try.ntmps27
  go_wp2
  go_loopw [3] (fun kv wr => ∃ k : Nat, k ≤ K ∧ kv = .int .i64 k ∧ Hid (Gf w wr K v [(gL, A, 22)] (fun _ => 3) (fun _ => 1) n (fun i _ => mkI i) x (aW n k))) (fun kv _ => K - (intOf kv).toNat)
  case atStart => exact ⟨0, Nat.zero_le _, rfl, hF⟩
  case round =>
    obtain ⟨k, hk, rfl, HX⟩ := hrel
    obtain ⟨wo, rfl⟩ : ∃ z, z = wr := ⟨_, rfl⟩
    by_cases hlt : k < K
    · have i1 : (k : Int) < (K : Int) := by omega
      have i0 : (0 : Int) ≤ (k : Int) := by omega
      obtain ⟨ao, cp, hkv, hkc, hm⟩ := hA.out k hlt
      obtain ⟨m, hmm⟩ : ∃ m, n k = m := ⟨_, rfl⟩
      rw [hmm] at hkv hkc hm
      have HK := hide (And.intro hkv (And.intro hmm hkc))
      clear hkv hmm hkc
      go_wp2
      go_loopw [4] (fun iv wr => ∃ i : Nat, i ≤ m ∧ iv = .int .i64 i ∧ Hid (Gf w wr K v [(gL, A, 22)] (fun _ => 3) (fun _ => 1) n (fun i _ => mkI i) x (upd (aW n k) k i))) (fun iv _ => m - (intOf iv).toNat)
      case atStart => exact ⟨0, Nat.zero_le _, rfl, hide (by rw [aW_zero]; exact HX.out)⟩
      case round =>
        obtain ⟨i, hi, rfl, HY⟩ := hrel
        have q0 : wr.cell? ⟨gL, k, none⟩ = some (.slice ao m cp) := cell_of (HY.out.b (gL, A, 22) (by simp)) HK.out.2.2
        have i2 : (0 : Int) ≤ (i : Int) := by omega
        by_cases hil : i < m
        · have i3 : (i : Int) < (m : Int) := by omega
          obtain ⟨g, rfl, hcs⟩ := HY.out.cell k hlt (z := 1) HK.out.1 HK.out.2.1 rfl i (by omega)
          obtain ⟨⟨u, q1⟩, f1⟩ := hcs i (by omega)
          clear hcs
          go_wp2
          go_roundw
          case rel =>
            refine ⟨i + 1, by omega, by go_num, hide ?_⟩
            exact Gf.puti hS.out k i HY.out hlt HK.out.1 HK.out.2.1 _ (by unfold mkI; first | rfl | go_num)
          case measure => simp [intOf]; omega
        · obtain rfl : i = m := by omega
          have i3 : ¬ (i : Int) < (i : Int) := by omega
          go_wp2
          go_roundw
          case rel => exact ⟨k + 1, by omega, by go_num, hide (by have q := HY.out; rw [← HK.out.2.1, aW_next] at q; exact q)⟩
          case measure => simp [intOf]; omega
    · obtain rfl : K = k := by omega
      have i1 : ¬ (K : Int) < (K : Int) := by omega
      have HO := hide (Ow.start (Gf.over HX.out))
      clear HX hF
      go_wp2
      go_loopw [5, 6] (fun lv kv wr => ∃ k la lc u, k ≤ K ∧ lv = .slice la k lc ∧ kv = .int .i64 (k : Nat) ∧ Hid (Ow w wr K v [(gL, A, 22)] n u k k (.slice la k lc))) (fun _ kv _ => K - (intOf kv).toNat)
      case atStart => exact ⟨0, none, 0, _, Nat.zero_le _, rfl, rfl, HO⟩
      case round =>
        obtain ⟨k, la, lc, u, hk, rfl, rfl, HX⟩ := hrel
        obtain ⟨ws, rfl⟩ : ∃ z, z = wr := ⟨_, rfl⟩
        clear HO
        by_cases hlt : k < K
        · have i4 : (k : Int) < (K : Int) := by omega
          have i0 : (0 : Int) ≤ (k : Int) := by omega
          obtain ⟨ao, cp, hkv, hkc, hm⟩ := hA.out k hlt
          obtain ⟨m, hmm⟩ : ∃ m, n k = m := ⟨_, rfl⟩
          rw [hmm] at hkv hkc hm
          have q0 : ws.cell? ⟨gL, k, none⟩ = some (.slice ao m cp) := cell_of (HX.out.g.b (gL, A, 22) (by simp)) hkc
          have HZ := hide (Ow.open hS.out HX.out hlt hkv)
          have HK := hide (And.intro hkv (And.intro hmm hkc))
          clear hkv hmm hkc HX
          go_wp2
          go_loopw [7, 8] (fun mv jv wr => ∃ j av cv, j ≤ 70 ∧ mv = .slice av (m + j) cv ∧ jv = .int .i64 (j : Nat) ∧ Hid (Ow w wr K v [(gL, A, 22)] n u k (k + 1) (.slice la k lc) ∧ Gx w wr (v k) [(gL, A, 22)] 3 1 (n k) (List.replicate (n k) (mkI k)) [mkI k] (.slice av (m + j) cv) j ∧ Apt u k (.slice av (m + j) cv))) (fun _ jv _ => 70 - (intOf jv).toNat)
          case atStart => exact ⟨0, ao, cp, Nat.zero_le _, rfl, rfl, HZ⟩
          case round =>
            obtain ⟨j, av, cv, hj, rfl, rfl, HY⟩ := hrel
            clear HZ
            by_cases hjl : j < 70
            · have i2 : (j : Int) < 70 := by omega
              have dA : Below wr.heap.size wr (wr.alloc (.cells #[mkI k] 3)) := (Below.refl _ _).alloc (Nat.le_refl _) _
              have HB := hide (And.intro (HY.out.1.below dA) (And.intro (HY.out.2.1.below dA) HY.out.2.2))
              clear dA
              go_wp2_with (at_builtin; refine wpList_gx2 Try.underlying22 hi3 hz30 hz31 hz32 rfl (by omega) (by omega) hS.out HB.out.1.g k hlt HB.out.2.1 rfl _ _ rfl rfl ⟨wr.heap.size, 0, none⟩ rfl rfl (cnewL wr [mkI k] 3) (fun u hu => by rw [List.mem_singleton.1 hu]; rfl) (by have := HK.out.2.1; omega) ?_)
              intro gv cw w9 H9
              have hz : (wr.alloc (.cells #[mkI k] 3)).heap.size = wr.heap.size + 1 := by simp
              have HC := hide (Ow.grow HB.out.1 HB.out.2.1 HB.out.2.2 (vm' := .slice (some ⟨gv, 0, none⟩) (n k + j + 1) cw) rfl H9.out.2.1 H9.out.2.2.1 (by rw [hz]; exact H9.out.2.2.2.1) H9.out.2.2.2.2)
              clear hz
              go_wp2
              go_roundw
              case rel => exact ⟨j + 1, some ⟨gv, 0, none⟩, cw, by omega, by rw [HK.out.2.1]; rfl, by go_num, hide ⟨HC.out.1, by have t := H9.out.1; rw [HK.out.2.1] at t ⊢; exact t, by have t := HC.out.2; rw [HK.out.2.1] at t; exact t⟩⟩
              case measure => simp [intOf]; omega
            · obtain rfl : j = 70 := by omega
              have i2 : ¬ ((70 : Nat) : Int) < 70 := by omega
              have dA : Below wr.heap.size wr (wr.alloc (.cells #[.slice av (m + 70) cv] 22)) := (Below.refl _ _).alloc (Nat.le_refl _) _
              have HB := hide (And.intro (HY.out.1.below dA) (HY.out.2.1.below dA))
              clear dA
              go_wp2_with (at_builtin; refine wpList_appA Try.underlying32 hi2 hz20 hz21 hz22 rfl (by omega) (by omega) rfl _ _ rfl (.slice la k lc) k _ [.slice av (m + 70) cv] rfl HB.out.1.ll ⟨wr.heap.size, 0, none⟩ rfl rfl (cnewL wr [.slice av (m + 70) cv] 22) (fun u hu => by rw [List.mem_singleton.1 hu]; rfl) (by omega) ?_)
              intro gv cw w9 H9 H8
              have hz : (wr.alloc (.cells #[.slice av (m + 70) cv] 22)).heap.size = wr.heap.size + 1 := by simp
              have HC := hide (Ow.next hS.out HB.out.1 hlt HB.out.2 H9.out (by rw [hz]; exact H8.out))
              clear hz
              go_wp2
              go_roundw
              case rel => exact ⟨k + 1, some ⟨gv, 0, none⟩, cw, _, by omega, rfl, by go_num, HC⟩
              case measure => simp [intOf]; omega
        · obtain rfl : K = k := by omega
          have i4 : ¬ (K : Int) < (K : Int) := by omega
          go_wp2
          go_loopw [9] (fun kv wr => ∃ k : Nat, k ≤ K ∧ kv = .int .i64 k ∧ wr = ws) (fun kv _ => K - (intOf kv).toNat)
          case atStart => exact ⟨0, Nat.zero_le _, rfl, rfl⟩
          case round =>
            obtain ⟨k, hk, rfl, rfl⟩ := hrel
            by_cases hlt : k < K
            · have i5 : (k : Int) < (K : Int) := by omega
              have i0 : (0 : Int) ≤ (k : Int) := by omega
              obtain ⟨ao, cp, hkv, hkc, hm⟩ := hA.out k hlt
              have q0 : wr.cell? ⟨gL, k, none⟩ = some (.slice ao (n k) cp) := cell_of (HX.out.g.b (gL, A, 22) (by simp)) hkc
              obtain ⟨gl, cl, hl, _, _⟩ := HX.out.ll.form (by omega)
              cases hl
              have q1 : wr.cell? ⟨gl, k, none⟩ = some (u k) := by have t := rv_of HX.out.ll gl rfl k (by simpa using hlt); rw [t]; simp
              have HU := HX.out.up k hlt
              obtain ⟨gk, ck, hu, _, _⟩ := HU.form (by omega)
              rw [hu] at q1 HU
              have HR := hide (And.intro HU (And.intro (HX.out.g.r k hlt) (And.intro hkv fun h0 => hA2.out k hlt h0 ao cp hkv)))
              obtain ⟨m, hmm⟩ : ∃ m, n k = m := ⟨_, rfl⟩
              rw [hmm] at q0 q1 hm HR
              clear hu HU hkv hkc hmm
              go_wp2
              go_loopw [10] (fun iv wz => ∃ i : Nat, i ≤ m + 70 ∧ iv = .int .i64 i ∧ wz = wr) (fun iv _ => m + 70 - (intOf iv).toNat)
              case atStart => exact ⟨0, Nat.zero_le _, rfl, rfl⟩
              case round =>
                obtain ⟨i, hi, rfl, rfl⟩ := hrel
                have i2 : (0 : Int) ≤ (i : Int) := by omega
                by_cases hil : i < m + 70
                · have i3 : (i : Int) < (m : Int) + 70 := by omega
                  have i7 : (i : Int) < ((m + 70 : Nat) : Int) := by omega
                  have q2 : wr.cell? ⟨gk, i, none⟩ = some (.int .i64 (-(k : Int) - 1)) := rep_cell HR.out.1 i hil
                  by_cases him : i < m
                  · have i6 : (i : Int) < (m : Int) := by omega
                    obtain ⟨g, rfl⟩ := HR.out.2.2.2 (by omega)
                    have q3 : wr.cell? ⟨g, i, none⟩ = some (.int .i64 (-(k : Int) - 1)) := by have t := HR.out.2.1 g (by rw [HR.out.2.2.1]; rfl) i (by simpa using him); rw [t]; simp [mkI]
                    go_wp2
                    go_roundw
                    case rel => exact ⟨i + 1, by omega, by go_num, by trivial⟩
                    case measure => simp [intOf]; omega
                  · have i6 : ¬ (i : Int) < (m : Int) := by omega
                    go_wp2
                    go_roundw
                    case rel => exact ⟨i + 1, by omega, by go_num, by trivial⟩
                    case measure => simp [intOf]; omega
                · obtain rfl : i = m + 70 := by omega
                  have i3 : ¬ ((m + 70 : Nat) : Int) < ((m + 70 : Nat) : Int) := by omega
                  go_wp2
                  go_roundw
                  case rel => exact ⟨k + 1, by omega, by go_num, by trivial⟩
                  case measure => simp [intOf]; omega
            · obtain rfl : K = k := by omega
              have i5 : ¬ (K : Int) < (K : Int) := by omega
              go_wp2
              refine bodyPost_ret (results_tmp rfl _ _ _) rfl ?_
              exact ⟨rfl, HX.out.g.on⟩
end Go.Proofs.Ytocoghljmlpdeaa.ov
namespace Go.Proofs.Ytocoghljmlpdeaa
open Go.RowKit Go.Maps
attribute [local go_sem] Oper.semAt_some
/-! ### The law's intact, same words, moved -/
/-- The first i entries turned, the others as they were. -/
def mixG {α : Type} (f : α → α) (L : List α) (i : Nat) : List α := (L.take i).map f ++ L.drop i
theorem mixG_len {α : Type} (f : α → α) (L : List α) (i : Nat) : (mixG f L i).length = L.length := by simp [mixG]; omega
theorem mixG_zero {α : Type} (f : α → α) (L : List α) : mixG f L 0 = L := by simp [mixG]
theorem mixG_full {α : Type} (f : α → α) (L : List α) : mixG f L L.length = L.map f := by simp [mixG]
theorem mixG_get {α : Type} (f : α → α) (L : List α) (i : Nat) (h : i < L.length) : (mixG f L i)[i]? = some L[i] := by
  unfold mixG
  rw [List.getElem?_append_right (by simp; omega)]
  simp [List.length_take, Nat.min_eq_left (Nat.le_of_lt h)]
theorem mixG_set {α : Type} (f : α → α) (L : List α) (i : Nat) (h : i < L.length) : (mixG f L i).set i (f L[i]) = mixG f L (i + 1) := by
  unfold mixG
  have hl : ((L.take i).map f).length = i := by simp; omega
  rw [List.drop_eq_getElem_cons h, List.set_append_right _ _ (by omega), hl, Nat.sub_self, List.set_cons_zero, ← List.take_append_getElem h, List.map_append, List.append_assoc]
  rfl
theorem own_get {W : World} {B g c n : Nat} {e : TypeId} {sz : Nat} {xs : List Value} (h : W.ownsRow B e sz (.slice (some ⟨g, 0, none⟩) n c) n xs) {j : Nat} {u : Value} (hu : xs[j]? = some u) : W.cell? ⟨g, j, none⟩ = some u := by
  have := h.cells (g := g) rfl j u hu
  rw [Addr.add_lit] at this
  simpa using this
theorem row_fz {W : World} {B g c n : Nat} {e : TypeId} {sz : Nat} {xs : List Value} (h : W.ownsRow B e sz (.slice (some ⟨g, 0, none⟩) n c) n xs) (j : Nat) : W.frozen? ⟨g, j, none⟩ = false := by
  rcases h.2 with ⟨z, _⟩ | ⟨g', cap', cur, e1, hb, hg, hn, hc, hs, ht⟩
  · cases z
  · cases e1
    exact fz_of hg
def onF (n x : Int) : Int := if x < 0 ∨ n ≤ x then x else (wrap64 (x + 1)).tmod n
set_option maxRecDepth 100000 in
theorem on_any (w : World) (x n : Int) : Calls Try.prog 51 #[.int .i64 x, .int .i64 n] w fun e w' => e = .returned (.int .i64 (onF n x)) ∧ w' = w := by
  obtain ⟨y, hy⟩ : ∃ y, onF n x = y := ⟨_, rfl⟩
  rw [hy]
  have HY := hide hy
  clear hy
  go_enter Try.func51, Try.ntmps51
  by_cases h0 : x < 0
  · have HE : Hid (x = y) := hide (by rw [← HY.out]; unfold onF; rw [if_pos (Or.inl h0)])
    go_wp2
    refine bodyPost_ret (results_tmp rfl _ _ _) rfl ?_
    exact ⟨by rw [← HE.out]; rfl, rfl⟩
  · by_cases h1 : x ≥ n
    · have HE : Hid (x = y) := hide (by rw [← HY.out]; unfold onF; rw [if_pos (Or.inr h1)])
      go_wp2
      refine bodyPost_ret (results_tmp rfl _ _ _) rfl ?_
      exact ⟨by rw [← HE.out]; rfl, rfl⟩
    · have HE : Hid ((wrap64 (x + 1)).tmod n = y) := hide (by rw [← HY.out]; unfold onF; rw [if_neg (by omega)])
      have hn : ¬ n = 0 := by omega
      have hn2 : (n == 0) = false := by simpa using hn
      go_wp2
      refine bodyPost_ret (results_tmp rfl _ _ _) rfl ?_
      exact ⟨by rw [← HE.out]; rfl, rfl⟩
theorem mixM_get (f : Int → Int) (L M : List Int) (i : Nat) (h : i < L.length) : ((mixG f L i ++ M).map (Value.int .i64))[i]? = some (.int .i64 L[i]) := by
  rw [List.getElem?_map, List.getElem?_append_left (by rw [mixG_len]; exact h), mixG_get f L i h]
  rfl
theorem mixM_set (f : Int → Int) (L M : List Int) (i : Nat) (h : i < L.length) : ((mixG f L i ++ M).map (Value.int .i64)).set i (.int .i64 (f L[i])) = (mixG f L (i + 1) ++ M).map (Value.int .i64) := by
  rw [← mixG_set f L i h, ← List.set_append_left _ _ (by rw [mixG_len]; exact h), List.map_set]
theorem mrk_at {i : Nat} (h : i < 70) (L : List Int) : ((L ++ mrk 70).map (Value.int .i64))[L.length + i]? = some (.int .i64 (-1000 - (i : Int))) := by
  rw [List.getElem?_map, List.getElem?_append_right (by omega), Nat.add_sub_cancel_left]
  unfold mrk
  rw [List.getElem?_map, List.getElem?_range h]
  rfl
set_option maxRecDepth 100000 in
theorem intact_yes (w : World) (B g c : Nat) (ao : Option Addr) (L : List Int) (ca : Nat) (hm : Hid (Mk B w g c L)) (hr : Hid (RdN w ao L)) (hl : L.length ≤ 4194304) :
    Calls Try.prog 28 #[.slice (some ⟨g, 0, none⟩) L.length c, .slice ao L.length ca] w fun e w' => e = .returned (.bool true) ∧ Below w.heap.size w w' := by
  have T := sameInts_any w (some ⟨g, 0, none⟩) ao L.length c L.length ca L L hm.out.rd hr.out rfl rfl hl hl
  rw [decide_eq_true (show L = L from rfl)] at T
  have hle := hm.out.le
  have iw0 : IntKind.i64.wrap ((L.length : Int) + 70) = ((L.length + 70 : Nat) : Int) := by rw [IntKind.wrap_i64]; omega
  have c0 : ((L.length + 70 : Nat) : Int) ≤ (c : Int) := by omega
  have c1 : (0 : Int) ≤ ((L.length + 70 : Nat) : Int) := by omega
  obtain ⟨M, hM⟩ : ∃ M, L.length + 70 = M := ⟨_, rfl⟩
  rw [hM] at iw0 c0 c1
  have HM := hide hM
  clear hM hle
  go_enter Try.func28, Try.ntmps28
  go_wp2_with fail
  go_loopw [6] (fun iv wr => ∃ i : Nat, i ≤ 70 ∧ iv = .int .i64 i ∧ wr = w) (fun iv _ => 70 - (intOf iv).toNat)
  case atStart => exact ⟨0, Nat.zero_le _, rfl, rfl⟩
  case round =>
    obtain ⟨i, hi, rfl, hw⟩ := hrel
    obtain rfl := hw.symm
    clear hw
    by_cases hlt : i < 70
    · have l0 : (i : Int) < 70 := by omega
      have iw1 : IntKind.i64.wrap ((i : Int) + 1) = (i : Int) + 1 := by rw [IntKind.wrap_i64]; omega
      have iw2 : IntKind.i64.wrap ((L.length : Int) + (i : Int)) = ((L.length + i : Nat) : Int) := by rw [IntKind.wrap_i64]; omega
      have iw3 : IntKind.i64.wrap (-1000 - (i : Int)) = -1000 - (i : Int) := by rw [IntKind.wrap_i64]; omega
      have q := own_get hm.out.rw (j := L.length + i) (mrk_at hlt L)
      obtain ⟨J, hJ⟩ : ∃ J, L.length + i = J := ⟨_, rfl⟩
      rw [hJ] at q iw2
      have j0 : (J : Int) < (M : Int) := by have := HM.out; omega
      have j1 : (0 : Int) ≤ (J : Int) := by omega
      clear hJ T
      go_wp2_with fail
      go_roundw
      case rel => exact ⟨i + 1, by omega, by go_num, by simp⟩
      case measure => simp [intOf]; omega
    · have l0 : ¬ (i : Int) < 70 := by omega
      go_wp2_with (go_at_call 21; refine T.mono ?_; rintro e wa ⟨rfl, d1⟩; have HD := hide d1; clear d1)
      refine bodyPost_ret (results_tmp rfl _ _ _) rfl ?_
      exact ⟨rfl, HD.out⟩
set_option maxRecDepth 100000 in
set_option maxHeartbeats 4000000 in
/-- Two lists of words that are one. -/
theorem sameWords_yes (w : World) (B1 B2 : Nat) (b1 b2 : Option Addr) (n1 c1 n2 c2 : Nat) (LL : List (List Int)) (h1 : OwWs w B1 (.slice b1 n1 c1) LL) (h2 : OwWs w B2 (.slice b2 n2 c2) LL) (e1 : LL.length = n1) (e2 : LL.length = n2) (hn : n1 ≤ 8192) (hw : ∀ L ∈ LL, L.length ≤ 4194304) :
    Calls Try.prog 24 #[.slice b1 n1 c1, .slice b2 n2 c2] w fun e w' => e = .returned (.bool true) ∧ Below w.heap.size w w' := by
  obtain rfl : n1 = n2 := by omega
  obtain ⟨vs1, r1, l1, o1⟩ := h1
  obtain ⟨vs2, r2, l2, o2⟩ := h2
  have H := hide (And.intro r1 (And.intro r2 (And.intro l1 (And.intro l2 e1))))
  have HO := hide (And.intro o1 (And.intro o2 hw))
  clear r1 r2 l1 l2 o1 o2 hw e1 e2
  go_enter Try.func24, Try.ntmps24
  go_wp2_with fail
  go_loopw [5] (fun iv wr => ∃ i : Nat, i ≤ n1 ∧ iv = .int .i64 i ∧ Hid (Below w.heap.size w wr)) (fun iv _ => n1 - (intOf iv).toNat)
  case atStart => exact ⟨0, Nat.zero_le _, rfl, hide (Below.refl _ _)⟩
  case round =>
    obtain ⟨i, hi, rfl, HY⟩ := hrel
    by_cases hlt : i < n1
    · have l0 : (i : Int) < (n1 : Int) := by omega
      have l1 : (0 : Int) ≤ (i : Int) := by omega
      have i1 : i < vs1.length := by have := H.out.2.2.1; have := H.out.2.2.2.2; omega
      have i2 : i < vs2.length := by have := H.out.2.2.2.1; have := H.out.2.2.2.2; omega
      have iL : i < LL.length := by have := H.out.2.2.2.2; omega
      obtain ⟨g1, o1, ea1, ca1⟩ := own1_rd (own_below H.out.1 HY.out) i i1
      obtain ⟨g2, o2, ea2, ca2⟩ := own1_rd (own_below H.out.2.1 HY.out) i i2
      obtain ⟨v1, hv1⟩ : ∃ v, vs1[i] = v := ⟨_, rfl⟩
      obtain ⟨v2, hv2⟩ : ∃ v, vs2[i] = v := ⟨_, rfl⟩
      obtain ⟨L, hL⟩ : ∃ L, LL[i] = L := ⟨_, rfl⟩
      have w1 := own_below (HO.out.1 i i1 iL) HY.out
      have w2 := own_below (HO.out.2.1 i i2 iL) HY.out
      have w3 := HO.out.2.2 LL[i] (List.getElem_mem iL)
      rw [hv1, hL] at w1
      rw [hv2, hL] at w2
      rw [hL] at w3
      rw [hv1] at ca1
      rw [hv2] at ca2
      obtain ⟨p1, k1, e1⟩ := own_slice w1
      obtain ⟨p2, k2, e2⟩ := own_slice w2
      subst e1 e2 ea1 ea2
      have TS : Hid (∀ W, Below wr.heap.size wr W → Calls Try.prog 21 #[.slice p1 L.length k1, .slice p2 L.length k2] W fun e w' => e = .returned (.bool true) ∧ Below W.heap.size W w') := hide (fun W d => by
        have z := sameInts_any W p1 p2 L.length k1 L.length k2 L L ((owI_rd w1).2.on d) ((owI_rd w2).2.on d) rfl rfl w3 w3
        rwa [decide_eq_true rfl] at z)
      clear w1 w2 w3 hv1 hv2 hL
      go_upto_region 6 with fail
      have hmo : MonIL 0 [vI 0 (.slice (some ⟨g1, o1, none⟩) n1 c1), vI 1 (.int .i64 (i : Int)), vI 2 (.pointer (some ⟨g1, o1 + i, none⟩)), vI 3 (.slice p1 L.length k1), vI 4 (.slice (some ⟨g2, o2, none⟩) n1 c2), vI 5 (.int .i64 (i : Int)), vI 6 (.pointer (some ⟨g2, o2 + i, none⟩)), vI 7 (.slice p2 L.length k2), vI 8 (.bool true), vI 9 (.bool false)] := ⟨vI_mono _ _, vI_mono _ _, vI_mono _ _, vI_mono _ _, vI_mono _ _, vI_mono _ _, vI_mono _ _, vI_mono _ _, vI_mono _ _, vI_mono _ _, trivial⟩
      refine wp_region_sl [vI 0 (.slice (some ⟨g1, o1, none⟩) n1 c1), vI 1 (.int .i64 (i : Int)), vI 2 (.pointer (some ⟨g1, o1 + i, none⟩)), vI 3 (.slice p1 L.length k1), vI 4 (.slice (some ⟨g2, o2, none⟩) n1 c2), vI 5 (.int .i64 (i : Int)), vI 6 (.pointer (some ⟨g2, o2 + i, none⟩)), vI 7 (.slice p2 L.length k2), vI 8 (.bool true), vI 9 (.bool false)] (by kernel_rfl) (by kernel_rfl) (by kernel_rfl) (by kernel_rfl) hmo ⟨?o0, ?o1, ?o2, ?o3, ?o4, ?o5, ?o6, ?o7, ?o8, ?o9, trivial⟩ ?fin
      case o0 =>
        intro At yy W hy hb d hd K hK
        have s0 : At.tmps.getD 0 undef = .slice (some ⟨g1, o1, none⟩) n1 c1 := hb 0 rfl
        have s0' := s0
        rw [Array.getD_eq_getD_getElem?] at s0'
        clear hd hy hb
        go_simp
        exact hK.out _ W (stp_of hmo d (Below.refl _ _)) (if_pos rfl)
      case o1 =>
        intro At yy W hy hb d hd K hK
        have s5 : At.tmps.getD 5 undef = .int .i64 (i : Int) := hb 5 rfl
        have s5' := s5
        rw [Array.getD_eq_getD_getElem?] at s5'
        clear hd hy hb
        go_simp
        exact hK.out _ W (stp_of hmo d (Below.refl _ _)) (if_pos rfl)
      case o2 =>
        intro At yy W hy hb d hd K hK
        have e0 : yy 0 = .slice (some ⟨g1, o1, none⟩) n1 c1 := by obtain ⟨_, _, _, _, e⟩ := hd ⟨0, .data⟩ (by simp) rfl rfl; exact e
        have e1 : yy 1 = .int .i64 (i : Int) := by obtain ⟨_, _, _, _, e⟩ := hd ⟨1, .data⟩ (by simp) rfl rfl; exact e
        have s17 := (hy 0 _ 17 rfl rfl).trans e0
        have s17' := s17
        rw [Array.getD_eq_getD_getElem?] at s17'
        have s18 := (hy 1 _ 18 rfl rfl).trans e1
        have s18' := s18
        rw [Array.getD_eq_getD_getElem?] at s18'
        clear hd hy hb
        go_simp
        exact hK.out _ W (stp_of hmo d (Below.refl _ _)) (if_pos rfl)
      case o3 =>
        intro At yy W hy hb d hd K hK
        have e2 : yy 2 = .pointer (some ⟨g1, o1 + i, none⟩) := by obtain ⟨_, _, _, _, e⟩ := hd ⟨2, .data⟩ (by simp) rfl rfl; exact e
        have s19 := (hy 2 _ 19 rfl rfl).trans e2
        have s19' := s19
        rw [Array.getD_eq_getD_getElem?] at s19'
        clear hd hy hb
        have yy1 := (d.cell (p := ⟨g1, o1 + i, none⟩) (World.block_lt_of_cell? wr _ ca1)).trans ca1
        go_simp
        exact hK.out _ W (stp_of hmo d (Below.refl _ _)) (if_pos rfl)
      case o4 =>
        intro At yy W hy hb d hd K hK
        have s1 : At.tmps.getD 1 undef = .slice (some ⟨g2, o2, none⟩) n1 c2 := hb 1 rfl
        have s1' := s1
        rw [Array.getD_eq_getD_getElem?] at s1'
        clear hd hy hb
        go_simp
        exact hK.out _ W (stp_of hmo d (Below.refl _ _)) (if_pos rfl)
      case o5 =>
        intro At yy W hy hb d hd K hK
        have s5 : At.tmps.getD 5 undef = .int .i64 (i : Int) := hb 5 rfl
        have s5' := s5
        rw [Array.getD_eq_getD_getElem?] at s5'
        clear hd hy hb
        go_simp
        exact hK.out _ W (stp_of hmo d (Below.refl _ _)) (if_pos rfl)
      case o6 =>
        intro At yy W hy hb d hd K hK
        have e4 : yy 4 = .slice (some ⟨g2, o2, none⟩) n1 c2 := by obtain ⟨_, _, _, _, e⟩ := hd ⟨4, .data⟩ (by simp) rfl rfl; exact e
        have e5 : yy 5 = .int .i64 (i : Int) := by obtain ⟨_, _, _, _, e⟩ := hd ⟨5, .data⟩ (by simp) rfl rfl; exact e
        have s21 := (hy 4 _ 21 rfl rfl).trans e4
        have s21' := s21
        rw [Array.getD_eq_getD_getElem?] at s21'
        have s22 := (hy 5 _ 22 rfl rfl).trans e5
        have s22' := s22
        rw [Array.getD_eq_getD_getElem?] at s22'
        clear hd hy hb
        go_simp
        exact hK.out _ W (stp_of hmo d (Below.refl _ _)) (if_pos rfl)
      case o7 =>
        intro At yy W hy hb d hd K hK
        have e6 : yy 6 = .pointer (some ⟨g2, o2 + i, none⟩) := by obtain ⟨_, _, _, _, e⟩ := hd ⟨6, .data⟩ (by simp) rfl rfl; exact e
        have s23 := (hy 6 _ 23 rfl rfl).trans e6
        have s23' := s23
        rw [Array.getD_eq_getD_getElem?] at s23'
        clear hd hy hb
        have yy1 := (d.cell (p := ⟨g2, o2 + i, none⟩) (World.block_lt_of_cell? wr _ ca2)).trans ca2
        go_simp
        exact hK.out _ W (stp_of hmo d (Below.refl _ _)) (if_pos rfl)
      case o8 =>
        intro At yy W hy hb d hd K hK
        have e3 : yy 3 = .slice p1 L.length k1 := by obtain ⟨_, _, _, _, e⟩ := hd ⟨3, .data⟩ (by simp) rfl rfl; exact e
        have e7 : yy 7 = .slice p2 L.length k2 := by obtain ⟨_, _, _, _, e⟩ := hd ⟨7, .data⟩ (by simp) rfl rfl; exact e
        have s20 := (hy 3 _ 20 rfl rfl).trans e3
        have s20' := s20
        rw [Array.getD_eq_getD_getElem?] at s20'
        have s24 := (hy 7 _ 24 rfl rfl).trans e7
        have s24' := s24
        rw [Array.getD_eq_getD_getElem?] at s24'
        clear hd hy hb
        go_simp
        go_wp2_with (go_at_call 21; refine (TS.out _ d).mono ?_; rintro e wa ⟨rfl, da⟩)
        exact hK.out _ wa (stp_of hmo d da) (if_pos rfl)
      case o9 =>
        intro At yy W hy hb d hd K hK
        have e8 : yy 8 = .bool true := by obtain ⟨_, _, _, _, e⟩ := hd ⟨8, .data⟩ (by simp) rfl rfl; exact e
        have s25 := (hy 8 _ 25 rfl rfl).trans e8
        have s25' := s25
        rw [Array.getD_eq_getD_getElem?] at s25'
        clear hd hy hb
        go_simp
        exact hK.out _ W (stp_of hmo d (Below.refl _ _)) (if_pos rfl)
      case fin =>
        intro yy lo hi W hM
        show wpList _ _ _ [] _ _
        have e0 : yy 0 = .slice (some ⟨g1, o1, none⟩) n1 c1 := hM.fact 0 (by simp) rfl (notR_all 0 rfl)
        have e1 : yy 1 = .int .i64 (i : Int) := hM.fact 1 (by simp) rfl (notR_all 1 rfl)
        have e2 : yy 2 = .pointer (some ⟨g1, o1 + i, none⟩) := hM.fact 2 (by simp) rfl (notR_all 2 rfl)
        have e3 : yy 3 = .slice p1 L.length k1 := hM.fact 3 (by simp) rfl (notR_all 3 rfl)
        have e4 : yy 4 = .slice (some ⟨g2, o2, none⟩) n1 c2 := hM.fact 4 (by simp) rfl (notR_all 4 rfl)
        have e5 : yy 5 = .int .i64 (i : Int) := hM.fact 5 (by simp) rfl (notR_all 5 rfl)
        have e6 : yy 6 = .pointer (some ⟨g2, o2 + i, none⟩) := hM.fact 6 (by simp) rfl (notR_all 6 rfl)
        have e7 : yy 7 = .slice p2 L.length k2 := hM.fact 7 (by simp) rfl (notR_all 7 rfl)
        have e8 : yy 8 = .bool true := hM.fact 8 (by simp) rfl (notR_all 8 rfl)
        have e9 : yy 9 = .bool false := hM.fact 9 (by simp) rfl (notR_all 9 rfl)
        have dd := hM.d
        simp only [fills, Act.put, List.take, List.length, List.setIfInBounds_toArray, List.set_cons_zero, List.set_cons_succ, e0, e1, e2, e3, e4, e5, e6, e7, e8, e9]
        clear hM hmo e0 e1 e2 e3 e4 e5 e6 e7 e8 e9 TS
        have HDD := hide dd
        clear dd ca1 ca2
        go_wp2_with fail
        go_roundw
        case rel => exact ⟨i + 1, by omega, by go_num, hide (HY.out.trans (HDD.out.mono HY.out.size))⟩
        case measure => simp [intOf]; omega
    · have l0 : ¬ (i : Int) < (n1 : Int) := by omega
      go_wp2_with fail
      go_ret
      exact ⟨rfl, HY.out⟩
set_option maxRecDepth 100000 in
set_option maxHeartbeats 4000000 in
theorem moved_any (w : World) (B : Nat) (N M st : Int) (gF kF gN kN : Nat) (Fi Nx : List Int) (hm : Hid (TwD B w gF kF gN kN Fi Nx)) (_hB : B ≤ w.heap.size) (bF : Fi.length ≤ 4194304) (bN : Nx.length ≤ 4194304) :
    Calls Try.prog 29 #[.agg #[.int .i64 N, .int .i64 M, .int .i64 st, .slice (some ⟨gF, 0, none⟩) Fi.length kF, .slice (some ⟨gN, 0, none⟩) Nx.length kN]] w fun e w' => ∃ pF jF pN jN, e = .returned (.agg #[.int .i64 N, .int .i64 M, .int .i64 st, .slice (some ⟨pF, 0, none⟩) Fi.length jF, .slice (some ⟨pN, 0, none⟩) Nx.length jN]) ∧ Hid (TwD B w' gF kF gN kN (Fi.map (onF N)) (Nx.map (onF N)) ∧ TwD w.heap.size w' pF jF pN jN (Fi.map (onF N)) (Nx.map (onF N)) ∧ Only w w' (fun k => k = gF ∨ k = gN)) := by
  obtain ⟨W0, hW0⟩ : ∃ W0, (w.alloc (.cells #[.int .i64 N, .int .i64 M, .int .i64 st, .slice (some ⟨gF, 0, none⟩) Fi.length kF, .slice (some ⟨gN, 0, none⟩) Nx.length kN] 24)).alloc (.cells #[.int .i64 0, .int .i64 0, .int .i64 0, .slice none 0 0, .slice none 0 0] 24) = W0 := ⟨_, rfl⟩
  have H2 := hide (two_al w #[.int .i64 N, .int .i64 M, .int .i64 st, .slice (some ⟨gF, 0, none⟩) Fi.length kF, .slice (some ⟨gN, 0, none⟩) Nx.length kN] #[.int .i64 0, .int .i64 0, .int .i64 0, .slice none 0 0, .slice none 0 0] 24 24)
  rw [hW0] at H2
  have HD := hide H2.out.1
  have HB0 := hide (And.intro H2.out.2.1 H2.out.2.2.1)
  have hm0 : Hid (TwD B W0 gF kF gN kN Fi Nx) := hide ⟨⟨hm.out.f.le, own_below hm.out.f.rw HD.out⟩, ⟨hm.out.n.le, own_below hm.out.n.rw HD.out⟩, hm.out.ne⟩
  have HGL := hide (And.intro hm.out.f.lt.2 hm.out.n.lt.2)
  go_enter Try.func29, Try.ntmps29
  go_wp2_with fail
  go_loopw [3] (fun iv wr => ∃ i : Nat, i ≤ Nx.length ∧ iv = .int .i64 (i : Int) ∧ Hid (wr.ownsRow B 3 1 (.slice (some ⟨gN, 0, none⟩) (Nx.length + 70) kN) (Nx.length + 70) ((mixG (onF N) Nx i ++ mrk 70).map (Value.int .i64)) ∧ Only W0 wr (fun k => k = gN))) (fun iv _ => Nx.length - (intOf iv).toNat)
  case atStart => exact ⟨0, Nat.zero_le _, rfl, hide ⟨by rw [mixG_zero]; exact hm0.out.n.rw, Only.ofBelow (Below.refl _ _)⟩⟩
  case round =>
    obtain ⟨i, hi, rfl, HY⟩ := hrel
    have HBL := hide (show wr.heap[w.heap.size]? = some (.cells #[.int .i64 N, .int .i64 M, .int .i64 st, .slice (some ⟨gF, 0, none⟩) Fi.length kF, .slice (some ⟨gN, 0, none⟩) Nx.length kN] 24 (0, 0)) from (HY.out.2.block _ (Array.getElem?_eq_some_iff.1 HB0.out.1).1 (fun e => by have := HGL.out; omega)).trans HB0.out.1)
    have y4 : wr.cell? ⟨w.heap.size, 4, none⟩ = some (.slice (some ⟨gN, 0, none⟩) Nx.length kN) := cell_of HBL.out rfl
    by_cases hlt : i < Nx.length
    · have l0 : (i : Int) < (Nx.length : Int) := by omega
      have l1 : (0 : Int) ≤ (i : Int) := by omega
      have qx := own_get HY.out.1 (mixM_get (onF N) Nx (mrk 70) i hlt)
      obtain ⟨x, hx⟩ : ∃ x, Nx[i] = x := ⟨_, rfl⟩
      obtain ⟨y, hy⟩ : ∃ y, onF N x = y := ⟨_, rfl⟩
      have TO : Hid (∀ W, Calls Try.prog 51 #[.int .i64 x, .int .i64 N] W fun e w' => e = .returned (.int .i64 y) ∧ Below W.heap.size W w') := hide (fun W => (on_any W x N).mono (fun e w' h => ⟨by rw [h.1, hy], by rw [h.2]; exact Below.refl _ _⟩))
      have HXY := hide (show Nx[i] = x ∧ onF N Nx[i] = y from ⟨hx, by rw [hx]; exact hy⟩)
      rw [hx] at qx
      clear hx hy
      go_upto_region 4 with fail
      clear y4
      have hmo : MonIL 0 [vI 0 (.pointer (some ⟨w.heap.size, 4, none⟩)), vI 1 (.slice (some ⟨gN, 0, none⟩) Nx.length kN), vI 2 (.int .i64 (i : Int)), vI 3 (.pointer (some ⟨w.heap.size, 4, none⟩)), vI 4 (.slice (some ⟨gN, 0, none⟩) Nx.length kN), vI 5 (.int .i64 (i : Int)), vI 6 (.pointer (some ⟨gN, i, none⟩)), vI 7 (.int .i64 x), vI 8 (.pointer (some ⟨w.heap.size, 0, none⟩)), vI 9 (.int .i64 N), vI 10 (.int .i64 y)] := ⟨vI_mono _ _, vI_mono _ _, vI_mono _ _, vI_mono _ _, vI_mono _ _, vI_mono _ _, vI_mono _ _, vI_mono _ _, vI_mono _ _, vI_mono _ _, vI_mono _ _, trivial⟩
      refine wp_region_sl [vI 0 (.pointer (some ⟨w.heap.size, 4, none⟩)), vI 1 (.slice (some ⟨gN, 0, none⟩) Nx.length kN), vI 2 (.int .i64 (i : Int)), vI 3 (.pointer (some ⟨w.heap.size, 4, none⟩)), vI 4 (.slice (some ⟨gN, 0, none⟩) Nx.length kN), vI 5 (.int .i64 (i : Int)), vI 6 (.pointer (some ⟨gN, i, none⟩)), vI 7 (.int .i64 x), vI 8 (.pointer (some ⟨w.heap.size, 0, none⟩)), vI 9 (.int .i64 N), vI 10 (.int .i64 y)] (by kernel_rfl) (by kernel_rfl) (by kernel_rfl) (by kernel_rfl) hmo ⟨?o0, ?o1, ?o2, ?o3, ?o4, ?o5, ?o6, ?o7, ?o8, ?o9, ?o10, trivial⟩ ?fin
      case o0 =>
        intro At yy W hy hb d hd K hK
        have s1 : At.tmps.getD 1 undef = .pointer (some ⟨w.heap.size, 0, none⟩) := hb 1 rfl
        have s1' := s1
        rw [Array.getD_eq_getD_getElem?] at s1'
        clear hd hy hb
        go_simp
        exact hK.out _ W (stp_of hmo d (Below.refl _ _)) (if_pos rfl)
      case o1 =>
        intro At yy W hy hb d hd K hK
        have e0 : yy 0 = .pointer (some ⟨w.heap.size, 4, none⟩) := by obtain ⟨_, _, _, _, e⟩ := hd ⟨0, .data⟩ (by simp) rfl rfl; exact e
        have s12 := (hy 0 _ 12 rfl rfl).trans e0
        have s12' := s12
        rw [Array.getD_eq_getD_getElem?] at s12'
        clear hd hy hb
        have yb4 : W.cell? ⟨w.heap.size, 4, none⟩ = some (.slice (some ⟨gN, 0, none⟩) Nx.length kN) := cell_of (blk_on HBL.out d) rfl
        go_simp
        exact hK.out _ W (stp_of hmo d (Below.refl _ _)) (if_pos rfl)
      case o2 =>
        intro At yy W hy hb d hd K hK
        have s3 : At.tmps.getD 3 undef = .int .i64 (i : Int) := hb 3 rfl
        have s3' := s3
        rw [Array.getD_eq_getD_getElem?] at s3'
        clear hd hy hb
        go_simp
        exact hK.out _ W (stp_of hmo d (Below.refl _ _)) (if_pos rfl)
      case o3 =>
        intro At yy W hy hb d hd K hK
        have s1 : At.tmps.getD 1 undef = .pointer (some ⟨w.heap.size, 0, none⟩) := hb 1 rfl
        have s1' := s1
        rw [Array.getD_eq_getD_getElem?] at s1'
        clear hd hy hb
        go_simp
        exact hK.out _ W (stp_of hmo d (Below.refl _ _)) (if_pos rfl)
      case o4 =>
        intro At yy W hy hb d hd K hK
        have e3 : yy 3 = .pointer (some ⟨w.heap.size, 4, none⟩) := by obtain ⟨_, _, _, _, e⟩ := hd ⟨3, .data⟩ (by simp) rfl rfl; exact e
        have s15 := (hy 3 _ 15 rfl rfl).trans e3
        have s15' := s15
        rw [Array.getD_eq_getD_getElem?] at s15'
        clear hd hy hb
        have yb4 : W.cell? ⟨w.heap.size, 4, none⟩ = some (.slice (some ⟨gN, 0, none⟩) Nx.length kN) := cell_of (blk_on HBL.out d) rfl
        go_simp
        exact hK.out _ W (stp_of hmo d (Below.refl _ _)) (if_pos rfl)
      case o5 =>
        intro At yy W hy hb d hd K hK
        have s3 : At.tmps.getD 3 undef = .int .i64 (i : Int) := hb 3 rfl
        have s3' := s3
        rw [Array.getD_eq_getD_getElem?] at s3'
        clear hd hy hb
        go_simp
        exact hK.out _ W (stp_of hmo d (Below.refl _ _)) (if_pos rfl)
      case o6 =>
        intro At yy W hy hb d hd K hK
        have e4 : yy 4 = .slice (some ⟨gN, 0, none⟩) Nx.length kN := by obtain ⟨_, _, _, _, e⟩ := hd ⟨4, .data⟩ (by simp) rfl rfl; exact e
        have e5 : yy 5 = .int .i64 (i : Int) := by obtain ⟨_, _, _, _, e⟩ := hd ⟨5, .data⟩ (by simp) rfl rfl; exact e
        have s16 := (hy 4 _ 16 rfl rfl).trans e4
        have s16' := s16
        rw [Array.getD_eq_getD_getElem?] at s16'
        have s17 := (hy 5 _ 17 rfl rfl).trans e5
        have s17' := s17
        rw [Array.getD_eq_getD_getElem?] at s17'
        clear hd hy hb
        go_simp
        exact hK.out _ W (stp_of hmo d (Below.refl _ _)) (if_pos rfl)
      case o7 =>
        intro At yy W hy hb d hd K hK
        have e6 : yy 6 = .pointer (some ⟨gN, i, none⟩) := by obtain ⟨_, _, _, _, e⟩ := hd ⟨6, .data⟩ (by simp) rfl rfl; exact e
        have s18 := (hy 6 _ 18 rfl rfl).trans e6
        have s18' := s18
        rw [Array.getD_eq_getD_getElem?] at s18'
        clear hd hy hb
        have yx := (d.cell (p := ⟨gN, i, none⟩) (World.block_lt_of_cell? wr _ qx)).trans qx
        go_simp
        exact hK.out _ W (stp_of hmo d (Below.refl _ _)) (if_pos rfl)
      case o8 =>
        intro At yy W hy hb d hd K hK
        have s1 : At.tmps.getD 1 undef = .pointer (some ⟨w.heap.size, 0, none⟩) := hb 1 rfl
        have s1' := s1
        rw [Array.getD_eq_getD_getElem?] at s1'
        clear hd hy hb
        go_simp
        exact hK.out _ W (stp_of hmo d (Below.refl _ _)) (if_pos rfl)
      case o9 =>
        intro At yy W hy hb d hd K hK
        have e8 : yy 8 = .pointer (some ⟨w.heap.size, 0, none⟩) := by obtain ⟨_, _, _, _, e⟩ := hd ⟨8, .data⟩ (by simp) rfl rfl; exact e
        have s20 := (hy 8 _ 20 rfl rfl).trans e8
        have s20' := s20
        rw [Array.getD_eq_getD_getElem?] at s20'
        clear hd hy hb
        have yb0 : W.cell? ⟨w.heap.size, 0, none⟩ = some (.int .i64 N) := cell_of (blk_on HBL.out d) rfl
        go_simp
        exact hK.out _ W (stp_of hmo d (Below.refl _ _)) (if_pos rfl)
      case o10 =>
        intro At yy W hy hb d hd K hK
        have e7 : yy 7 = .int .i64 x := by obtain ⟨_, _, _, _, e⟩ := hd ⟨7, .data⟩ (by simp) rfl rfl; exact e
        have e9 : yy 9 = .int .i64 N := by obtain ⟨_, _, _, _, e⟩ := hd ⟨9, .data⟩ (by simp) rfl rfl; exact e
        have s19 := (hy 7 _ 19 rfl rfl).trans e7
        have s19' := s19
        rw [Array.getD_eq_getD_getElem?] at s19'
        have s21 := (hy 9 _ 21 rfl rfl).trans e9
        have s21' := s21
        rw [Array.getD_eq_getD_getElem?] at s21'
        clear hd hy hb
        go_simp
        go_wp2_with (go_at_call 51; refine (TO.out W).mono ?_; rintro e wa ⟨rfl, da⟩)
        exact hK.out _ wa (stp_of hmo d da) (if_pos rfl)
      case fin =>
        intro yy lo hi W hM
        show wpList _ _ _ [_, _] _ _
        have e0 : yy 0 = .pointer (some ⟨w.heap.size, 4, none⟩) := hM.fact 0 (by simp) rfl (notR_all 0 rfl)
        have e1 : yy 1 = .slice (some ⟨gN, 0, none⟩) Nx.length kN := hM.fact 1 (by simp) rfl (notR_all 1 rfl)
        have e2 : yy 2 = .int .i64 (i : Int) := hM.fact 2 (by simp) rfl (notR_all 2 rfl)
        have e3 : yy 3 = .pointer (some ⟨w.heap.size, 4, none⟩) := hM.fact 3 (by simp) rfl (notR_all 3 rfl)
        have e4 : yy 4 = .slice (some ⟨gN, 0, none⟩) Nx.length kN := hM.fact 4 (by simp) rfl (notR_all 4 rfl)
        have e5 : yy 5 = .int .i64 (i : Int) := hM.fact 5 (by simp) rfl (notR_all 5 rfl)
        have e6 : yy 6 = .pointer (some ⟨gN, i, none⟩) := hM.fact 6 (by simp) rfl (notR_all 6 rfl)
        have e7 : yy 7 = .int .i64 x := hM.fact 7 (by simp) rfl (notR_all 7 rfl)
        have e8 : yy 8 = .pointer (some ⟨w.heap.size, 0, none⟩) := hM.fact 8 (by simp) rfl (notR_all 8 rfl)
        have e9 : yy 9 = .int .i64 N := hM.fact 9 (by simp) rfl (notR_all 9 rfl)
        have e10 : yy 10 = .int .i64 y := hM.fact 10 (by simp) rfl (notR_all 10 rfl)
        have dd := hM.d
        simp only [fills, Act.put, List.take, List.length, List.setIfInBounds_toArray, List.set_cons_zero, List.set_cons_succ, e0, e1, e2, e3, e4, e5, e6, e7, e8, e9, e10]
        clear hM hmo e0 e1 e2 e3 e4 e5 e6 e7 e8 e9 e10 TO
        have HR2 := hide (own_below HY.out.1 dd)
        have HO2 := hide (HY.out.2.trans (Only.ofBelow dd))
        have fz := row_fz HR2.out i
        have cz := own_get HR2.out (mixM_get (onF N) Nx (mrk 70) i hlt)
        have HS := hide (row1_set HR2.out i (.int .i64 (onF N Nx[i])))
        rw [mixM_set (onF N) Nx (mrk 70) i hlt] at HS
        rw [HXY.out.2] at HS
        clear dd qx
        go_wp2_with fail
        go_roundw
        case rel => exact ⟨i + 1, by omega, by go_num, hide ⟨HS.out, HO2.out.trans (only_set W gN i (.int .i64 y))⟩⟩
        case measure => simp [intOf]; omega
    · have l0 : ¬ (i : Int) < (Nx.length : Int) := by omega
      obtain rfl : i = Nx.length := by omega
      have HM : Hid (Mk B wr gN kN (Nx.map (onF N))) := hide ⟨by rw [List.length_map]; exact hm0.out.n.le, by have := HY.out.1; rw [mixG_full] at this; rw [List.length_map]; exact this⟩
      have HON1 := hide HY.out.2
      have HM1 := HM
      have HF1 := hide (show Mk B wr gF kF Fi from ⟨hm0.out.f.le, own_only hm0.out.f.rw HON1.out hm.out.ne⟩)
      clear HY hi hlt
      go_wp2_with fail
      clear l0 y4
      obtain ⟨wb, hwb⟩ : ∃ y, wr = y := ⟨_, rfl⟩
      rw [hwb] at HON1 HM1 HF1 HBL ⊢
      have HB0' := HB0
      clear HM HB0 hwb
      have HB0 := hide (show wb.heap[w.heap.size]? = some (.cells #[.int .i64 N, .int .i64 M, .int .i64 st, .slice (some ⟨gF, 0, none⟩) Fi.length kF, .slice (some ⟨gN, 0, none⟩) Nx.length kN] 24 (0, 0)) ∧ wb.heap[w.heap.size + 1]? = some (.cells #[.int .i64 0, .int .i64 0, .int .i64 0, .slice none 0 0, .slice none 0 0] 24 (0, 0)) from ⟨HBL.out, (HON1.out.block _ (Array.getElem?_eq_some_iff.1 HB0'.out.2).1 (fun e => by have := HGL.out; omega)).trans HB0'.out.2⟩)
      clear HBL
      go_loopw [4] (fun iv wr => ∃ i : Nat, i ≤ Fi.length ∧ iv = .int .i64 (i : Int) ∧ Hid (wr.ownsRow B 3 1 (.slice (some ⟨gF, 0, none⟩) (Fi.length + 70) kF) (Fi.length + 70) ((mixG (onF N) Fi i ++ mrk 70).map (Value.int .i64)) ∧ Only wb wr (fun k => k = gF))) (fun iv _ => Fi.length - (intOf iv).toNat)
      case atStart => exact ⟨0, Nat.zero_le _, rfl, hide ⟨by rw [mixG_zero]; exact HF1.out.rw, Only.ofBelow (Below.refl _ _)⟩⟩
      case round =>
        obtain ⟨i, hi, rfl, HY⟩ := hrel
        have HBL := hide (show wr.heap[w.heap.size]? = some (.cells #[.int .i64 N, .int .i64 M, .int .i64 st, .slice (some ⟨gF, 0, none⟩) Fi.length kF, .slice (some ⟨gN, 0, none⟩) Nx.length kN] 24 (0, 0)) from (HY.out.2.block _ (Array.getElem?_eq_some_iff.1 HB0.out.1).1 (fun e => by have := HGL.out; omega)).trans HB0.out.1)
        have y3 : wr.cell? ⟨w.heap.size, 3, none⟩ = some (.slice (some ⟨gF, 0, none⟩) Fi.length kF) := cell_of HBL.out rfl
        by_cases hlt : i < Fi.length
        · have l0 : (i : Int) < (Fi.length : Int) := by omega
          have l1 : (0 : Int) ≤ (i : Int) := by omega
          have qx := own_get HY.out.1 (mixM_get (onF N) Fi (mrk 70) i hlt)
          obtain ⟨x, hx⟩ : ∃ x, Fi[i] = x := ⟨_, rfl⟩
          obtain ⟨y, hy⟩ : ∃ y, onF N x = y := ⟨_, rfl⟩
          have TO : Hid (∀ W, Calls Try.prog 51 #[.int .i64 x, .int .i64 N] W fun e w' => e = .returned (.int .i64 y) ∧ Below W.heap.size W w') := hide (fun W => (on_any W x N).mono (fun e w' h => ⟨by rw [h.1, hy], by rw [h.2]; exact Below.refl _ _⟩))
          have HXY := hide (show Fi[i] = x ∧ onF N Fi[i] = y from ⟨hx, by rw [hx]; exact hy⟩)
          rw [hx] at qx
          clear hx hy
          go_upto_region 8 with fail
          clear y3
          have hmo : MonIL 0 [vI 0 (.pointer (some ⟨w.heap.size, 3, none⟩)), vI 1 (.slice (some ⟨gF, 0, none⟩) Fi.length kF), vI 2 (.int .i64 (i : Int)), vI 3 (.pointer (some ⟨w.heap.size, 3, none⟩)), vI 4 (.slice (some ⟨gF, 0, none⟩) Fi.length kF), vI 5 (.int .i64 (i : Int)), vI 6 (.pointer (some ⟨gF, i, none⟩)), vI 7 (.int .i64 x), vI 8 (.pointer (some ⟨w.heap.size, 0, none⟩)), vI 9 (.int .i64 N), vI 10 (.int .i64 y)] := ⟨vI_mono _ _, vI_mono _ _, vI_mono _ _, vI_mono _ _, vI_mono _ _, vI_mono _ _, vI_mono _ _, vI_mono _ _, vI_mono _ _, vI_mono _ _, vI_mono _ _, trivial⟩
          refine wp_region_sl [vI 0 (.pointer (some ⟨w.heap.size, 3, none⟩)), vI 1 (.slice (some ⟨gF, 0, none⟩) Fi.length kF), vI 2 (.int .i64 (i : Int)), vI 3 (.pointer (some ⟨w.heap.size, 3, none⟩)), vI 4 (.slice (some ⟨gF, 0, none⟩) Fi.length kF), vI 5 (.int .i64 (i : Int)), vI 6 (.pointer (some ⟨gF, i, none⟩)), vI 7 (.int .i64 x), vI 8 (.pointer (some ⟨w.heap.size, 0, none⟩)), vI 9 (.int .i64 N), vI 10 (.int .i64 y)] (by kernel_rfl) (by kernel_rfl) (by kernel_rfl) (by kernel_rfl) hmo ⟨?o0, ?o1, ?o2, ?o3, ?o4, ?o5, ?o6, ?o7, ?o8, ?o9, ?o10, trivial⟩ ?fin
          case o0 =>
            intro At yy W hy hb d hd K hK
            have s1 : At.tmps.getD 1 undef = .pointer (some ⟨w.heap.size, 0, none⟩) := hb 1 rfl
            have s1' := s1
            rw [Array.getD_eq_getD_getElem?] at s1'
            clear hd hy hb
            go_simp
            exact hK.out _ W (stp_of hmo d (Below.refl _ _)) (if_pos rfl)
          case o1 =>
            intro At yy W hy hb d hd K hK
            have e0 : yy 0 = .pointer (some ⟨w.heap.size, 3, none⟩) := by obtain ⟨_, _, _, _, e⟩ := hd ⟨0, .data⟩ (by simp) rfl rfl; exact e
            have s31 := (hy 0 _ 31 rfl rfl).trans e0
            have s31' := s31
            rw [Array.getD_eq_getD_getElem?] at s31'
            clear hd hy hb
            have yb3 : W.cell? ⟨w.heap.size, 3, none⟩ = some (.slice (some ⟨gF, 0, none⟩) Fi.length kF) := cell_of (blk_on HBL.out d) rfl
            go_simp
            exact hK.out _ W (stp_of hmo d (Below.refl _ _)) (if_pos rfl)
          case o2 =>
            intro At yy W hy hb d hd K hK
            have s4 : At.tmps.getD 4 undef = .int .i64 (i : Int) := hb 4 rfl
            have s4' := s4
            rw [Array.getD_eq_getD_getElem?] at s4'
            clear hd hy hb
            go_simp
            exact hK.out _ W (stp_of hmo d (Below.refl _ _)) (if_pos rfl)
          case o3 =>
            intro At yy W hy hb d hd K hK
            have s1 : At.tmps.getD 1 undef = .pointer (some ⟨w.heap.size, 0, none⟩) := hb 1 rfl
            have s1' := s1
            rw [Array.getD_eq_getD_getElem?] at s1'
            clear hd hy hb
            go_simp
            exact hK.out _ W (stp_of hmo d (Below.refl _ _)) (if_pos rfl)
          case o4 =>
            intro At yy W hy hb d hd K hK
            have e3 : yy 3 = .pointer (some ⟨w.heap.size, 3, none⟩) := by obtain ⟨_, _, _, _, e⟩ := hd ⟨3, .data⟩ (by simp) rfl rfl; exact e
            have s34 := (hy 3 _ 34 rfl rfl).trans e3
            have s34' := s34
            rw [Array.getD_eq_getD_getElem?] at s34'
            clear hd hy hb
            have yb3 : W.cell? ⟨w.heap.size, 3, none⟩ = some (.slice (some ⟨gF, 0, none⟩) Fi.length kF) := cell_of (blk_on HBL.out d) rfl
            go_simp
            exact hK.out _ W (stp_of hmo d (Below.refl _ _)) (if_pos rfl)
          case o5 =>
            intro At yy W hy hb d hd K hK
            have s4 : At.tmps.getD 4 undef = .int .i64 (i : Int) := hb 4 rfl
            have s4' := s4
            rw [Array.getD_eq_getD_getElem?] at s4'
            clear hd hy hb
            go_simp
            exact hK.out _ W (stp_of hmo d (Below.refl _ _)) (if_pos rfl)
          case o6 =>
            intro At yy W hy hb d hd K hK
            have e4 : yy 4 = .slice (some ⟨gF, 0, none⟩) Fi.length kF := by obtain ⟨_, _, _, _, e⟩ := hd ⟨4, .data⟩ (by simp) rfl rfl; exact e
            have e5 : yy 5 = .int .i64 (i : Int) := by obtain ⟨_, _, _, _, e⟩ := hd ⟨5, .data⟩ (by simp) rfl rfl; exact e
            have s35 := (hy 4 _ 35 rfl rfl).trans e4
            have s35' := s35
            rw [Array.getD_eq_getD_getElem?] at s35'
            have s36 := (hy 5 _ 36 rfl rfl).trans e5
            have s36' := s36
            rw [Array.getD_eq_getD_getElem?] at s36'
            clear hd hy hb
            go_simp
            exact hK.out _ W (stp_of hmo d (Below.refl _ _)) (if_pos rfl)
          case o7 =>
            intro At yy W hy hb d hd K hK
            have e6 : yy 6 = .pointer (some ⟨gF, i, none⟩) := by obtain ⟨_, _, _, _, e⟩ := hd ⟨6, .data⟩ (by simp) rfl rfl; exact e
            have s37 := (hy 6 _ 37 rfl rfl).trans e6
            have s37' := s37
            rw [Array.getD_eq_getD_getElem?] at s37'
            clear hd hy hb
            have yx := (d.cell (p := ⟨gF, i, none⟩) (World.block_lt_of_cell? wr _ qx)).trans qx
            go_simp
            exact hK.out _ W (stp_of hmo d (Below.refl _ _)) (if_pos rfl)
          case o8 =>
            intro At yy W hy hb d hd K hK
            have s1 : At.tmps.getD 1 undef = .pointer (some ⟨w.heap.size, 0, none⟩) := hb 1 rfl
            have s1' := s1
            rw [Array.getD_eq_getD_getElem?] at s1'
            clear hd hy hb
            go_simp
            exact hK.out _ W (stp_of hmo d (Below.refl _ _)) (if_pos rfl)
          case o9 =>
            intro At yy W hy hb d hd K hK
            have e8 : yy 8 = .pointer (some ⟨w.heap.size, 0, none⟩) := by obtain ⟨_, _, _, _, e⟩ := hd ⟨8, .data⟩ (by simp) rfl rfl; exact e
            have s39 := (hy 8 _ 39 rfl rfl).trans e8
            have s39' := s39
            rw [Array.getD_eq_getD_getElem?] at s39'
            clear hd hy hb
            have yb0 : W.cell? ⟨w.heap.size, 0, none⟩ = some (.int .i64 N) := cell_of (blk_on HBL.out d) rfl
            go_simp
            exact hK.out _ W (stp_of hmo d (Below.refl _ _)) (if_pos rfl)
          case o10 =>
            intro At yy W hy hb d hd K hK
            have e7 : yy 7 = .int .i64 x := by obtain ⟨_, _, _, _, e⟩ := hd ⟨7, .data⟩ (by simp) rfl rfl; exact e
            have e9 : yy 9 = .int .i64 N := by obtain ⟨_, _, _, _, e⟩ := hd ⟨9, .data⟩ (by simp) rfl rfl; exact e
            have s38 := (hy 7 _ 38 rfl rfl).trans e7
            have s38' := s38
            rw [Array.getD_eq_getD_getElem?] at s38'
            have s40 := (hy 9 _ 40 rfl rfl).trans e9
            have s40' := s40
            rw [Array.getD_eq_getD_getElem?] at s40'
            clear hd hy hb
            go_simp
            go_wp2_with (go_at_call 51; refine (TO.out W).mono ?_; rintro e wa ⟨rfl, da⟩)
            exact hK.out _ wa (stp_of hmo d da) (if_pos rfl)
          case fin =>
            intro yy lo hi W hM
            show wpList _ _ _ [_, _] _ _
            have e0 : yy 0 = .pointer (some ⟨w.heap.size, 3, none⟩) := hM.fact 0 (by simp) rfl (notR_all 0 rfl)
            have e1 : yy 1 = .slice (some ⟨gF, 0, none⟩) Fi.length kF := hM.fact 1 (by simp) rfl (notR_all 1 rfl)
            have e2 : yy 2 = .int .i64 (i : Int) := hM.fact 2 (by simp) rfl (notR_all 2 rfl)
            have e3 : yy 3 = .pointer (some ⟨w.heap.size, 3, none⟩) := hM.fact 3 (by simp) rfl (notR_all 3 rfl)
            have e4 : yy 4 = .slice (some ⟨gF, 0, none⟩) Fi.length kF := hM.fact 4 (by simp) rfl (notR_all 4 rfl)
            have e5 : yy 5 = .int .i64 (i : Int) := hM.fact 5 (by simp) rfl (notR_all 5 rfl)
            have e6 : yy 6 = .pointer (some ⟨gF, i, none⟩) := hM.fact 6 (by simp) rfl (notR_all 6 rfl)
            have e7 : yy 7 = .int .i64 x := hM.fact 7 (by simp) rfl (notR_all 7 rfl)
            have e8 : yy 8 = .pointer (some ⟨w.heap.size, 0, none⟩) := hM.fact 8 (by simp) rfl (notR_all 8 rfl)
            have e9 : yy 9 = .int .i64 N := hM.fact 9 (by simp) rfl (notR_all 9 rfl)
            have e10 : yy 10 = .int .i64 y := hM.fact 10 (by simp) rfl (notR_all 10 rfl)
            have dd := hM.d
            simp only [fills, Act.put, List.take, List.length, List.setIfInBounds_toArray, List.set_cons_zero, List.set_cons_succ, e0, e1, e2, e3, e4, e5, e6, e7, e8, e9, e10]
            clear hM hmo e0 e1 e2 e3 e4 e5 e6 e7 e8 e9 e10 TO
            have HR2 := hide (own_below HY.out.1 dd)
            have HO2 := hide (HY.out.2.trans (Only.ofBelow dd))
            have fz := row_fz HR2.out i
            have cz := own_get HR2.out (mixM_get (onF N) Fi (mrk 70) i hlt)
            have HS := hide (row1_set HR2.out i (.int .i64 (onF N Fi[i])))
            rw [mixM_set (onF N) Fi (mrk 70) i hlt] at HS
            rw [HXY.out.2] at HS
            clear dd qx
            go_wp2_with fail
            go_roundw
            case rel => exact ⟨i + 1, by omega, by go_num, hide ⟨HS.out, HO2.out.trans (only_set W gF i (.int .i64 y))⟩⟩
            case measure => simp [intOf]; omega
        · have l0 : ¬ (i : Int) < (Fi.length : Int) := by omega
          obtain rfl : i = Fi.length := by omega
          have HM : Hid (Mk B wr gF kF (Fi.map (onF N))) := hide ⟨by rw [List.length_map]; exact HF1.out.le, by have := HY.out.1; rw [mixG_full] at this; rw [List.length_map]; exact this⟩
          have HON := hide HY.out.2
          have HO3 := hide (show Only W0 wr (fun k => k = gF ∨ k = gN) from (HON1.out.mono (fun k _ h => Or.inr h)).trans (HON.out.mono (fun k _ h => Or.inl h)))
          have HMN := hide (show Mk B wr gN kN (Nx.map (onF N)) from ⟨HM1.out.le, own_only HM1.out.rw HON.out (fun e => hm.out.ne e.symm)⟩)
          have hZ : wr.heap[w.heap.size + 1]? = some (.cells #[.int .i64 0, .int .i64 0, .int .i64 0, .slice none 0 0, .slice none 0 0] 24 (0, 0)) := (HON.out.block _ (Array.getElem?_eq_some_iff.1 HB0.out.2).1 (fun e => by have := HGL.out; omega)).trans HB0.out.2
          have k0 : wr.cell? ⟨w.heap.size, 0, none⟩ = some (.int .i64 N) := cell_of HBL.out rfl
          have k1 : wr.cell? ⟨w.heap.size, 1, none⟩ = some (.int .i64 M) := cell_of HBL.out rfl
          have k2 : wr.cell? ⟨w.heap.size, 2, none⟩ = some (.int .i64 st) := cell_of HBL.out rfl
          have k3 : wr.cell? ⟨w.heap.size, 3, none⟩ = some (.slice (some ⟨gF, 0, none⟩) Fi.length kF) := cell_of HBL.out rfl
          have k4 : wr.cell? ⟨w.heap.size, 4, none⟩ = some (.slice (some ⟨gN, 0, none⟩) Nx.length kN) := cell_of HBL.out rfl
          have T9 := twin_any wr N M st (some ⟨gF, 0, none⟩) (some ⟨gN, 0, none⟩) kF kN (Fi.map (onF N)) (Nx.map (onF N)) HM.out.rd HMN.out.rd (by rw [List.length_map]; exact bF) (by rw [List.length_map]; exact bN)
          rw [List.length_map, List.length_map] at T9
          clear l0 hlt HY hi
          go_wp2_with fail
          go_at_call 9
          refine T9.mono ?_
          rintro e w5 ⟨pF, jF, pN, jN, rfl, HT, d5⟩
          have B5 := blk_on hZ d5
          have HMF5 := hide (show Mk B w5 gF kF (Fi.map (onF N)) ∧ Mk B w5 gN kN (Nx.map (onF N)) from ⟨⟨HM.out.le, own_below HM.out.rw d5⟩, ⟨HMN.out.le, own_below HMN.out.rw d5⟩⟩)
          have HD5 := hide d5
          have r0 : w5.cell? ⟨w.heap.size + 1, 0, none⟩ = some (.int .i64 0) := cell_of B5 rfl
          have r1 : w5.cell? ⟨w.heap.size + 1, 1, none⟩ = some (.int .i64 0) := cell_of B5 rfl
          have r2 : w5.cell? ⟨w.heap.size + 1, 2, none⟩ = some (.int .i64 0) := cell_of B5 rfl
          have r3 : w5.cell? ⟨w.heap.size + 1, 3, none⟩ = some (.slice none 0 0) := cell_of B5 rfl
          have r4 : w5.cell? ⟨w.heap.size + 1, 4, none⟩ = some (.slice none 0 0) := cell_of B5 rfl
          have f0 : w5.frozen? ⟨w.heap.size + 1, 0, none⟩ = false := fz_of B5
          have f1 : w5.frozen? ⟨w.heap.size + 1, 1, none⟩ = false := fz_of B5
          have f2 : w5.frozen? ⟨w.heap.size + 1, 2, none⟩ = false := fz_of B5
          have f3 : w5.frozen? ⟨w.heap.size + 1, 3, none⟩ = false := fz_of B5
          have f4 : w5.frozen? ⟨w.heap.size + 1, 4, none⟩ = false := fz_of B5
          have O6 := hide (And.intro (set5 w5 (w.heap.size + 1) _ _ _ _ _ (.int .i64 N) (.int .i64 M) (.int .i64 st) (.slice (some ⟨pF, 0, none⟩) Fi.length jF) (.slice (some ⟨pN, 0, none⟩) Nx.length jN) 24 B5) (And.intro (only5 w5 (w.heap.size + 1) (.int .i64 N) (.int .i64 M) (.int .i64 st) (.slice (some ⟨pF, 0, none⟩) Fi.length jF) (.slice (some ⟨pN, 0, none⟩) Nx.length jN)) B5))
          clear B5 d5 k0 k1 k2 k3 k4 T9 hZ
          go_wp2_with fail
          refine bodyPost_ret (results_cell_row (p := 2) (ty := 24) rfl _ _ (w.heap.size + 1) 24 _ (0, 0) _ rfl O6.out.1 Try.underlying24 rfl (by kernel_rfl)) rfl ?_
          have hsz : w.heap.size ≤ wr.heap.size := Nat.le_trans HD.out.size HO3.out.size
          refine ⟨pF, jF, pN, jN, rfl, hide ⟨⟨⟨HMF5.out.1.le, own_keep HMF5.out.1.rw O6.out.2.2 (by decide) O6.out.2.1⟩, ⟨HMF5.out.2.le, own_keep HMF5.out.2.rw O6.out.2.2 (by decide) O6.out.2.1⟩, hm.out.ne⟩, ⟨⟨HT.out.f.le, owns_down (own_keep HT.out.f.rw O6.out.2.2 (by decide) O6.out.2.1) hsz⟩, ⟨HT.out.n.le, owns_down (own_keep HT.out.n.rw O6.out.2.2 (by decide) O6.out.2.1) hsz⟩, HT.out.ne⟩, ?_⟩⟩
          have x1 : Only w W0 (fun k => k = gF ∨ k = gN) := Only.ofBelow HD.out
          have x2 : Only w5 _ (fun k => k = w.heap.size + 1) := O6.out.2.1
          have x3 : Only w w5 (fun k => k = gF ∨ k = gN) := (x1.trans HO3.out).trans (Only.ofBelow HD5.out)
          exact ⟨x2.os.trans x3.os, x2.tape.trans x3.tape, x2.output.trans x3.output, Nat.le_trans x3.size x2.size, fun k hk hn => (x2.block k (Nat.lt_of_lt_of_le hk x3.size) (fun e => by omega)).trans (x3.block k hk hn)⟩
end Go.Proofs.Ytocoghljmlpdeaa
namespace Go.Proofs.Ytocoghljmlpdeaa
open Go.RowKit Go.Maps
attribute [local go_sem] Oper.semAt_some
/-! ### What the law holds -/
abbrev Ent := Value × List Int
def Dj (x y : Ent) : Prop := ∀ k, x.1.ownBlock = some k → y.1.ownBlock ≠ some k
theorem Dj.symm {x y : Ent} (h : Dj x y) : Dj y x := fun k h1 h2 => h k h2 h1
/-- What the law holds: boxes, rows of numbers that lie apart (in three lots), rows of words. -/
structure ExS (w0 W : World) (Bx : List (Nat × Array Value × TypeId)) (E1 E2 E3 : List Ent) (Rw : List (Value × List Value)) : Prop where
  b : ∀ q ∈ Bx, W.heap[q.1]? = some (.cells q.2.1 q.2.2 (0, 0)) ∧ q.2.2 ≠ 3
  e : ∀ x ∈ E1 ++ E2 ++ E3, OwI W w0.heap.size x.1 x.2
  p : (E1 ++ E2 ++ E3).Pairwise Dj
  v : ∀ x ∈ Rw, W.ownsRow w0.heap.size 22 1 x.1 x.2.length x.2
  d : Below w0.heap.size w0 W
section
variable {w0 W W' : World} {Bx : List (Nat × Array Value × TypeId)} {E1 E2 E3 : List Ent} {Rw : List (Value × List Value)}
theorem ExS.on (h : ExS w0 W Bx E1 E2 E3 Rw) (d : Below W.heap.size W W') : ExS w0 W' Bx E1 E2 E3 Rw :=
  ⟨fun q hq => ⟨blk_on (h.b q hq).1 d, (h.b q hq).2⟩, fun x hx => own_below (h.e x hx) d, h.p, fun x hx => own_below (h.v x hx) d, h.d.trans (d.mono h.d.size)⟩
/-- New rows. -/
theorem new_pair (h : ExS w0 W Bx E1 E2 E3 Rw) {L : List Ent} (o : ∀ x ∈ L, OwI W' W.heap.size x.1 x.2) (p : L.Pairwise Dj) : (L ++ (E1 ++ E2 ++ E3)).Pairwise Dj := by
  refine List.pairwise_append.2 ⟨p, h.p, fun x hx y hy k h1 h2 => ?_⟩
  have z1 := ((o x hx).lt k h1).1
  have z2 := ((h.e y hy).lt k h2).2
  omega
theorem ExS.swap {F1 F2 F3 : List Ent} (h : ExS w0 W Bx E1 E2 E3 Rw) (q : (E1 ++ E2 ++ E3).Perm (F1 ++ F2 ++ F3)) : ExS w0 W Bx F1 F2 F3 Rw :=
  ⟨h.b, fun x hx => h.e x (q.mem_iff.2 hx), (q.pairwise_iff Dj.symm).1 h.p, h.v, h.d⟩
theorem ExS.put1 (h : ExS w0 W Bx E1 E2 E3 Rw) (d : Below W.heap.size W W') {L : List Ent} (o : ∀ x ∈ L, OwI W' W.heap.size x.1 x.2) (p : L.Pairwise Dj) : ExS w0 W' Bx (L ++ E1) E2 E3 Rw := by
  have z := h.on d
  refine ⟨z.b, fun x hx => ?_, ?_, z.v, z.d⟩
  · rw [List.append_assoc, List.append_assoc] at hx
    rcases List.mem_append.1 hx with e | e
    · exact owns_down (o x e) h.d.size
    · exact z.e x (by rw [List.append_assoc]; exact e)
  · rw [List.append_assoc, List.append_assoc, ← List.append_assoc E1]
    exact new_pair h o p
theorem perm2 (L A B C : List Ent) : (L ++ A ++ B ++ C).Perm (A ++ (L ++ B) ++ C) := by
  refine List.Perm.append_right C ?_
  rw [← List.append_assoc]
  exact List.Perm.append_right B List.perm_append_comm
theorem perm3 (L A B C : List Ent) : (L ++ A ++ B ++ C).Perm (A ++ B ++ (L ++ C)) := by
  rw [← List.append_assoc (A ++ B), List.append_assoc L A B]
  exact List.Perm.append_right C List.perm_append_comm
theorem ExS.put2 (h : ExS w0 W Bx E1 E2 E3 Rw) (d : Below W.heap.size W W') {L : List Ent} (o : ∀ x ∈ L, OwI W' W.heap.size x.1 x.2) (p : L.Pairwise Dj) : ExS w0 W' Bx E1 (L ++ E2) E3 Rw :=
  (h.put1 d o p).swap (perm2 L E1 E2 E3)
theorem ExS.put3 (h : ExS w0 W Bx E1 E2 E3 Rw) (d : Below W.heap.size W W') {L : List Ent} (o : ∀ x ∈ L, OwI W' W.heap.size x.1 x.2) (p : L.Pairwise Dj) : ExS w0 W' Bx E1 E2 (L ++ E3) Rw :=
  (h.put1 d o p).swap (perm3 L E1 E2 E3)
theorem ExS.box (h : ExS w0 W Bx E1 E2 E3 Rw) (C : Array Value) (t : TypeId) (ht : t ≠ 3) : ExS w0 (W.alloc (.cells C t)) ((W.heap.size, C, t) :: Bx) E1 E2 E3 Rw := by
  have z := h.on ((Below.refl _ _).alloc (Nat.le_refl _) (.cells C t))
  refine ⟨fun q hq => ?_, z.e, z.p, z.v, z.d⟩
  rcases List.mem_cons.1 hq with e | e
  · subst e
    exact ⟨World.alloc_heap_new _ _, ht⟩
  · exact z.b q e
theorem ExS.rows (h : ExS w0 W Bx E1 E2 E3 Rw) {v : Value} {vs : List Value} (o : W.ownsRow w0.heap.size 22 1 v vs.length vs) : ExS w0 W Bx E1 E2 E3 ((v, vs) :: Rw) :=
  ⟨h.b, h.e, h.p, fun x hx => by
    rcases List.mem_cons.1 hx with e | e
    · subst e; exact o
    · exact h.v x e, h.d⟩
/-- Rows are written over: the others stay. -/
theorem ExS.over (h : ExS w0 W Bx E1 E2 E3 Rw) (o : Only W W' (fun b => ∃ x ∈ E1, x.1.ownBlock = some b)) : ExS w0 W' Bx [] E2 E3 Rw := by
  have hp := h.p
  rw [List.append_assoc] at hp
  have cross := (List.pairwise_append.1 hp).2.2
  have mem : ∀ x, x ∈ E2 ++ E3 → x ∈ E1 ++ E2 ++ E3 := fun x hx => by rw [List.append_assoc]; exact List.mem_append_right _ hx
  have mem1 : ∀ x, x ∈ E1 → x ∈ E1 ++ E2 ++ E3 := fun x hx => by rw [List.append_assoc]; exact List.mem_append_left _ hx
  refine ⟨fun q hq => ⟨?_, (h.b q hq).2⟩, fun x hx => ?_, ?_, fun x hx => ?_, ?_⟩
  · have hb := (h.b q hq).1
    refine (o.block q.1 (Array.getElem?_eq_some_iff.1 hb).1 ?_).trans hb
    rintro ⟨x, hx, e⟩
    exact row_tag (h.e x (mem1 x hx)) hb (h.b q hq).2 e
  · rw [List.nil_append] at hx
    refine row_only (h.e x (mem x hx)) o ?_
    rintro k hk ⟨y, hy, e⟩
    exact cross y hy x hx k e hk
  · rw [List.nil_append]
    exact (List.pairwise_append.1 hp).2.1
  · refine row_only (h.v x hx) o ?_
    rintro k hk ⟨y, hy, e⟩
    exact own_tags (h.e y (mem1 y hy)) (h.v x hx) (by decide) e hk
  · refine h.d.trans (o.toBelow h.d.size ?_)
    rintro k ⟨x, hx, e⟩
    exact ((h.e x (mem1 x hx)).lt k e).1
end
theorem mk_en {B : Nat} {W : World} {g c : Nat} {L : List Int} (h : Mk B W g c L) : OwI W B (.slice (some ⟨g, 0, none⟩) (L.length + 70) c) (L ++ mrk 70) := by
  unfold OwI
  have e : (L ++ mrk 70).length = L.length + 70 := by simp [mrk]
  rw [e]
  exact h.rw
theorem en_mk {B : Nat} {W : World} {g c : Nat} {L : List Int} (h : OwI W B (.slice (some ⟨g, 0, none⟩) (L.length + 70) c) (L ++ mrk 70)) : Mk B W g c L := by
  have e : (L ++ mrk 70).length = L.length + 70 := by simp [mrk]
  unfold OwI at h
  rw [e] at h
  exact ⟨own_cap h, h⟩
end Go.Proofs.Ytocoghljmlpdeaa
namespace Go.Proofs.Ytocoghljmlpdeaa.ov
open Go.RowKit Go.Maps Go.Shelf
/-- The caller writes over a lot of rows: the others stay. -/
theorem over_all {w0 W W2 : World} {Bx : List (Nat × Array Value × TypeId)} {E1 E2 E3 A : List Ent} {Rw : List (Value × List Value)} {gL cL K : Nat} (h : ExS w0 W Bx E1 E2 E3 Rw) (hp : E1.Perm A) (d : Below W.heap.size W W2) (hg : W.heap.size ≤ gL) (hA : W2.ownsRow W.heap.size 22 1 (.slice (some ⟨gL, 0, none⟩) K cL) K (A.map Prod.fst)) (hK : A.length = K) (hK2 : K ≤ 8192) (hl : ∀ x ∈ A, x.2.length ≤ 4194000) :
    Calls Try.prog 27 #[.slice (some ⟨gL, 0, none⟩) K cL] W2 fun e w' => e = .returned (.bool true) ∧ ExS w0 w' Bx [] E2 E3 Rw := by
  obtain ⟨cs, hcs, hcv⟩ : ∃ cs : Array Value, W2.heap[gL]? = some (.cells cs 22 (0, 0)) ∧ ∀ k, k < K → cs[k]? = (A.map Prod.fst)[k]? := by
    rcases hA.2 with ⟨e, _⟩ | ⟨g, cap, cur, e, hb, hc, h1, h2, h3, h4⟩
    · cases e
    · cases e
      exact ⟨cur, hc, fun k hk => by rw [← h4, List.getElem?_take_of_lt (by omega), Array.getElem?_toList]⟩
  obtain ⟨v, hv⟩ : ∃ v : Nat → Value, v = fun i => ((A[i]?).getD (.slice none 0 0, [])).1 := ⟨_, rfl⟩
  obtain ⟨X, hX⟩ : ∃ X : Nat → List Int, X = fun i => ((A[i]?).getD (.slice none 0 0, [])).2 := ⟨_, rfl⟩
  have at1 : ∀ i (hi : i < A.length), v i = A[i].1 ∧ X i = A[i].2 := fun i hi => by
    rw [hv, hX]
    simp [List.getElem?_eq_getElem hi]
  have memE : ∀ i (hi : i < A.length), A[i] ∈ E1 ++ E2 ++ E3 := fun i hi => by
    rw [List.append_assoc]
    exact List.mem_append_left _ (hp.mem_iff.2 (List.getElem_mem hi))
  have own : ∀ i, i < K → OwI W w0.heap.size (v i) (X i) := fun i hi => by
    obtain ⟨e1, e2⟩ := at1 i (by omega)
    rw [e1, e2]
    exact h.e _ (memE i (by omega))
  have pw : A.Pairwise Dj := by
    have z := h.p
    rw [List.append_assoc] at z
    exact (hp.pairwise_iff Dj.symm).1 (List.pairwise_append.1 z).1
  have apart : ∀ i j, i < K → j < K → i ≠ j → ∀ k, (v i).ownBlock = some k → (v j).ownBlock ≠ some k := fun i j hi hj hij k h1 h2 => by
    obtain ⟨e1, _⟩ := at1 i (by omega)
    obtain ⟨e2, _⟩ := at1 j (by omega)
    rw [e1] at h1
    rw [e2] at h2
    rcases Nat.lt_or_gt_of_ne hij with q | q
    · exact List.pairwise_iff_getElem.1 pw i j (by omega) (by omega) q k h1 h2
    · exact List.pairwise_iff_getElem.1 pw j i (by omega) (by omega) q k h2 h1
  refine (over_any W W2 K v (fun i => (X i).length) (fun i => (X i).map (Value.int .i64)) gL cL cs hK2 (hide ⟨fun i hi k hk => ((own i hi).lt k hk).2, apart, fun q hq => by rw [List.mem_singleton.1 hq]; exact hg⟩) (hide ⟨fun q hq => by rw [List.mem_singleton.1 hq]; exact hcs, Only.ofBelow d, fun i hi => ?_⟩) (hide fun k hk => ?_)).mono ?_
  · have z : aW (fun i => (X i).length) 0 i = 0 := by unfold aW; rw [if_neg (by omega)]
    rw [z, gx_zero]
    exact own_below (owns_down (own i hi) (Nat.zero_le _)) d
  · obtain ⟨e1, e2⟩ := at1 k (by omega)
    obtain ⟨b, c, e3⟩ := own_slice (own k hk)
    refine ⟨b, c, e3, ?_, ?_⟩
    · rw [hcv k hk, List.getElem?_map, List.getElem?_eq_getElem (by omega), ← e3, e1]
      rfl
    · show (X k).length ≤ 4194000
      rw [e2]
      exact hl _ (List.getElem_mem _)
  · rintro e w' ⟨rfl, o⟩
    refine ⟨rfl, ?_⟩
    have o2 : Only W w' (fun b => ∃ x ∈ E1, x.1.ownBlock = some b) := by
      refine ⟨o.os, o.tape, o.output, o.size, fun k hk hn => o.block k hk ?_⟩
      rintro ⟨i, hi, e⟩
      obtain ⟨e1, _⟩ := at1 i (by omega)
      exact hn ⟨A[i], hp.mem_iff.2 (List.getElem_mem _), by rw [← e1]; exact e⟩
    exact h.over o2
end Go.Proofs.Ytocoghljmlpdeaa.ov
namespace Go.Proofs.Ytocoghljmlpdeaa
open Go.RowKit Go.Maps
attribute [local go_sem] Oper.semAt_some
/-! ### Bounds, and what is taken out -/
section
variable {w0 W W' : World} {Bx : List (Nat × Array Value × TypeId)} {E1 E2 E3 : List Ent} {Rw : List (Value × List Value)}
def twE (gF kF gN kN : Nat) (Fi Nx : List Int) : List Ent := [(.slice (some ⟨gF, 0, none⟩) (Fi.length + 70) kF, Fi ++ mrk 70), (.slice (some ⟨gN, 0, none⟩) (Nx.length + 70) kN, Nx ++ mrk 70)]
theorem ExS.twin (h : ExS w0 W Bx E1 E2 E3 Rw) (d : Below W.heap.size W W') {gF kF gN kN : Nat} {Fi Nx : List Int} (t : TwD W.heap.size W' gF kF gN kN Fi Nx) : ExS w0 W' Bx E1 E2 (twE gF kF gN kN Fi Nx ++ E3) Rw := by
  refine h.put3 d (fun x hx => ?_) ?_
  · rcases List.mem_cons.1 hx with e | hx
    · subst e; exact mk_en t.f
    · obtain rfl := List.mem_singleton.1 hx
      exact mk_en t.n
  · refine List.pairwise_cons.2 ⟨fun x hx => ?_, by simp⟩
    obtain rfl := List.mem_singleton.1 hx
    intro k h1 h2
    injection h1 with h1
    injection h2 with h2
    exact t.ne (h1.trans h2.symm)
theorem ExS.tw (h : ExS w0 W Bx E1 E2 E3 Rw) {gF kF gN kN : Nat} {Fi Nx : List Int} (hx : ∀ x ∈ twE gF kF gN kN Fi Nx, x ∈ E1 ++ E2 ++ E3) : Mk w0.heap.size W gF kF Fi ∧ Mk w0.heap.size W gN kN Nx :=
  ⟨en_mk (h.e _ (hx _ (List.mem_cons_self ..))), en_mk (h.e _ (hx _ (List.mem_cons_of_mem _ (List.mem_cons_self ..))))⟩
theorem zip_own {B : Nat} {v : Value} {LL : List (List Int)} (h : OwWa W B v LL) : ∃ vs : List Value, W.ownsRow B 22 1 v vs.length vs ∧ vs.length = LL.length ∧ (∀ x ∈ vs.zip LL, OwI W B x.1 x.2) ∧ (vs.zip LL).Pairwise Dj := by
  obtain ⟨vs, h1, h2, h3, h4⟩ := h
  refine ⟨vs, h1, h2, fun x hx => ?_, ?_⟩
  · obtain ⟨i, hi, e⟩ := List.getElem_of_mem hx
    rw [List.length_zip] at hi
    rw [List.getElem_zip] at e
    subst e
    exact h3 i (by omega) (by omega)
  · refine List.pairwise_iff_getElem.2 fun i j hi hj hij k h5 h6 => ?_
    rw [List.length_zip] at hi hj
    rw [List.getElem_zip] at h5 h6
    exact h4 i j (by omega) (by omega) (by omega) k h5 h6
theorem ws_of (h : ExS w0 W Bx E1 E2 E3 Rw) {v : Value} {vs : List Value} {LL : List (List Int)} (hv : (v, vs) ∈ Rw) (hl : vs.length = LL.length) (hz : ∀ x ∈ vs.zip LL, x ∈ E1 ++ E2 ++ E3) : OwWs W w0.heap.size v LL := by
  refine ⟨vs, h.v _ hv, hl, fun j h1 h2 => ?_⟩
  have hm : (vs[j], LL[j]) ∈ vs.zip LL := by
    refine List.mem_iff_getElem.2 ⟨j, by rw [List.length_zip]; omega, ?_⟩
    rw [List.getElem_zip]
  exact h.e _ (hz _ hm)
theorem zip_one (h : ExS w0 W Bx E1 E2 E3 Rw) {vs : List Value} {LL : List (List Int)} (hl : vs.length = LL.length) (hz : ∀ x ∈ vs.zip LL, x ∈ E1 ++ E2 ++ E3) : ∀ u ∈ vs, u.oneCell' = true := fun u hu => by
  obtain ⟨j, hj, e⟩ := List.getElem_of_mem hu
  have hm : (vs[j], LL[j]'(by omega)) ∈ vs.zip LL := by
    refine List.mem_iff_getElem.2 ⟨j, by rw [List.length_zip]; omega, ?_⟩
    rw [List.getElem_zip]
  obtain ⟨b, c, z⟩ := own_slice (h.e _ (hz _ hm))
  have z : vs[j] = .slice b _ c := z
  rw [← e, z]
  rfl
theorem perm_all {a c F X u : Ent} {ws : List Ent} : ([u] ++ ([F, X] ++ (ws ++ ([c] ++ ([a] ++ []))))).Perm ([a, c, F, X, u] ++ ws) := by
  have h1 : ([u] ++ ([F, X] ++ (ws ++ ([c] ++ ([a] ++ []))))).Perm ([u, F, X] ++ ([c, a] ++ ws)) := List.Perm.append_left [u, F, X] (List.perm_append_comm (l₁ := ws) (l₂ := [c, a]))
  have h2 : ([u, F, X, c, a] : List Ent).Perm [a, c, F, X, u] := by
    have z1 : ([u, F, X] ++ [c, a] : List Ent).Perm ([c, a] ++ [u, F, X]) := List.perm_append_comm
    have z2 : ([c, a] ++ [u, F, X] : List Ent).Perm ([a, c] ++ [u, F, X]) := List.Perm.append_right _ (List.Perm.swap _ _ _)
    have z3 : ([a, c] ++ ([u] ++ [F, X]) : List Ent).Perm ([a, c] ++ ([F, X] ++ [u])) := List.Perm.append_left _ List.perm_append_comm
    exact (z1.trans z2).trans z3
  exact h1.trans (List.Perm.append_right ws h2)
theorem ExS.drop {F3 : List Ent} (h : ExS w0 W Bx E1 E2 E3 Rw) (s : F3.Sublist (E1 ++ E2 ++ E3)) : ExS w0 W Bx [] [] F3 [] :=
  ⟨h.b, fun x hx => h.e x (s.subset hx), h.p.sublist s, (fun x hx => by cases hx), h.d⟩
end
theorem clL_len (N M st : Int) (Fi Nx : List Int) : (clL N M st Fi Nx).length ≤ 8192 := by
  unfold clL
  split
  · rename_i h
    obtain ⟨n, m, s, rfl, rfl, rfl, n1, n2, _⟩ := vd_nat h
    rw [natI_len]
    simp
    omega
  · exact Nat.zero_le _
theorem rc_facts {N M st : Nat} {Fi Nx : List Int} (h : vd N M st Fi Nx = true) : ∃ T K, rcP Nx M st = (T, K) ∧ Wk (dl Nx M) M st T K (T.length * M) ∧ T.Nodup ∧ (∀ q ∈ T, q < N) ∧ T.length ≤ N := by
  obtain ⟨n0, m0, s0, en, em, es, n1, n2, m1, s1, e1, i1, i2⟩ := vd_nat h
  obtain rfl : N = n0 := by omega
  obtain rfl : M = m0 := by omega
  obtain rfl : st = s0 := by omega
  obtain ⟨T, K, a, b, c, d⟩ := walk_ex (φ := dl Nx M) (fun s a hs ha => (dl_spec e1 i1 hs ha).2.2) s1
  exact ⟨T, K, rcP_of a b c, a, c, d, nodup_le c d⟩
theorem acL_len (N M st : Int) (Fi Nx : List Int) : (acL N M st Fi Nx).length ≤ 4096 ∧ ∀ L ∈ acL N M st Fi Nx, L.length ≤ 8192 := by
  by_cases h : vd N M st Fi Nx = true ∧ ¬ (rcP Nx M.toNat st.toNat).1.length < N.toNat
  · obtain ⟨n, m, s, rfl, rfl, rfl, n1, n2, _⟩ := vd_nat h.1
    obtain ⟨T, K, e, a, c, d, l⟩ := rc_facts h.1
    have e' : rcP Nx (m : Int).toNat (s : Int).toNat = (T, K) := e
    have hl : T.length = n := by
      have z := h.2
      rw [e'] at z
      have z2 : ¬ T.length < n := z
      omega
    have eq : acL n m s Fi Nx = (List.range n).map fun x => wdK m K (T.idxOf x) := by
      unfold acL
      rw [if_pos h, e']
      rfl
    rw [eq]
    refine ⟨by simp; omega, fun L hL => ?_⟩
    obtain ⟨x, hx, rfl⟩ := List.mem_map.1 hL
    have hm := full_mem hl c d (List.mem_range.1 hx)
    have hi := List.idxOf_lt_length_iff.2 hm
    have hk := a.l
    have z := wnK_len a.q (T.idxOf x) (by omega)
    rw [← wnK_map, List.length_map]
    omega
  · have eq : acL N M st Fi Nx = [] := by unfold acL; exact if_neg h
    rw [eq]
    exact ⟨Nat.zero_le _, fun L hL => by cases hL⟩
theorem mn_len (N M st : Int) (Fi Nx : List Int) : (mnFl N M st Fi Nx).length ≤ 1048576 ∧ (mnXl N M st Fi Nx).length ≤ 1048576 := by
  cases hv : vd N M st Fi Nx with
  | false =>
    rw [(mn_bad hv).2.2.1, (mn_bad hv).2.2.2]
    exact ⟨Nat.zero_le _, Nat.zero_le _⟩
  | true =>
    obtain ⟨n, m, s, rfl, rfl, rfl, n1, n2, m1, _⟩ := vd_nat hv
    rw [(mn_ok hv).2.2.1, (mn_ok hv).2.2.2]
    obtain ⟨T, K, e, a, c, d, l⟩ := rc_facts hv
    have ht : (mnT Fi Nx m s).length ≤ n := by
      unfold mnT
      rw [e]
      have z := fs_le (T.map (alC Fi Nx m))
      rw [List.length_map] at z
      show (fsA (T.map (alC Fi Nx m))).length ≤ n
      omega
    refine ⟨?_, ?_⟩
    · unfold mnF
      rw [natI_len]
      have := lsF_le (inF Fi) (mnT Fi Nx m s) (mnT Fi Nx m s).length
      omega
    · rw [mnX_len]
      have := Nat.mul_le_mul (show (mnT Fi Nx m s).length ≤ 4096 by omega) (show m ≤ 128 by omega)
      omega
/-! ### What is moved, what is stored -/
section
variable {w0 W W' : World} {Bx Bx' : List (Nat × Array Value × TypeId)} {E1 E2 E3 : List Ent} {Rw : List (Value × List Value)}
theorem ExS.up (h : ExS w0 W Bx [] E2 E3 Rw) : ExS w0 W Bx E2 [] E3 Rw := by
  have z : ([] ++ E2 ++ E3 : List Ent).Perm (E2 ++ [] ++ E3) := by simp
  exact h.swap z
/-- Only some are looked at from here on. -/
theorem ExS.keep {F3 : List Ent} (h : ExS w0 W Bx E1 E2 E3 Rw) (hb : ∀ q ∈ Bx', q ∈ Bx) (s : F3.Sublist (E1 ++ E2 ++ E3)) : ExS w0 W Bx' [] [] F3 [] :=
  ⟨fun q hq => h.b q (hb q hq), fun x hx => h.e x (s.subset hx), h.p.sublist s, (fun x hx => by cases hx), h.d⟩
theorem perm_ab (A B : List Ent) : ([] ++ [] ++ (A ++ (B ++ []))).Perm (B ++ [] ++ A) := by
  simp only [List.append_nil, List.nil_append]
  exact List.perm_append_comm
theorem perm_abc (P D A : List Ent) : ([] ++ [] ++ (P ++ (D ++ A))).Perm (A ++ [] ++ (P ++ D)) := by
  simp only [List.append_nil, List.nil_append]
  rw [← List.append_assoc]
  exact List.perm_append_comm
theorem dj_map (l : List Ent) : l.Pairwise Dj ↔ (l.map Prod.fst).Pairwise (fun u v : Value => ∀ k, u.ownBlock = some k → v.ownBlock ≠ some k) := by
  rw [List.pairwise_map]
  exact Iff.rfl
theorem tw_fst {gF kF gN kN : Nat} {Fi Nx F9 N9 : List Int} (e1 : F9.length = Fi.length) (e2 : N9.length = Nx.length) : (twE gF kF gN kN F9 N9).map Prod.fst = (twE gF kF gN kN Fi Nx).map Prod.fst := by
  unfold twE
  rw [e1, e2]
  rfl
/-- What is moved: the old rows changed in place, new ones made. -/
theorem ExS.moved {gF kF gN kN pF jF pN jN : Nat} {Fi Nx F9 N9 : List Int} (h : ExS w0 W Bx (twE gF kF gN kN Fi Nx) E2 E3 Rw) (e1 : F9.length = Fi.length) (e2 : N9.length = Nx.length) (t : TwD w0.heap.size W' gF kF gN kN F9 N9) (o : Only W W' (fun k => k = gF ∨ k = gN)) (q : TwD W.heap.size W' pF jF pN jN F9 N9) : ExS w0 W' Bx [] E2 (twE pF jF pN jN F9 N9 ++ (twE gF kF gN kN F9 N9 ++ E3)) Rw := by
  have o2 : Only W W' (fun b => ∃ x ∈ twE gF kF gN kN Fi Nx, x.1.ownBlock = some b) := o.mono (fun k _ hk => by
    rcases hk with rfl | rfl
    · exact ⟨_, List.mem_cons_self .., rfl⟩
    · exact ⟨_, List.mem_cons_of_mem _ (List.mem_cons_self ..), rfl⟩)
  have z := h.over o2
  have hd : ∀ x ∈ twE gF kF gN kN F9 N9, OwI W' w0.heap.size x.1 x.2 := fun x hx => by
    rcases List.mem_cons.1 hx with e | hx
    · subst e; exact mk_en t.f
    · obtain rfl := List.mem_singleton.1 hx
      exact mk_en t.n
  have hq : ∀ x ∈ twE pF jF pN jN F9 N9, OwI W' W.heap.size x.1 x.2 := fun x hx => by
    rcases List.mem_cons.1 hx with e | hx
    · subst e; exact mk_en q.f
    · obtain rfl := List.mem_singleton.1 hx
      exact mk_en q.n
  have pq : (twE pF jF pN jN F9 N9).Pairwise Dj := by
    refine List.pairwise_cons.2 ⟨fun x hx => ?_, by simp⟩
    obtain rfl := List.mem_singleton.1 hx
    intro k h1 h2
    injection h1 with h1
    injection h2 with h2
    exact q.ne (h1.trans h2.symm)
  have pd : (twE gF kF gN kN F9 N9 ++ (E2 ++ E3)).Pairwise Dj := by
    have y := h.p
    rw [List.append_assoc, dj_map, List.map_append] at y
    rw [dj_map, List.map_append, tw_fst e1 e2]
    exact y
  have lt : ∀ x ∈ twE gF kF gN kN F9 N9 ++ (E2 ++ E3), ∀ k, x.1.ownBlock = some k → k < W.heap.size := fun x hx k hk => by
    have hm : x.1 ∈ (twE gF kF gN kN Fi Nx ++ E2 ++ E3).map Prod.fst := by
      have y : x.1 ∈ (twE gF kF gN kN F9 N9 ++ (E2 ++ E3)).map Prod.fst := List.mem_map.2 ⟨x, hx, rfl⟩
      rw [List.map_append, tw_fst e1 e2, ← List.map_append, ← List.append_assoc] at y
      exact y
    obtain ⟨y, hy, e⟩ := List.mem_map.1 hm
    exact ((h.e y hy).lt k (by rw [e]; exact hk)).2
  have pa : (twE pF jF pN jN F9 N9 ++ (twE gF kF gN kN F9 N9 ++ (E2 ++ E3))).Pairwise Dj := by
    refine List.pairwise_append.2 ⟨pq, pd, fun x hx y hy k h1 h2 => ?_⟩
    have z1 := ((hq x hx).lt k h1).1
    have z2 := lt y hy k h2
    omega
  have pe : (twE pF jF pN jN F9 N9 ++ (twE gF kF gN kN F9 N9 ++ (E2 ++ E3))).Perm ([] ++ E2 ++ (twE pF jF pN jN F9 N9 ++ (twE gF kF gN kN F9 N9 ++ E3))) := by
    rw [List.nil_append, ← List.append_assoc, ← List.append_assoc, ← List.append_assoc (twE pF jF pN jN F9 N9), ← List.append_assoc]
    exact List.Perm.append_right E3 List.perm_append_comm
  refine ⟨z.b, fun x hx => ?_, (pe.pairwise_iff Dj.symm).1 pa, z.v, z.d⟩
  have hx := pe.mem_iff.2 hx
  rcases List.mem_append.1 hx with hx | hx
  · exact owns_down (hq x hx) h.d.size
  · rcases List.mem_append.1 hx with hx | hx
    · exact hd x hx
    · exact z.e x (by rw [List.nil_append]; exact hx)
/-- A box is written over. -/
theorem ExS.store {C C' : Array Value} {b : Nat} {t : TypeId} (h : ExS w0 W Bx E1 E2 E3 []) (hb : W.heap[b]? = some (.cells C t (0, 0))) (ht : t ≠ 3) (hw : w0.heap.size ≤ b) (o : Only W W' (fun k => k = b)) (hb' : W'.heap[b]? = some (.cells C' t (0, 0))) (hB : ∀ q ∈ Bx', q = (b, C', t) ∨ (q ∈ Bx ∧ q.1 ≠ b)) : ExS w0 W' Bx' E1 E2 E3 [] := by
  refine ⟨fun q hq => ?_, fun x hx => own_keep (h.e x hx) hb (fun e => ht e.symm) o, h.p, (fun x hx => by cases hx), h.d.trans (o.toBelow h.d.size (fun k hk => by omega))⟩
  rcases hB q hq with e | ⟨h1, h2⟩
  · subst e
    exact ⟨hb', ht⟩
  · exact ⟨(o.block _ (Array.getElem?_eq_some_iff.1 (h.b q h1).1).1 h2).trans (h.b q h1).1, (h.b q h1).2⟩
end
/-! ### Equal, and the reference -/
/-- Equal's error, its answer and its word. -/
def eqE (N1 M1 st1 : Int) (F1 X1 : List Int) (N2 M2 st2 : Int) (F2 X2 : List Int) : Int := if vd N1 M1 st1 F1 X1 = true ∧ vd N2 M2 st2 F2 X2 = true then if M1 = M2 then 0 else 6 else 3
def EqC (N1 M1 st1 : Int) (F1 X1 : List Int) (N2 M2 st2 : Int) (F2 X2 : List Int) : Prop := vd N1 M1 st1 F1 X1 = true ∧ vd N2 M2 st2 F2 X2 = true ∧ M1 = M2
open Classical in
noncomputable def eqB (N1 M1 st1 : Int) (F1 X1 : List Int) (N2 M2 st2 : Int) (F2 X2 : List Int) : Bool := if EqC N1 M1 st1 F1 X1 N2 M2 st2 F2 X2 ∧ Eqv F1 X1 F2 X2 M1.toNat st1.toNat st2.toNat then true else false
open Classical in
noncomputable def eqL (N1 M1 st1 : Int) (F1 X1 : List Int) (N2 M2 st2 : Int) (F2 X2 : List Int) : List Int := if EqC N1 M1 st1 F1 X1 N2 M2 st2 F2 X2 then tlX F1 X1 F2 X2 M1.toNat st1.toNat st2.toNat else []
/-- The answer of Equal. -/
def EqU (w : World) (B : Bool) (L : List Int) (er : Int) : Ending → World → Prop := fun e w' => ∃ b n c, e = .returned (.tuple #[.bool B, .slice b n c, .int .i64 er]) ∧ Hid (OwI w' w.heap.size (.slice b n c) L ∧ Below w.heap.size w w')
section
variable {N1 M1 st1 : Int} {F1 X1 : List Int} {N2 M2 st2 : Int} {F2 X2 : List Int}
theorem eq_no (h : ¬ EqC N1 M1 st1 F1 X1 N2 M2 st2 F2 X2) : eqB N1 M1 st1 F1 X1 N2 M2 st2 F2 X2 = false ∧ eqL N1 M1 st1 F1 X1 N2 M2 st2 F2 X2 = [] := ⟨if_neg (fun k => h k.1), if_neg h⟩
theorem eqE_bad (h : ¬ (vd N1 M1 st1 F1 X1 = true ∧ vd N2 M2 st2 F2 X2 = true)) : eqE N1 M1 st1 F1 X1 N2 M2 st2 F2 X2 = 3 := if_neg h
theorem eqE_sym (h : vd N1 M1 st1 F1 X1 = true) (k : vd N2 M2 st2 F2 X2 = true) (hM : ¬ M1 = M2) : eqE N1 M1 st1 F1 X1 N2 M2 st2 F2 X2 = 6 := (if_pos ⟨h, k⟩).trans (if_neg hM)
theorem eqE_ok (h : vd N1 M1 st1 F1 X1 = true) (k : vd N2 M2 st2 F2 X2 = true) (hM : M1 = M2) : eqE N1 M1 st1 F1 X1 N2 M2 st2 F2 X2 = 0 := (if_pos ⟨h, k⟩).trans (if_pos hM)
end
theorem eq_same {N1 M s1 N2 s2 : Nat} {F1 X1 F2 X2 : List Int} (h : vd N1 M s1 F1 X1 = true) (k : vd N2 M s2 F2 X2 = true) (he : Eqv F1 X1 F2 X2 M s1 s2) : eqB N1 M s1 F1 X1 N2 M s2 F2 X2 = true ∧ eqL N1 M s1 F1 X1 N2 M s2 F2 X2 = [] :=
  ⟨if_pos ⟨⟨h, k, rfl⟩, he⟩, (if_pos (⟨h, k, rfl⟩ : EqC N1 M s1 F1 X1 N2 M s2 F2 X2)).trans (tlX_none he)⟩
theorem eq_told {N1 M s1 N2 s2 : Nat} {F1 X1 F2 X2 : List Int} {u : List Nat} (h : vd N1 M s1 F1 X1 = true) (k : vd N2 M s2 F2 X2 = true) (ht : TlU F1 X1 F2 X2 M s1 s2 u) : eqB N1 M s1 F1 X1 N2 M s2 F2 X2 = false ∧ eqL N1 M s1 F1 X1 N2 M s2 F2 X2 = natI u :=
  ⟨if_neg (fun z => tlU_no ht z.2), (if_pos (⟨h, k, rfl⟩ : EqC N1 M s1 F1 X1 N2 M s2 F2 X2)).trans (tlX_of ht)⟩
def EqV (w : World) (B : Bool) (L : List Int) (er : Int) : Ending → World → Prop := fun e w' => ∃ b n c, e = .returned (.tuple #[.bool B, .slice b n c, .int .i64 er]) ∧ Hid (OwI w' w.heap.size (.slice b n c) L ∧ Below w.heap.size w w' ∧ L.length ≤ 8192)
theorem eqV_nil {w w' : World} {L : List Int} {er : Int} {b : Bool} (h : L = []) (d : Below w.heap.size w w') : EqV w b L er (.returned (.tuple #[.bool b, .slice none 0 0, .int .i64 er])) w' := ⟨none, 0, 0, rfl, hide ⟨by rw [h]; exact owI_nil _ _, d, by rw [h]; exact Nat.zero_le _⟩⟩
theorem eqU_nil {w w' : World} {L : List Int} {er : Int} {b : Bool} (h : L = []) (d : Below w.heap.size w w') : EqU w b L er (.returned (.tuple #[.bool b, .slice none 0 0, .int .i64 er])) w' := ⟨none, 0, 0, rfl, hide ⟨by rw [h]; exact owI_nil _ _, d⟩⟩
/-- Equal, whatever it is asked. -/
theorem equal_uni (w : World) (N1 M1 st1 N2 M2 st2 : Int) (aF1 aN1 aF2 aN2 : Option Addr) (lF1 cF1 lN1 cN1 lF2 cF2 lN2 cN2 : Nat) (F1 X1 F2 X2 : List Int) (hF1 : RdN w aF1 F1) (hX1 : RdN w aN1 X1) (hF2 : RdN w aF2 F2) (hX2 : RdN w aN2 X2) (e1 : F1.length = lF1) (e2 : X1.length = lN1) (e3 : F2.length = lF2) (e4 : X2.length = lN2) (b1 : lF1 ≤ 4194304) (b2 : lN1 ≤ 2097152) (b3 : lF2 ≤ 4194304) (b4 : lN2 ≤ 2097152) :
    Calls Try.prog 18 #[.agg #[.int .i64 N1, .int .i64 M1, .int .i64 st1, .slice aF1 lF1 cF1, .slice aN1 lN1 cN1], .agg #[.int .i64 N2, .int .i64 M2, .int .i64 st2, .slice aF2 lF2 cF2, .slice aN2 lN2 cN2]] w (EqV w (eqB N1 M1 st1 F1 X1 N2 M2 st2 F2 X2) (eqL N1 M1 st1 F1 X1 N2 M2 st2 F2 X2) (eqE N1 M1 st1 F1 X1 N2 M2 st2 F2 X2)) := by
  cases hv1 : vd N1 M1 st1 F1 X1 with
  | false =>
    have hc : ¬ EqC N1 M1 st1 F1 X1 N2 M2 st2 F2 X2 := fun k => by rw [k.1] at hv1; cases hv1
    rw [(eq_no hc).1, eqE_bad (fun k => by rw [k.1] at hv1; cases hv1)]
    refine (equal_bad1 w N1 M1 st1 N2 M2 st2 aF1 aN1 aF2 aN2 lF1 cF1 lN1 cN1 lF2 cF2 lN2 cN2 F1 X1 F2 X2 hF1 hX1 hF2 hX2 e1 e2 e3 e4 b1 b2 b3 b4 hv1).mono ?_
    rintro e w' ⟨rfl, d⟩
    exact eqV_nil (eq_no hc).2 d
  | true =>
    cases hv2 : vd N2 M2 st2 F2 X2 with
    | false =>
      have hc : ¬ EqC N1 M1 st1 F1 X1 N2 M2 st2 F2 X2 := fun k => by rw [k.2.1] at hv2; cases hv2
      rw [(eq_no hc).1, eqE_bad (fun k => by rw [k.2] at hv2; cases hv2)]
      refine (equal_bad2 w N1 M1 st1 N2 M2 st2 aF1 aN1 aF2 aN2 lF1 cF1 lN1 cN1 lF2 cF2 lN2 cN2 F1 X1 F2 X2 hF1 hX1 hF2 hX2 e1 e2 e3 e4 b1 b2 b3 b4 hv1 hv2).mono ?_
      rintro e w' ⟨rfl, d⟩
      exact eqV_nil (eq_no hc).2 d
    | true =>
      by_cases hM : M1 = M2
      · subst hM
        rw [eqE_ok hv1 hv2 rfl]
        obtain ⟨n, m, s, rfl, rfl, rfl, nn1, nn2, _⟩ := vd_nat hv1
        obtain ⟨n2, m2, s2, rfl, em, rfl, nn3, nn4, _⟩ := vd_nat hv2
        refine (equal_ok w n m s n2 s2 aF1 aN1 aF2 aN2 lF1 cF1 lN1 cN1 lF2 cF2 lN2 cN2 F1 X1 F2 X2 hF1 hX1 hF2 hX2 e1 e2 e3 e4 b1 b2 b3 b4 hv1 hv2).mono ?_
        rintro e w' ⟨b, k, c, same, rfl, H⟩
        obtain ⟨d, h1, h2⟩ := H.out
        cases same with
        | true =>
          obtain ⟨rfl, rfl, rfl, he⟩ := h1 rfl
          have z := eq_same hv1 hv2 he
          rw [z.1]
          exact eqV_nil z.2 d
        | false =>
          obtain ⟨u, o, t⟩ := h2 rfl
          have z := eq_told hv1 hv2 (tlE_tlU t)
          rw [z.1]
          exact ⟨b, k, c, rfl, hide ⟨by rw [z.2]; exact o, d, by rw [z.2, natI_len]; have := t.2.2.1; omega⟩⟩
      · have hc : ¬ EqC N1 M1 st1 F1 X1 N2 M2 st2 F2 X2 := fun k => hM k.2.2
        rw [(eq_no hc).1, eqE_sym hv1 hv2 hM]
        refine (equal_sym w N1 M1 st1 N2 M2 st2 aF1 aN1 aF2 aN2 lF1 cF1 lN1 cN1 lF2 cF2 lN2 cN2 F1 X1 F2 X2 hF1 hX1 hF2 hX2 e1 e2 e3 e4 b1 b2 b3 b4 hv1 hv2 hM).mono ?_
        rintro e w' ⟨rfl, d⟩
        exact eqV_nil (eq_no hc).2 d
set_option maxRecDepth 100000 in
set_option maxHeartbeats 4000000 in
theorem requal_bad1 (w : World) (N1 M1 st1 N2 M2 st2 : Int) (aF1 aN1 aF2 aN2 : Option Addr) (lF1 cF1 lN1 cN1 lF2 cF2 lN2 cN2 : Nat) (F1 X1 F2 X2 : List Int) (hF1 : RdN w aF1 F1) (hX1 : RdN w aN1 X1) (hF2 : RdN w aF2 F2) (hX2 : RdN w aN2 X2) (e1 : F1.length = lF1) (e2 : X1.length = lN1) (e3 : F2.length = lF2) (e4 : X2.length = lN2) (b1 : lF1 ≤ 4194304) (b2 : lN1 ≤ 2097152) (b3 : lF2 ≤ 4194304) (b4 : lN2 ≤ 2097152) (hv : vd N1 M1 st1 F1 X1 = false) :
    Calls Try.prog 26 #[.agg #[.int .i64 N1, .int .i64 M1, .int .i64 st1, .slice aF1 lF1 cF1, .slice aN1 lN1 cN1], .agg #[.int .i64 N2, .int .i64 M2, .int .i64 st2, .slice aF2 lF2 cF2, .slice aN2 lN2 cN2]] w fun e w' => e = .returned (.tuple #[.bool false, .slice none 0 0, .int .i64 3]) ∧ Below w.heap.size w w' := by
  obtain ⟨W0, hW0⟩ : ∃ W0, (w.alloc (.cells #[.int .i64 N1, .int .i64 M1, .int .i64 st1, .slice aF1 lF1 cF1, .slice aN1 lN1 cN1] 24)).alloc (.cells #[.int .i64 N2, .int .i64 M2, .int .i64 st2, .slice aF2 lF2 cF2, .slice aN2 lN2 cN2] 24) = W0 := ⟨_, rfl⟩
  have H2 := hide (two_al w #[.int .i64 N1, .int .i64 M1, .int .i64 st1, .slice aF1 lF1 cF1, .slice aN1 lN1 cN1] #[.int .i64 N2, .int .i64 M2, .int .i64 st2, .slice aF2 lF2 cF2, .slice aN2 lN2 cN2] 24 24)
  rw [hW0] at H2
  have x0 : W0.cell? ⟨w.heap.size, 0, none⟩ = some (.int .i64 N1) := cell_of H2.out.2.1 rfl
  have x1 : W0.cell? ⟨w.heap.size, 1, none⟩ = some (.int .i64 M1) := cell_of H2.out.2.1 rfl
  have x2 : W0.cell? ⟨w.heap.size, 2, none⟩ = some (.int .i64 st1) := cell_of H2.out.2.1 rfl
  have x3 : W0.cell? ⟨w.heap.size, 3, none⟩ = some (.slice aF1 lF1 cF1) := cell_of H2.out.2.1 rfl
  have x4 : W0.cell? ⟨w.heap.size, 4, none⟩ = some (.slice aN1 lN1 cN1) := cell_of H2.out.2.1 rfl
  have y0 : W0.cell? ⟨w.heap.size + 1, 0, none⟩ = some (.int .i64 N2) := cell_of H2.out.2.2.1 rfl
  have y1 : W0.cell? ⟨w.heap.size + 1, 1, none⟩ = some (.int .i64 M2) := cell_of H2.out.2.2.1 rfl
  have y2 : W0.cell? ⟨w.heap.size + 1, 2, none⟩ = some (.int .i64 st2) := cell_of H2.out.2.2.1 rfl
  have y3 : W0.cell? ⟨w.heap.size + 1, 3, none⟩ = some (.slice aF2 lF2 cF2) := cell_of H2.out.2.2.1 rfl
  have y4 : W0.cell? ⟨w.heap.size + 1, 4, none⟩ = some (.slice aN2 lN2 cN2) := cell_of H2.out.2.2.1 rfl
  have T1 := maybe_any W0 N1 M1 st1 aF1 aN1 lF1 cF1 lN1 cN1 F1 X1 (hF1.on H2.out.1) (hX1.on H2.out.1) e1 e2 b1 (by omega)
  have T2 : Hid (∀ W, Below W0.heap.size W0 W → Calls Try.prog 46 #[.agg #[.int .i64 N2, .int .i64 M2, .int .i64 st2, .slice aF2 lF2 cF2, .slice aN2 lN2 cN2]] W fun e w' => e = .returned (.bool (vd N2 M2 st2 F2 X2)) ∧ Below W.heap.size W w') := hide (fun W d => maybe_any W N2 M2 st2 aF2 aN2 lF2 cF2 lN2 cN2 F2 X2 ((hF2.on H2.out.1).on d) ((hX2.on H2.out.1).on d) e3 e4 b3 (by omega))
  rw [hv] at T1
  clear T2 hF1 hX1 hF2 hX2 e1 e2 e3 e4 b1 b2 b3 b4 hv
  go_enter Try.func26, Try.ntmps26
  go_wp2_with (go_at_call 46; refine T1.mono ?_; rintro e w2 ⟨rfl, d2⟩; have HD2 := hide (H2.out.1.trans (d2.mono H2.out.1.size)); clear d2 x0 y0 x1 y1 x2 y2 x3 y3 x4 y4)
  go_ret3
  exact ⟨rfl, HD2.out⟩
set_option maxRecDepth 100000 in
set_option maxHeartbeats 4000000 in
theorem requal_bad2 (w : World) (N1 M1 st1 N2 M2 st2 : Int) (aF1 aN1 aF2 aN2 : Option Addr) (lF1 cF1 lN1 cN1 lF2 cF2 lN2 cN2 : Nat) (F1 X1 F2 X2 : List Int) (hF1 : RdN w aF1 F1) (hX1 : RdN w aN1 X1) (hF2 : RdN w aF2 F2) (hX2 : RdN w aN2 X2) (e1 : F1.length = lF1) (e2 : X1.length = lN1) (e3 : F2.length = lF2) (e4 : X2.length = lN2) (b1 : lF1 ≤ 4194304) (b2 : lN1 ≤ 2097152) (b3 : lF2 ≤ 4194304) (b4 : lN2 ≤ 2097152) (hv : vd N1 M1 st1 F1 X1 = true) (hv2 : vd N2 M2 st2 F2 X2 = false) :
    Calls Try.prog 26 #[.agg #[.int .i64 N1, .int .i64 M1, .int .i64 st1, .slice aF1 lF1 cF1, .slice aN1 lN1 cN1], .agg #[.int .i64 N2, .int .i64 M2, .int .i64 st2, .slice aF2 lF2 cF2, .slice aN2 lN2 cN2]] w fun e w' => e = .returned (.tuple #[.bool false, .slice none 0 0, .int .i64 3]) ∧ Below w.heap.size w w' := by
  obtain ⟨W0, hW0⟩ : ∃ W0, (w.alloc (.cells #[.int .i64 N1, .int .i64 M1, .int .i64 st1, .slice aF1 lF1 cF1, .slice aN1 lN1 cN1] 24)).alloc (.cells #[.int .i64 N2, .int .i64 M2, .int .i64 st2, .slice aF2 lF2 cF2, .slice aN2 lN2 cN2] 24) = W0 := ⟨_, rfl⟩
  have H2 := hide (two_al w #[.int .i64 N1, .int .i64 M1, .int .i64 st1, .slice aF1 lF1 cF1, .slice aN1 lN1 cN1] #[.int .i64 N2, .int .i64 M2, .int .i64 st2, .slice aF2 lF2 cF2, .slice aN2 lN2 cN2] 24 24)
  rw [hW0] at H2
  have x0 : W0.cell? ⟨w.heap.size, 0, none⟩ = some (.int .i64 N1) := cell_of H2.out.2.1 rfl
  have x1 : W0.cell? ⟨w.heap.size, 1, none⟩ = some (.int .i64 M1) := cell_of H2.out.2.1 rfl
  have x2 : W0.cell? ⟨w.heap.size, 2, none⟩ = some (.int .i64 st1) := cell_of H2.out.2.1 rfl
  have x3 : W0.cell? ⟨w.heap.size, 3, none⟩ = some (.slice aF1 lF1 cF1) := cell_of H2.out.2.1 rfl
  have x4 : W0.cell? ⟨w.heap.size, 4, none⟩ = some (.slice aN1 lN1 cN1) := cell_of H2.out.2.1 rfl
  have y0 : W0.cell? ⟨w.heap.size + 1, 0, none⟩ = some (.int .i64 N2) := cell_of H2.out.2.2.1 rfl
  have y1 : W0.cell? ⟨w.heap.size + 1, 1, none⟩ = some (.int .i64 M2) := cell_of H2.out.2.2.1 rfl
  have y2 : W0.cell? ⟨w.heap.size + 1, 2, none⟩ = some (.int .i64 st2) := cell_of H2.out.2.2.1 rfl
  have y3 : W0.cell? ⟨w.heap.size + 1, 3, none⟩ = some (.slice aF2 lF2 cF2) := cell_of H2.out.2.2.1 rfl
  have y4 : W0.cell? ⟨w.heap.size + 1, 4, none⟩ = some (.slice aN2 lN2 cN2) := cell_of H2.out.2.2.1 rfl
  have T1 := maybe_any W0 N1 M1 st1 aF1 aN1 lF1 cF1 lN1 cN1 F1 X1 (hF1.on H2.out.1) (hX1.on H2.out.1) e1 e2 b1 (by omega)
  have T2 : Hid (∀ W, Below W0.heap.size W0 W → Calls Try.prog 46 #[.agg #[.int .i64 N2, .int .i64 M2, .int .i64 st2, .slice aF2 lF2 cF2, .slice aN2 lN2 cN2]] W fun e w' => e = .returned (.bool (vd N2 M2 st2 F2 X2)) ∧ Below W.heap.size W w') := hide (fun W d => maybe_any W N2 M2 st2 aF2 aN2 lF2 cF2 lN2 cN2 F2 X2 ((hF2.on H2.out.1).on d) ((hX2.on H2.out.1).on d) e3 e4 b3 (by omega))
  rw [hv] at T1
  rw [hv2] at T2
  clear hF1 hX1 hF2 hX2 e1 e2 e3 e4 b1 b2 b3 b4 hv hv2
  go_enter Try.func26, Try.ntmps26
  go_wp2_with fail
  go_at_call 46
  refine T1.mono ?_
  rintro e w2 ⟨rfl, d2⟩
  have HD2 := hide d2
  have Z1 := blk_on H2.out.2.1 d2
  have Z2 := blk_on H2.out.2.2.1 d2
  clear d2 x0 y0 x1 y1 x2 y2 x3 y3 x4 y4
  have x0 : w2.cell? ⟨w.heap.size, 0, none⟩ = some (.int .i64 N1) := cell_of Z1 rfl
  have x1 : w2.cell? ⟨w.heap.size, 1, none⟩ = some (.int .i64 M1) := cell_of Z1 rfl
  have x2 : w2.cell? ⟨w.heap.size, 2, none⟩ = some (.int .i64 st1) := cell_of Z1 rfl
  have x3 : w2.cell? ⟨w.heap.size, 3, none⟩ = some (.slice aF1 lF1 cF1) := cell_of Z1 rfl
  have x4 : w2.cell? ⟨w.heap.size, 4, none⟩ = some (.slice aN1 lN1 cN1) := cell_of Z1 rfl
  have y0 : w2.cell? ⟨w.heap.size + 1, 0, none⟩ = some (.int .i64 N2) := cell_of Z2 rfl
  have y1 : w2.cell? ⟨w.heap.size + 1, 1, none⟩ = some (.int .i64 M2) := cell_of Z2 rfl
  have y2 : w2.cell? ⟨w.heap.size + 1, 2, none⟩ = some (.int .i64 st2) := cell_of Z2 rfl
  have y3 : w2.cell? ⟨w.heap.size + 1, 3, none⟩ = some (.slice aF2 lF2 cF2) := cell_of Z2 rfl
  have y4 : w2.cell? ⟨w.heap.size + 1, 4, none⟩ = some (.slice aN2 lN2 cN2) := cell_of Z2 rfl
  clear Z1 Z2
  go_wp2_with fail
  go_at_call 46
  refine (T2.out w2 HD2.out).mono ?_
  rintro e w3 ⟨rfl, d3⟩
  have HD3 := hide (HD2.out.trans (d3.mono HD2.out.size))
  have Z1 := blk_on H2.out.2.1 HD3.out
  have Z2 := blk_on H2.out.2.2.1 HD3.out
  clear d3 x0 y0 x1 y1 x2 y2 x3 y3 x4 y4
  have x0 : w3.cell? ⟨w.heap.size, 0, none⟩ = some (.int .i64 N1) := cell_of Z1 rfl
  have x1 : w3.cell? ⟨w.heap.size, 1, none⟩ = some (.int .i64 M1) := cell_of Z1 rfl
  have x2 : w3.cell? ⟨w.heap.size, 2, none⟩ = some (.int .i64 st1) := cell_of Z1 rfl
  have x3 : w3.cell? ⟨w.heap.size, 3, none⟩ = some (.slice aF1 lF1 cF1) := cell_of Z1 rfl
  have x4 : w3.cell? ⟨w.heap.size, 4, none⟩ = some (.slice aN1 lN1 cN1) := cell_of Z1 rfl
  have y0 : w3.cell? ⟨w.heap.size + 1, 0, none⟩ = some (.int .i64 N2) := cell_of Z2 rfl
  have y1 : w3.cell? ⟨w.heap.size + 1, 1, none⟩ = some (.int .i64 M2) := cell_of Z2 rfl
  have y2 : w3.cell? ⟨w.heap.size + 1, 2, none⟩ = some (.int .i64 st2) := cell_of Z2 rfl
  have y3 : w3.cell? ⟨w.heap.size + 1, 3, none⟩ = some (.slice aF2 lF2 cF2) := cell_of Z2 rfl
  have y4 : w3.cell? ⟨w.heap.size + 1, 4, none⟩ = some (.slice aN2 lN2 cN2) := cell_of Z2 rfl
  clear Z1 Z2
  go_wp2_with fail
  go_ret3
  exact ⟨rfl, H2.out.1.trans (HD3.out.mono H2.out.1.size)⟩
set_option maxRecDepth 100000 in
set_option maxHeartbeats 4000000 in
theorem requal_sym (w : World) (N1 M1 st1 N2 M2 st2 : Int) (aF1 aN1 aF2 aN2 : Option Addr) (lF1 cF1 lN1 cN1 lF2 cF2 lN2 cN2 : Nat) (F1 X1 F2 X2 : List Int) (hF1 : RdN w aF1 F1) (hX1 : RdN w aN1 X1) (hF2 : RdN w aF2 F2) (hX2 : RdN w aN2 X2) (e1 : F1.length = lF1) (e2 : X1.length = lN1) (e3 : F2.length = lF2) (e4 : X2.length = lN2) (b1 : lF1 ≤ 4194304) (b2 : lN1 ≤ 2097152) (b3 : lF2 ≤ 4194304) (b4 : lN2 ≤ 2097152) (hv : vd N1 M1 st1 F1 X1 = true) (hv2 : vd N2 M2 st2 F2 X2 = true) (hM : ¬ M1 = M2) :
    Calls Try.prog 26 #[.agg #[.int .i64 N1, .int .i64 M1, .int .i64 st1, .slice aF1 lF1 cF1, .slice aN1 lN1 cN1], .agg #[.int .i64 N2, .int .i64 M2, .int .i64 st2, .slice aF2 lF2 cF2, .slice aN2 lN2 cN2]] w fun e w' => e = .returned (.tuple #[.bool false, .slice none 0 0, .int .i64 6]) ∧ Below w.heap.size w w' := by
  obtain ⟨W0, hW0⟩ : ∃ W0, (w.alloc (.cells #[.int .i64 N1, .int .i64 M1, .int .i64 st1, .slice aF1 lF1 cF1, .slice aN1 lN1 cN1] 24)).alloc (.cells #[.int .i64 N2, .int .i64 M2, .int .i64 st2, .slice aF2 lF2 cF2, .slice aN2 lN2 cN2] 24) = W0 := ⟨_, rfl⟩
  have H2 := hide (two_al w #[.int .i64 N1, .int .i64 M1, .int .i64 st1, .slice aF1 lF1 cF1, .slice aN1 lN1 cN1] #[.int .i64 N2, .int .i64 M2, .int .i64 st2, .slice aF2 lF2 cF2, .slice aN2 lN2 cN2] 24 24)
  rw [hW0] at H2
  have x0 : W0.cell? ⟨w.heap.size, 0, none⟩ = some (.int .i64 N1) := cell_of H2.out.2.1 rfl
  have x1 : W0.cell? ⟨w.heap.size, 1, none⟩ = some (.int .i64 M1) := cell_of H2.out.2.1 rfl
  have x2 : W0.cell? ⟨w.heap.size, 2, none⟩ = some (.int .i64 st1) := cell_of H2.out.2.1 rfl
  have x3 : W0.cell? ⟨w.heap.size, 3, none⟩ = some (.slice aF1 lF1 cF1) := cell_of H2.out.2.1 rfl
  have x4 : W0.cell? ⟨w.heap.size, 4, none⟩ = some (.slice aN1 lN1 cN1) := cell_of H2.out.2.1 rfl
  have y0 : W0.cell? ⟨w.heap.size + 1, 0, none⟩ = some (.int .i64 N2) := cell_of H2.out.2.2.1 rfl
  have y1 : W0.cell? ⟨w.heap.size + 1, 1, none⟩ = some (.int .i64 M2) := cell_of H2.out.2.2.1 rfl
  have y2 : W0.cell? ⟨w.heap.size + 1, 2, none⟩ = some (.int .i64 st2) := cell_of H2.out.2.2.1 rfl
  have y3 : W0.cell? ⟨w.heap.size + 1, 3, none⟩ = some (.slice aF2 lF2 cF2) := cell_of H2.out.2.2.1 rfl
  have y4 : W0.cell? ⟨w.heap.size + 1, 4, none⟩ = some (.slice aN2 lN2 cN2) := cell_of H2.out.2.2.1 rfl
  have T1 := maybe_any W0 N1 M1 st1 aF1 aN1 lF1 cF1 lN1 cN1 F1 X1 (hF1.on H2.out.1) (hX1.on H2.out.1) e1 e2 b1 (by omega)
  have T2 : Hid (∀ W, Below W0.heap.size W0 W → Calls Try.prog 46 #[.agg #[.int .i64 N2, .int .i64 M2, .int .i64 st2, .slice aF2 lF2 cF2, .slice aN2 lN2 cN2]] W fun e w' => e = .returned (.bool (vd N2 M2 st2 F2 X2)) ∧ Below W.heap.size W w') := hide (fun W d => maybe_any W N2 M2 st2 aF2 aN2 lF2 cF2 lN2 cN2 F2 X2 ((hF2.on H2.out.1).on d) ((hX2.on H2.out.1).on d) e3 e4 b3 (by omega))
  rw [hv] at T1
  rw [hv2] at T2
  clear hF1 hX1 hF2 hX2 e1 e2 e3 e4 b1 b2 b3 b4 hv hv2
  go_enter Try.func26, Try.ntmps26
  go_wp2_with fail
  go_at_call 46
  refine T1.mono ?_
  rintro e w2 ⟨rfl, d2⟩
  have HD2 := hide d2
  have Z1 := blk_on H2.out.2.1 d2
  have Z2 := blk_on H2.out.2.2.1 d2
  clear d2 x0 y0 x1 y1 x2 y2 x3 y3 x4 y4
  have x0 : w2.cell? ⟨w.heap.size, 0, none⟩ = some (.int .i64 N1) := cell_of Z1 rfl
  have x1 : w2.cell? ⟨w.heap.size, 1, none⟩ = some (.int .i64 M1) := cell_of Z1 rfl
  have x2 : w2.cell? ⟨w.heap.size, 2, none⟩ = some (.int .i64 st1) := cell_of Z1 rfl
  have x3 : w2.cell? ⟨w.heap.size, 3, none⟩ = some (.slice aF1 lF1 cF1) := cell_of Z1 rfl
  have x4 : w2.cell? ⟨w.heap.size, 4, none⟩ = some (.slice aN1 lN1 cN1) := cell_of Z1 rfl
  have y0 : w2.cell? ⟨w.heap.size + 1, 0, none⟩ = some (.int .i64 N2) := cell_of Z2 rfl
  have y1 : w2.cell? ⟨w.heap.size + 1, 1, none⟩ = some (.int .i64 M2) := cell_of Z2 rfl
  have y2 : w2.cell? ⟨w.heap.size + 1, 2, none⟩ = some (.int .i64 st2) := cell_of Z2 rfl
  have y3 : w2.cell? ⟨w.heap.size + 1, 3, none⟩ = some (.slice aF2 lF2 cF2) := cell_of Z2 rfl
  have y4 : w2.cell? ⟨w.heap.size + 1, 4, none⟩ = some (.slice aN2 lN2 cN2) := cell_of Z2 rfl
  clear Z1 Z2
  go_wp2_with fail
  go_at_call 46
  refine (T2.out w2 HD2.out).mono ?_
  rintro e w3 ⟨rfl, d3⟩
  have HD3 := hide (HD2.out.trans (d3.mono HD2.out.size))
  have Z1 := blk_on H2.out.2.1 HD3.out
  have Z2 := blk_on H2.out.2.2.1 HD3.out
  clear d3 x0 y0 x1 y1 x2 y2 x3 y3 x4 y4
  have x0 : w3.cell? ⟨w.heap.size, 0, none⟩ = some (.int .i64 N1) := cell_of Z1 rfl
  have x1 : w3.cell? ⟨w.heap.size, 1, none⟩ = some (.int .i64 M1) := cell_of Z1 rfl
  have x2 : w3.cell? ⟨w.heap.size, 2, none⟩ = some (.int .i64 st1) := cell_of Z1 rfl
  have x3 : w3.cell? ⟨w.heap.size, 3, none⟩ = some (.slice aF1 lF1 cF1) := cell_of Z1 rfl
  have x4 : w3.cell? ⟨w.heap.size, 4, none⟩ = some (.slice aN1 lN1 cN1) := cell_of Z1 rfl
  have y0 : w3.cell? ⟨w.heap.size + 1, 0, none⟩ = some (.int .i64 N2) := cell_of Z2 rfl
  have y1 : w3.cell? ⟨w.heap.size + 1, 1, none⟩ = some (.int .i64 M2) := cell_of Z2 rfl
  have y2 : w3.cell? ⟨w.heap.size + 1, 2, none⟩ = some (.int .i64 st2) := cell_of Z2 rfl
  have y3 : w3.cell? ⟨w.heap.size + 1, 3, none⟩ = some (.slice aF2 lF2 cF2) := cell_of Z2 rfl
  have y4 : w3.cell? ⟨w.heap.size + 1, 4, none⟩ = some (.slice aN2 lN2 cN2) := cell_of Z2 rfl
  clear Z1 Z2
  go_wp2_with fail
  go_ret3
  exact ⟨rfl, H2.out.1.trans (HD3.out.mono H2.out.1.size)⟩
set_option maxRecDepth 100000 in
set_option maxHeartbeats 4000000 in
theorem requal_ok (w : World) (N1 M1 st1 N2 st2 : Nat) (aF1 aN1 aF2 aN2 : Option Addr) (lF1 cF1 lN1 cN1 lF2 cF2 lN2 cN2 : Nat) (F1 X1 F2 X2 : List Int) (hF1 : RdN w aF1 F1) (hX1 : RdN w aN1 X1) (hF2 : RdN w aF2 F2) (hX2 : RdN w aN2 X2) (e1 : F1.length = lF1) (e2 : X1.length = lN1) (e3 : F2.length = lF2) (e4 : X2.length = lN2) (b1 : lF1 ≤ 4194304) (b2 : lN1 ≤ 2097152) (b3 : lF2 ≤ 4194304) (b4 : lN2 ≤ 2097152) (hv : vd N1 M1 st1 F1 X1 = true) (hv2 : vd N2 M1 st2 F2 X2 = true) :
    Calls Try.prog 26 #[.agg #[.int .i64 (N1 : Int), .int .i64 (M1 : Int), .int .i64 (st1 : Int), .slice aF1 lF1 cF1, .slice aN1 lN1 cN1], .agg #[.int .i64 (N2 : Int), .int .i64 (M1 : Int), .int .i64 (st2 : Int), .slice aF2 lF2 cF2, .slice aN2 lN2 cN2]] w (EqU w (eqB N1 M1 st1 F1 X1 N2 M1 st2 F2 X2) (eqL N1 M1 st1 F1 X1 N2 M1 st2 F2 X2) 0) := by
  obtain ⟨n0, m0, s0, en, em, es, q1, q2, q3, q4, q5, q6, q7⟩ := vd_nat hv
  obtain ⟨n0', m0', s0', en', em', es', r1, r2, r3, r4, r5, r6, r7⟩ := vd_nat hv2
  obtain rfl : N1 = n0 := by omega
  obtain rfl : M1 = m0 := by omega
  obtain rfl : st1 = s0 := by omega
  obtain rfl : N2 = n0' := by omega
  obtain rfl : M1 = m0' := by omega
  obtain rfl : st2 = s0' := by omega
  obtain ⟨W0, hW0⟩ : ∃ W0, (w.alloc (.cells #[.int .i64 (N1 : Int), .int .i64 (M1 : Int), .int .i64 (st1 : Int), .slice aF1 lF1 cF1, .slice aN1 lN1 cN1] 24)).alloc (.cells #[.int .i64 (N2 : Int), .int .i64 (M1 : Int), .int .i64 (st2 : Int), .slice aF2 lF2 cF2, .slice aN2 lN2 cN2] 24) = W0 := ⟨_, rfl⟩
  have H2 := hide (two_al w #[.int .i64 (N1 : Int), .int .i64 (M1 : Int), .int .i64 (st1 : Int), .slice aF1 lF1 cF1, .slice aN1 lN1 cN1] #[.int .i64 (N2 : Int), .int .i64 (M1 : Int), .int .i64 (st2 : Int), .slice aF2 lF2 cF2, .slice aN2 lN2 cN2] 24 24)
  rw [hW0] at H2
  have x0 : W0.cell? ⟨w.heap.size, 0, none⟩ = some (.int .i64 (N1 : Int)) := cell_of H2.out.2.1 rfl
  have x1 : W0.cell? ⟨w.heap.size, 1, none⟩ = some (.int .i64 (M1 : Int)) := cell_of H2.out.2.1 rfl
  have x2 : W0.cell? ⟨w.heap.size, 2, none⟩ = some (.int .i64 (st1 : Int)) := cell_of H2.out.2.1 rfl
  have x3 : W0.cell? ⟨w.heap.size, 3, none⟩ = some (.slice aF1 lF1 cF1) := cell_of H2.out.2.1 rfl
  have x4 : W0.cell? ⟨w.heap.size, 4, none⟩ = some (.slice aN1 lN1 cN1) := cell_of H2.out.2.1 rfl
  have y0 : W0.cell? ⟨w.heap.size + 1, 0, none⟩ = some (.int .i64 (N2 : Int)) := cell_of H2.out.2.2.1 rfl
  have y1 : W0.cell? ⟨w.heap.size + 1, 1, none⟩ = some (.int .i64 (M1 : Int)) := cell_of H2.out.2.2.1 rfl
  have y2 : W0.cell? ⟨w.heap.size + 1, 2, none⟩ = some (.int .i64 (st2 : Int)) := cell_of H2.out.2.2.1 rfl
  have y3 : W0.cell? ⟨w.heap.size + 1, 3, none⟩ = some (.slice aF2 lF2 cF2) := cell_of H2.out.2.2.1 rfl
  have y4 : W0.cell? ⟨w.heap.size + 1, 4, none⟩ = some (.slice aN2 lN2 cN2) := cell_of H2.out.2.2.1 rfl
  have T1 := maybe_any W0 N1 M1 st1 aF1 aN1 lF1 cF1 lN1 cN1 F1 X1 (hF1.on H2.out.1) (hX1.on H2.out.1) e1 e2 b1 (by omega)
  have T2 : Hid (∀ W, Below W0.heap.size W0 W → Calls Try.prog 46 #[.agg #[.int .i64 (N2 : Int), .int .i64 (M1 : Int), .int .i64 (st2 : Int), .slice aF2 lF2 cF2, .slice aN2 lN2 cN2]] W fun e w' => e = .returned (.bool (vd N2 M1 st2 F2 X2)) ∧ Below W.heap.size W w') := hide (fun W d => maybe_any W N2 M1 st2 aF2 aN2 lF2 cF2 lN2 cN2 F2 X2 ((hF2.on H2.out.1).on d) ((hX2.on H2.out.1).on d) e3 e4 b3 (by omega))
  rw [hv] at T1
  rw [hv2] at T2
  have TA : Hid (∀ W, Below W0.heap.size W0 W → Calls Try.prog 47 #[.agg #[.int .i64 (N1 : Int), .int .i64 (M1 : Int), .int .i64 (st1 : Int), .slice aF1 lF1 cF1, .slice aN1 lN1 cN1], .agg #[.int .i64 (N2 : Int), .int .i64 (M1 : Int), .int .i64 (st2 : Int), .slice aF2 lF2 cF2, .slice aN2 lN2 cN2], .int .i64 (st1 : Int), .int .i64 (st2 : Int)] W (ApA W F1 X1 F2 X2 M1 st1 st2)) := hide (fun W d => apart_any W N1 N2 M1 st1 st2 aF1 aN1 aF2 aN2 lF1 cF1 lN1 cN1 lF2 cF2 lN2 cN2 F1 X1 F2 X2 ((hF1.on H2.out.1).on d) ((hX1.on H2.out.1).on d) ((hF2.on H2.out.1).on d) ((hX2.on H2.out.1).on d) e1 e2 e3 e4 b1 b3 q2 r2 (by omega) q5 r5 q6 r6 st1 st2 q4 r4)
  have HV := hide (And.intro hv hv2)
  clear hF1 hX1 hF2 hX2 e1 e2 e3 e4 b1 b2 b3 b4 hv hv2 en em es q1 q2 q3 q4 q5 q6 q7 en' em' es' r1 r2 r3 r4 r5 r6 r7
  go_enter Try.func26, Try.ntmps26
  go_wp2_with fail
  go_at_call 46
  refine T1.mono ?_
  rintro e w2 ⟨rfl, d2⟩
  have HD2 := hide d2
  have Z1 := blk_on H2.out.2.1 d2
  have Z2 := blk_on H2.out.2.2.1 d2
  clear d2 x0 y0 x1 y1 x2 y2 x3 y3 x4 y4
  have x0 : w2.cell? ⟨w.heap.size, 0, none⟩ = some (.int .i64 (N1 : Int)) := cell_of Z1 rfl
  have x1 : w2.cell? ⟨w.heap.size, 1, none⟩ = some (.int .i64 (M1 : Int)) := cell_of Z1 rfl
  have x2 : w2.cell? ⟨w.heap.size, 2, none⟩ = some (.int .i64 (st1 : Int)) := cell_of Z1 rfl
  have x3 : w2.cell? ⟨w.heap.size, 3, none⟩ = some (.slice aF1 lF1 cF1) := cell_of Z1 rfl
  have x4 : w2.cell? ⟨w.heap.size, 4, none⟩ = some (.slice aN1 lN1 cN1) := cell_of Z1 rfl
  have y0 : w2.cell? ⟨w.heap.size + 1, 0, none⟩ = some (.int .i64 (N2 : Int)) := cell_of Z2 rfl
  have y1 : w2.cell? ⟨w.heap.size + 1, 1, none⟩ = some (.int .i64 (M1 : Int)) := cell_of Z2 rfl
  have y2 : w2.cell? ⟨w.heap.size + 1, 2, none⟩ = some (.int .i64 (st2 : Int)) := cell_of Z2 rfl
  have y3 : w2.cell? ⟨w.heap.size + 1, 3, none⟩ = some (.slice aF2 lF2 cF2) := cell_of Z2 rfl
  have y4 : w2.cell? ⟨w.heap.size + 1, 4, none⟩ = some (.slice aN2 lN2 cN2) := cell_of Z2 rfl
  clear Z1 Z2
  go_wp2_with fail
  go_at_call 46
  refine (T2.out w2 HD2.out).mono ?_
  rintro e w3 ⟨rfl, d3⟩
  have HD3 := hide (HD2.out.trans (d3.mono HD2.out.size))
  have Z1 := blk_on H2.out.2.1 HD3.out
  have Z2 := blk_on H2.out.2.2.1 HD3.out
  clear d3 x0 y0 x1 y1 x2 y2 x3 y3 x4 y4
  have x0 : w3.cell? ⟨w.heap.size, 0, none⟩ = some (.int .i64 (N1 : Int)) := cell_of Z1 rfl
  have x1 : w3.cell? ⟨w.heap.size, 1, none⟩ = some (.int .i64 (M1 : Int)) := cell_of Z1 rfl
  have x2 : w3.cell? ⟨w.heap.size, 2, none⟩ = some (.int .i64 (st1 : Int)) := cell_of Z1 rfl
  have x3 : w3.cell? ⟨w.heap.size, 3, none⟩ = some (.slice aF1 lF1 cF1) := cell_of Z1 rfl
  have x4 : w3.cell? ⟨w.heap.size, 4, none⟩ = some (.slice aN1 lN1 cN1) := cell_of Z1 rfl
  have y0 : w3.cell? ⟨w.heap.size + 1, 0, none⟩ = some (.int .i64 (N2 : Int)) := cell_of Z2 rfl
  have y1 : w3.cell? ⟨w.heap.size + 1, 1, none⟩ = some (.int .i64 (M1 : Int)) := cell_of Z2 rfl
  have y2 : w3.cell? ⟨w.heap.size + 1, 2, none⟩ = some (.int .i64 (st2 : Int)) := cell_of Z2 rfl
  have y3 : w3.cell? ⟨w.heap.size + 1, 3, none⟩ = some (.slice aF2 lF2 cF2) := cell_of Z2 rfl
  have y4 : w3.cell? ⟨w.heap.size + 1, 4, none⟩ = some (.slice aN2 lN2 cN2) := cell_of Z2 rfl
  clear Z1 Z2
  go_wp2_with fail
  go_at_call 47
  refine (TA.out _ HD3.out).mono ?_
  rintro e w4 ⟨b, n, c, told, rfl, HA⟩
  have HD4 := hide (H2.out.1.trans ((HD3.out.trans (HA.out.1.mono HD3.out.size)).mono H2.out.1.size))
  clear x0 y0 x1 y1 x2 y2 x3 y3 x4 y4
  cases told with
  | true =>
    obtain ⟨u, o, t⟩ := HA.out.2.1 rfl
    have HU := hide (And.intro o t)
    clear o t
    go_wp2_with fail
    go_ret3
    have z := eq_told HV.out.1 HV.out.2 HU.out.2
    rw [z.1]
    exact ⟨b, n, c, rfl, hide ⟨by rw [z.2]; exact owns_down HU.out.1 (Nat.le_trans H2.out.1.size HD3.out.size), HD4.out⟩⟩
  | false =>
    obtain ⟨rfl, rfl, rfl, he⟩ := HA.out.2.2 rfl
    have HU := hide he
    clear he
    go_wp2_with fail
    go_ret3
    have z := eq_same HV.out.1 HV.out.2 HU.out
    rw [z.1]
    exact eqU_nil z.2 HD4.out
/-- The reference's Equal, whatever it is asked. -/
theorem requal_uni (w : World) (N1 M1 st1 N2 M2 st2 : Int) (aF1 aN1 aF2 aN2 : Option Addr) (lF1 cF1 lN1 cN1 lF2 cF2 lN2 cN2 : Nat) (F1 X1 F2 X2 : List Int) (hF1 : RdN w aF1 F1) (hX1 : RdN w aN1 X1) (hF2 : RdN w aF2 F2) (hX2 : RdN w aN2 X2) (e1 : F1.length = lF1) (e2 : X1.length = lN1) (e3 : F2.length = lF2) (e4 : X2.length = lN2) (b1 : lF1 ≤ 4194304) (b2 : lN1 ≤ 2097152) (b3 : lF2 ≤ 4194304) (b4 : lN2 ≤ 2097152) :
    Calls Try.prog 26 #[.agg #[.int .i64 N1, .int .i64 M1, .int .i64 st1, .slice aF1 lF1 cF1, .slice aN1 lN1 cN1], .agg #[.int .i64 N2, .int .i64 M2, .int .i64 st2, .slice aF2 lF2 cF2, .slice aN2 lN2 cN2]] w (EqU w (eqB N1 M1 st1 F1 X1 N2 M2 st2 F2 X2) (eqL N1 M1 st1 F1 X1 N2 M2 st2 F2 X2) (eqE N1 M1 st1 F1 X1 N2 M2 st2 F2 X2)) := by
  cases hv1 : vd N1 M1 st1 F1 X1 with
  | false =>
    have hc : ¬ EqC N1 M1 st1 F1 X1 N2 M2 st2 F2 X2 := fun k => by rw [k.1] at hv1; cases hv1
    rw [(eq_no hc).1, eqE_bad (fun k => by rw [k.1] at hv1; cases hv1)]
    refine (requal_bad1 w N1 M1 st1 N2 M2 st2 aF1 aN1 aF2 aN2 lF1 cF1 lN1 cN1 lF2 cF2 lN2 cN2 F1 X1 F2 X2 hF1 hX1 hF2 hX2 e1 e2 e3 e4 b1 b2 b3 b4 hv1).mono ?_
    rintro e w' ⟨rfl, d⟩
    exact eqU_nil (eq_no hc).2 d
  | true =>
    cases hv2 : vd N2 M2 st2 F2 X2 with
    | false =>
      have hc : ¬ EqC N1 M1 st1 F1 X1 N2 M2 st2 F2 X2 := fun k => by rw [k.2.1] at hv2; cases hv2
      rw [(eq_no hc).1, eqE_bad (fun k => by rw [k.2] at hv2; cases hv2)]
      refine (requal_bad2 w N1 M1 st1 N2 M2 st2 aF1 aN1 aF2 aN2 lF1 cF1 lN1 cN1 lF2 cF2 lN2 cN2 F1 X1 F2 X2 hF1 hX1 hF2 hX2 e1 e2 e3 e4 b1 b2 b3 b4 hv1 hv2).mono ?_
      rintro e w' ⟨rfl, d⟩
      exact eqU_nil (eq_no hc).2 d
    | true =>
      by_cases hM : M1 = M2
      · subst hM
        rw [eqE_ok hv1 hv2 rfl]
        obtain ⟨n, m, s, rfl, rfl, rfl, _⟩ := vd_nat hv1
        obtain ⟨n2, m2, s2, rfl, em, rfl, _⟩ := vd_nat hv2
        exact requal_ok w n m s n2 s2 aF1 aN1 aF2 aN2 lF1 cF1 lN1 cN1 lF2 cF2 lN2 cN2 F1 X1 F2 X2 hF1 hX1 hF2 hX2 e1 e2 e3 e4 b1 b2 b3 b4 hv1 hv2
      · have hc : ¬ EqC N1 M1 st1 F1 X1 N2 M2 st2 F2 X2 := fun k => hM k.2.2
        rw [(eq_no hc).1, eqE_sym hv1 hv2 hM]
        refine (requal_sym w N1 M1 st1 N2 M2 st2 aF1 aN1 aF2 aN2 lF1 cF1 lN1 cN1 lF2 cF2 lN2 cN2 F1 X1 F2 X2 hF1 hX1 hF2 hX2 e1 e2 e3 e4 b1 b2 b3 b4 hv1 hv2 hM).mono ?_
        rintro e w' ⟨rfl, d⟩
        exact eqU_nil (eq_no hc).2 d
end Go.Proofs.Ytocoghljmlpdeaa
