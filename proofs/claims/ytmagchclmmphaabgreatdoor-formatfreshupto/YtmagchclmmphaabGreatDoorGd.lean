import Derived.Test.YtmagchclmmphaabGreatDoorSR
import Derived.Test.YtmagchclmmphaabGreatDoorLM
namespace Go.Proofs.YtmagchclmmphaabGreatDoor
open Go.RowKit Go.Maps
attribute [local go_sem] Oper.semAt_some

/-! ### grown -/
def mkG : Nat → Nat → Value
  | 0, j => if j % 2 = 0 then .string ⟨#[]⟩ else .int .i64 ((1000 + j / 2 : Nat) : Int)
  | 3, j => if j % 3 = 0 then .string (mk3 114 (j / 3)) else .string ⟨#[]⟩
  | r, j => .string (mk3 (96 + r) j)
theorem mkG_k (k i : Nat) (hk : k < 2) : mkG (k + 1) i = .string (mk3 (97 + k) i) := by
  match k, hk with
  | 0, _ => rfl
  | 1, _ => rfl
def aK (n : Nat → Nat) (k : Nat) : Nat → Nat := fun r => if 1 ≤ r ∧ r ≤ k then n r else 0
theorem aK_next (n : Nat → Nat) (k : Nat) : upd (aK n k) (k + 1) (n (k + 1)) = aK n (k + 1) := by
  funext r
  unfold upd aK
  by_cases e : r = k + 1
  · subst e; simp
  · rw [if_neg e]
    by_cases h : 1 ≤ r ∧ r ≤ k
    · rw [if_pos h, if_pos (by omega)]
    · rw [if_neg h, if_neg (by omega)]
theorem aK_zero (n : Nat → Nat) (k : Nat) : upd (aK n k) (k + 1) 0 = aK n k := by
  funext r
  unfold upd aK
  by_cases e : r = k + 1
  · subst e; rw [if_pos rfl, if_neg (by omega)]
  · rw [if_neg e]
theorem tag_ne2 {W : World} {B C e d sz tz n m k : Nat} {u v : Value} {xs ys : List Value} (h : W.ownsRow B e sz u n xs) (h' : W.ownsRow C d tz v m ys) (hed : e ≠ d) (q : u.ownBlock = some k) (z : v.ownBlock = some k) : False := by
  rcases h.2 with ⟨rfl, _⟩ | ⟨g, cap, cur, rfl, _, hg, _⟩
  · cases q
  · rcases h'.2 with ⟨rfl, _⟩ | ⟨g', cap', cur', rfl, _, hg', _⟩
    · cases z
    · cases q
      cases z
      rw [hg] at hg'
      cases hg'
      exact hed rfl
theorem upd_upd {α : Type} (a : Nat → α) (i : Nat) (x y : α) : upd (upd a i x) i y = upd a i y := by
  funext r
  unfold upd
  by_cases e : r = i
  · simp [e]
  · simp [e]
theorem upd_self {α : Type} (a : Nat → α) (i : Nat) (x : α) (h : a i = x) : upd a i x = a := by
  funext r
  unfold upd
  by_cases e : r = i
  · rw [if_pos e, e, h]
  · rw [if_neg e]
theorem mkG_0 (i : Nat) : mkG 0 (i * 2) = .string ⟨#[]⟩ ∧ mkG 0 (i * 2 + 1) = .int .i64 (1000 + (i : Int)) := by
  constructor
  · simp [mkG]
  · have e : (i * 2 + 1) / 2 = i := by omega
    simp [mkG, Nat.add_mod, e]
theorem mkG_3 (i : Nat) : mkG 3 (i * 3) = .string (mk3 114 i) ∧ mkG 3 (i * 3 + 1) = .string ⟨#[]⟩ ∧ mkG 3 (i * 3 + 2) = .string ⟨#[]⟩ := by
  have e0 : i * 3 / 3 = i := by omega
  refine ⟨?_, ?_, ?_⟩
  · simp [mkG, e0]
  · simp [mkG, Nat.add_mod]
  · simp [mkG, Nat.add_mod]
theorem upd_at {α : Type} (a : Nat → α) (i : Nat) (x : α) : upd a i x i = x := by simp [upd]
/-- A mark, made of the bytes that the program reckons. -/
theorem conv3d (W : World) (b a i : Nat) (ha : a < 256) (A : Int) (hA : A = (a : Int)) (hb : W.heap[b]? = some (.cells #[.int .u8 A, .int .u8 ((i : Int) / 256 % 256), .int .u8 ((i : Int) % 256)] 5 (0, 0))) : (convert 82 9 (.slice (some ⟨b, 0, none⟩) 3 3)).run Tryz.prog W = .ok (.string (mk3 a i)) W := by
  subst hA
  have h := run_convert_bytes_back (P := Tryz.prog) W 82 9 5 ⟨b, 0, none⟩ 3 (mkL3 a i) Tryz.underlying82 Tryz.underlying5 Tryz.underlying9 (fun j hj => by
    rw [Addr.add_lit, Nat.zero_add]
    have e0 : ((UInt8.ofNat a).toNat : Int) = (a : Int) := by simp only [UInt8.toNat_ofNat']; omega
    have e1 : ((UInt8.ofNat (i / 256)).toNat : Int) = (i : Int) / 256 % 256 := by simp only [UInt8.toNat_ofNat']; omega
    have e2 : ((UInt8.ofNat (i % 256)).toNat : Int) = (i : Int) % 256 := by simp only [UInt8.toNat_ofNat']; omega
    refine cell_of hb ?_
    match j, hj with
    | 0, _ => simp only [mkL3, List.getElem_cons_zero, e0]; rfl
    | 1, _ => simp only [mkL3, List.getElem_cons_succ, List.getElem_cons_zero, e1]; rfl
    | 2, _ => simp only [mkL3, List.getElem_cons_succ, List.getElem_cons_zero, e2]; rfl)
  exact h
theorem alloc_cell {W : World} {o : Obj} {g j : Nat} {u : Value} (h : W.cell? ⟨g, j, none⟩ = some u) : (W.alloc o).drew.cell? ⟨g, j, none⟩ = some u :=
  (World.cell?_of_block (w := W) (a := ⟨g, j, none⟩) (Below.heap_alloc W o g (World.block_lt_of_cell? W _ h))).trans h
theorem alloc_cell2 {W : World} {o : Obj} {g j : Nat} {u : Value} (h : W.cell? ⟨g, j, none⟩ = some u) (hf : W.frozen? ⟨g, j, none⟩ = false) : (W.alloc o).drew.cell? ⟨g, j, none⟩ = some u ∧ (W.alloc o).drew.frozen? ⟨g, j, none⟩ = false :=
  ⟨alloc_cell h, (World.frozen?_of_block (w := W) (a := ⟨g, j, none⟩) (Below.heap_alloc W o g (World.block_lt_of_cell? W _ h))).trans hf⟩
theorem alloc_cell3 {W : World} {o : Obj} {g j : Nat} {u : Value} (h : W.cell? ⟨g, j, none⟩ = some u) (hf : W.frozen? ⟨g, j, none⟩ = false) : (W.alloc o).cell? ⟨g, j, none⟩ = some u ∧ (W.alloc o).frozen? ⟨g, j, none⟩ = false :=
  alloc_cell2 h hf
theorem own_eq {W : World} {B e e' sz sz' n n' : Nat} {v : Value} {xs : List Value} (h : W.ownsRow B e sz v n xs) (he : e = e') (hz : sz = sz') (hn : n = n') : W.ownsRow B e' sz' v n' xs := by
  subst he hz hn
  exact h
theorem Gx.zero' {w W : World} {bx : List (Nat × Array Value × TypeId)} {v u : Value} {e sz n : Nat} {xs ys : List Value} (hv : v = u) (h : W.ownsRow 0 e sz v n xs) : Gx w W v bx e sz n xs ys u 0 := by
  subst hv
  exact Gx.zero h
theorem cnewL (W : World) (xs : List Value) (t : TypeId) : ∀ j u, xs[j]? = some u → (W.alloc (.cells xs.toArray t)).cell? ((⟨W.heap.size, 0, none⟩ : Addr).add j) = some u := by
  intro j u hu
  rw [Addr.add_lit, Nat.zero_add]
  exact cell_of (World.alloc_heap_new W _) (by simpa using hu)
theorem Gf.puti {w W : World} {N : Nat} {v : Nat → Value} {bx : List (Nat × Array Value × TypeId)} {e sz n : Nat → Nat} {mk : Nat → Nat → Value} {x : Nat → List Value} {a : Nat → Nat} (s : Gst w N v bx) (i c : Nat) (h : Gf w W N v bx e sz n mk x (upd a i c)) (hi : i < N) {g cap m : Nat} (hv : v i = .slice (some ⟨g, 0, none⟩) m cap) (hm : n i = m) (u : Value) (hu : mk i c = u) : Gf w (W.setCell ⟨g, c, none⟩ u) N v bx e sz n mk x (upd a i (c + 1)) := by
  have k := Gf.put s h i hi hv hm u (by rw [upd_at]; exact hu)
  rwa [upd_at, upd_upd] at k
theorem Gf.cell {w W : World} {N : Nat} {v : Nat → Value} {bx : List (Nat × Array Value × TypeId)} {e sz n : Nat → Nat} {mk : Nat → Nat → Value} {x : Nat → List Value} {a : Nat → Nat} (h : Gf w W N v bx e sz n mk x a) (i : Nat) (hi : i < N) {ao : Option Addr} {cap m z : Nat} (hv : v i = .slice ao m cap) (hm : n i = m) (hz : sz i = z) (j : Nat) (hj : j < m * z) : ∃ g, ao = some ⟨g, 0, none⟩ ∧ ∀ c, c < m * z → (∃ u, W.cell? ⟨g, c, none⟩ = some u) ∧ W.frozen? ⟨g, c, none⟩ = false := by
  have k := h.r i hi
  rw [hv, hm, hz] at k
  obtain ⟨g, cp, e1, _, _⟩ := k.form (Nat.pos_of_ne_zero fun e0 => by rw [e0] at hj; omega)
  cases e1
  refine ⟨g, rfl, fun c hc => ⟨⟨_, rv_of k g rfl c (by rw [k.1]; exact hc)⟩, ?_⟩⟩
  rcases k.2 with ⟨e2, _⟩ | ⟨g', cap', cur, e2, _, hg, _⟩
  · cases e2
  · cases e2
    simp [World.frozen?, hg]
set_option maxRecDepth 100000 in
set_option maxHeartbeats 8000000 in
theorem grown_any (w : World) (ti : ByteArray) (a1 a2 a3 a4 : Option Addr) (n1 n2 n3 n4 c1 c2 c3 c4 : Nat) (x1 x3 x4 : List Value) (S : List ByteArray)
    (hO : Hid (w.ownsRow 0 66 2 (.slice a1 n1 c1) n1 x1 ∧ w.ownsRow 0 9 1 (.slice a2 n2 c2) n2 (strV S) ∧ w.ownsRow 0 9 1 (.slice a3 n3 c3) n3 x3 ∧ w.ownsRow 0 68 3 (.slice a4 n4 c4) n4 x4))
    (hne : Hid (∀ b, (Value.slice a2 n2 c2).ownBlock = some b → (Value.slice a3 n3 c3).ownBlock ≠ some b)) (h1 : n1 ≤ 1048576) (h2 : n2 ≤ 1048576) (h3 : n3 ≤ 1048576) (h4 : n4 ≤ 1048576) :
    Calls Tryz.prog 29 #[.agg #[.string ti, .slice a1 n1 c1, .slice a2 n2 c2, .slice a3 n3 c3, .slice a4 n4 c4]] w fun e w' => e = .returned (.bool true) ∧ Only w w' (fun k => ∃ i, i < 4 ∧ (g4 (Value.slice a1 n1 c1) (.slice a2 n2 c2) (.slice a3 n3 c3) (.slice a4 n4 c4) i).ownBlock = some k) := by
  obtain ⟨i9, hi9, hz90, hz91, hz92⟩ := info_parts info9
  obtain ⟨i5, hi5, hz50, hz51, hz52⟩ := info_parts info51
  obtain ⟨i8, hi8, hz80, hz81, hz82⟩ := info_parts info53
  have hS : S.length = n2 := by have := hO.out.2.1.1; simpa [strV] using this
  obtain ⟨W0, hW0⟩ : ∃ W0, w.alloc (.cells #[.string ti, .slice a1 n1 c1, .slice a2 n2 c2, .slice a3 n3 c3, .slice a4 n4 c4] 32) = W0 := ⟨_, rfl⟩
  have d0 : Below w.heap.size w W0 := by rw [← hW0]; exact (Below.refl _ _).alloc (Nat.le_refl _) _
  have B0 : W0.heap[w.heap.size]? = some (.cells #[.string ti, .slice a1 n1 c1, .slice a2 n2 c2, .slice a3 n3 c3, .slice a4 n4 c4] 32 (0, 0)) := by rw [← hW0]; exact World.alloc_heap_new _ _
  have T9 : Calls Tryz.prog 9 #[.slice a2 n2 c2] W0 fun e w' => e = .returned (.slice (some ⟨W0.heap.size, 0, none⟩) n2 (n2 + 64)) ∧ Below W0.heap.size W0 w' := by
    obtain ⟨_, _, e, r⟩ := rdS_of (B := 0) (v := .slice a2 n2 c2) (S := S) (by rw [hS]; exact owns_below hO.out.2.1 d0)
    cases e
    have q := texts_any a2 c2 S W0 (hide r) (by omega)
    rw [hS] at q
    exact q.mono fun e w' hh => ⟨hh.1, hh.2.2⟩
  have HD := hide (And.intro d0 B0)
  have k2 : W0.cell? ⟨w.heap.size, 2, none⟩ = some (.slice a2 n2 c2) := cell_of B0 rfl
  clear d0 B0
  go_enter Tryz.func29, Tryz.ntmps29
  go_upto_region 2 with (go_at_call 9; refine T9.mono ?_; rintro e W1 ⟨rfl, d1⟩)
  have B1 := (d1.block _ (Array.getElem?_eq_some_iff.1 HD.out.2).1).trans HD.out.2
  have D1 := hide (And.intro (HD.out.1.trans (d1.mono HD.out.1.size)) B1)
  have j2 : W1.cell? ⟨w.heap.size, 2, none⟩ = some (.slice a2 n2 c2) := cell_of B1 rfl
  have j3 : W1.cell? ⟨w.heap.size, 3, none⟩ = some (.slice a3 n3 c3) := cell_of B1 rfl
  clear B1 d1 T9 k2 HD
  go_upto_region 3 with fail
  obtain ⟨W2, hW2⟩ : ∃ W2, W1.alloc (.cells #[.slice a2 n2 c2, .slice a3 n3 c3] 80) = W2 := ⟨_, rfl⟩
  rw [hW2]
  obtain ⟨gL, hgL⟩ : ∃ gL, W1.heap.size = gL := ⟨_, rfl⟩
  rw [hgL]
  have HG : Hid (Gst w 4 (g4 (Value.slice a1 n1 c1) (.slice a2 n2 c2) (.slice a3 n3 c3) (.slice a4 n4 c4)) [(w.heap.size, #[.string ti, .slice a1 n1 c1, .slice a2 n2 c2, .slice a3 n3 c3, .slice a4 n4 c4], 32), (gL, #[.slice a2 n2 c2, .slice a3 n3 c3], 80)] ∧ Gf w W2 4 (g4 (Value.slice a1 n1 c1) (.slice a2 n2 c2) (.slice a3 n3 c3) (.slice a4 n4 c4)) [(w.heap.size, #[.string ti, .slice a1 n1 c1, .slice a2 n2 c2, .slice a3 n3 c3, .slice a4 n4 c4], 32), (gL, #[.slice a2 n2 c2, .slice a3 n3 c3], 80)] (g4 66 9 9 68) (g4 2 1 1 3) (g4 n1 n2 n3 n4) mkG (g4 x1 (strV S) x3 x4) (aK (g4 n1 n2 n3 n4) 0)) := hide (by
    have d2 : Below W1.heap.size W1 W2 := by rw [← hW2]; exact (Below.refl _ _).alloc (Nat.le_refl _) _
    have d : Below w.heap.size w W2 := D1.out.1.trans (d2.mono D1.out.1.size)
    have t1 := hO.out.1
    have t2 := hO.out.2.1
    have t3 := hO.out.2.2.1
    have t4 := hO.out.2.2.2
    refine ⟨⟨fun i hi k q => ?_, fun i j hi hj hij k q q' => ?_, fun q hq => ?_⟩, ⟨fun q hq => ?_, Only.ofBelow d, fun i hi => ?_⟩⟩
    · match i, hi, q with
      | 0, _, q => exact (t1.lt k q).2
      | 1, _, q => exact (t2.lt k q).2
      | 2, _, q => exact (t3.lt k q).2
      | 3, _, q => exact (t4.lt k q).2
    · match i, j, hi, hj, hij, q, q' with
      | 0, 1, _, _, _, q, q' => exact tag_ne2 t1 t2 (by decide) q q'
      | 0, 2, _, _, _, q, q' => exact tag_ne2 t1 t3 (by decide) q q'
      | 0, 3, _, _, _, q, q' => exact tag_ne2 t1 t4 (by decide) q q'
      | 1, 0, _, _, _, q, q' => exact tag_ne2 t2 t1 (by decide) q q'
      | 1, 2, _, _, _, q, q' => exact hne.out k q q'
      | 1, 3, _, _, _, q, q' => exact tag_ne2 t2 t4 (by decide) q q'
      | 2, 0, _, _, _, q, q' => exact tag_ne2 t3 t1 (by decide) q q'
      | 2, 1, _, _, _, q, q' => exact hne.out k q' q
      | 2, 3, _, _, _, q, q' => exact tag_ne2 t3 t4 (by decide) q q'
      | 3, 0, _, _, _, q, q' => exact tag_ne2 t4 t1 (by decide) q q'
      | 3, 1, _, _, _, q, q' => exact tag_ne2 t4 t2 (by decide) q q'
      | 3, 2, _, _, _, q, q' => exact tag_ne2 t4 t3 (by decide) q q'
      | 0, 0, _, _, h, _, _ => exact absurd rfl h
      | 1, 1, _, _, h, _, _ => exact absurd rfl h
      | 2, 2, _, _, h, _, _ => exact absurd rfl h
      | 3, 3, _, _, h, _, _ => exact absurd rfl h
    · rcases List.mem_cons.1 hq with rfl | hq
      · exact Nat.le_refl _
      · rw [List.mem_singleton.1 hq]
        have := D1.out.1.size
        show w.heap.size ≤ gL
        omega
    · rcases List.mem_cons.1 hq with rfl | hq
      · exact (d2.block _ (Array.getElem?_eq_some_iff.1 D1.out.2).1).trans D1.out.2
      · rw [List.mem_singleton.1 hq, ← hW2, ← hgL]
        exact World.alloc_heap_new _ _
    · have e0 : aK (g4 n1 n2 n3 n4) 0 i = 0 := by unfold aK; rw [if_neg (by omega)]
      rw [e0, gx_zero]
      match i, hi with
      | 0, _ => exact owns_below t1 d
      | 1, _ => exact owns_below t2 d
      | 2, _ => exact owns_below t3 d
      | 3, _ => exact owns_below t4 d)
  clear hW2 hgL D1 j2 j3 hW0
  go_wp2
  go_loopw [5] (fun kv wr => ∃ k : Nat, k ≤ 2 ∧ kv = .int .i64 k ∧ Hid (Gf w wr 4 (g4 (Value.slice a1 n1 c1) (.slice a2 n2 c2) (.slice a3 n3 c3) (.slice a4 n4 c4)) [(w.heap.size, #[.string ti, .slice a1 n1 c1, .slice a2 n2 c2, .slice a3 n3 c3, .slice a4 n4 c4], 32), (gL, #[.slice a2 n2 c2, .slice a3 n3 c3], 80)] (g4 66 9 9 68) (g4 2 1 1 3) (g4 n1 n2 n3 n4) mkG (g4 x1 (strV S) x3 x4) (aK (g4 n1 n2 n3 n4) k))) (fun kv _ => 2 - (intOf kv).toNat)
  case atStart => exact ⟨0, Nat.zero_le _, rfl, hide HG.out.2⟩
  case round =>
    obtain ⟨k, hk, rfl, HX⟩ := hrel
    obtain ⟨wo, rfl⟩ : ∃ z, z = wr := ⟨_, rfl⟩
    by_cases hlt : k < 2
    · have i1 : (k : Int) < 2 := by omega
      have i0 : (0 : Int) ≤ (k : Int) := by omega
      obtain ⟨ao, m, cp, hm, hkv, hkn, hkc, hkz⟩ : ∃ ao m cp, m ≤ 1048576 ∧ (g4 (Value.slice a1 n1 c1) (.slice a2 n2 c2) (.slice a3 n3 c3) (.slice a4 n4 c4)) (k + 1) = .slice ao m cp ∧ (g4 n1 n2 n3 n4) (k + 1) = m ∧ (#[Value.slice a2 n2 c2, .slice a3 n3 c3] : Array Value)[k]? = some (.slice ao m cp) ∧ g4 2 1 1 3 (k + 1) = 1 := by
        match k, hlt with
        | 0, _ => exact ⟨a2, n2, c2, h2, rfl, rfl, rfl, rfl⟩
        | 1, _ => exact ⟨a3, n3, c3, h3, rfl, rfl, rfl, rfl⟩
      have HK := hide (And.intro hkv (And.intro hkn (And.intro hkc hkz)))
      clear hkv hkn hkc hkz
      go_upto_region 6 with fail
      go_wp2
      go_loopw [6] (fun iv wr => ∃ i : Nat, i ≤ m ∧ iv = .int .i64 i ∧ Hid (Gf w wr 4 (g4 (Value.slice a1 n1 c1) (.slice a2 n2 c2) (.slice a3 n3 c3) (.slice a4 n4 c4)) [(w.heap.size, #[.string ti, .slice a1 n1 c1, .slice a2 n2 c2, .slice a3 n3 c3, .slice a4 n4 c4], 32), (gL, #[.slice a2 n2 c2, .slice a3 n3 c3], 80)] (g4 66 9 9 68) (g4 2 1 1 3) (g4 n1 n2 n3 n4) mkG (g4 x1 (strV S) x3 x4) (upd (aK (g4 n1 n2 n3 n4) k) (k + 1) i))) (fun iv _ => m - (intOf iv).toNat)
      case atStart => exact ⟨0, Nat.zero_le _, rfl, hide (by rw [aK_zero]; exact HX.out)⟩
      case round =>
        obtain ⟨i, hi, rfl, HY⟩ := hrel
        have q0 : wr.cell? ⟨gL, k, none⟩ = some (.slice ao m cp) := cell_of (HY.out.b (gL, #[.slice a2 n2 c2, .slice a3 n3 c3], 80) (by simp)) HK.out.2.2.1
        have i2 : (0 : Int) ≤ (i : Int) := by omega
        by_cases hil : i < m
        · have i3 : (i : Int) < (m : Int) := by omega
          obtain ⟨g, rfl, hcs⟩ := HY.out.cell (k + 1) (by omega) HK.out.1 HK.out.2.1 HK.out.2.2.2 i (by omega)
          obtain ⟨⟨u, q1⟩, f1⟩ := hcs i (by omega)
          clear hcs
          obtain ⟨z1, z2, z3, z4⟩ := mk_nums i (by omega)
          go_upto_region 9 with fail
          have hcv := conv3d (wr.alloc (.cells #[.int .u8 (97 + (k : Int)), .int .u8 ((i : Int) / 256 % 256), .int .u8 ((i : Int) % 256)] 5)).drew wr.heap.size (97 + k) i (by omega) (97 + (k : Int)) (by omega) (World.alloc_heap_new wr _)
          have p0 := alloc_cell (o := .cells #[.int .u8 (97 + (k : Int)), .int .u8 ((i : Int) / 256 % 256), .int .u8 ((i : Int) % 256)] 5) q0
          obtain ⟨p1, p2⟩ := alloc_cell2 (o := .cells #[.int .u8 (97 + (k : Int)), .int .u8 ((i : Int) / 256 % 256), .int .u8 ((i : Int) % 256)] 5) q1 f1
          go_region
          go_wp2
          go_roundw
          case rel =>
            refine ⟨i + 1, by omega, by go_num, hide ?_⟩
            exact (Gf.puti HG.out.1 (k + 1) i (HY.out.below ((Below.refl _ _).alloc (Nat.le_refl _) _)) (by omega) HK.out.1 HK.out.2.1 _ (mkG_k k i hlt)).below (Below.refl _ _).drew
          case measure => simp [intOf]; omega
        · obtain rfl : i = m := by omega
          have i3 : ¬ (i : Int) < (i : Int) := by omega
          go_wp2
          go_roundw
          case rel => exact ⟨k + 1, by omega, by go_num, hide (by have q := HY.out; rw [← HK.out.2.1, aK_next] at q; exact q)⟩
          case measure => simp [intOf]; omega
    · obtain rfl : k = 2 := by omega
      have i1 : ¬ ((2 : Nat) : Int) < 2 := by omega
      have HX2 : Hid (Gf w wo 4 (g4 (Value.slice a1 n1 c1) (.slice a2 n2 c2) (.slice a3 n3 c3) (.slice a4 n4 c4)) [(w.heap.size, #[.string ti, .slice a1 n1 c1, .slice a2 n2 c2, .slice a3 n3 c3, .slice a4 n4 c4], 32), (gL, #[.slice a2 n2 c2, .slice a3 n3 c3], 80)] (g4 66 9 9 68) (g4 2 1 1 3) (g4 n1 n2 n3 n4) mkG (g4 x1 (strV S) x3 x4) (upd (aK (g4 n1 n2 n3 n4) 2) 0 (0 * 2))) := hide (by rw [upd_self]; exact HX.out; rfl)
      clear HX
      go_wp2
      go_loopw [7] (fun iv wr => ∃ i : Nat, i ≤ n1 ∧ iv = .int .i64 i ∧ Hid (Gf w wr 4 (g4 (Value.slice a1 n1 c1) (.slice a2 n2 c2) (.slice a3 n3 c3) (.slice a4 n4 c4)) [(w.heap.size, #[.string ti, .slice a1 n1 c1, .slice a2 n2 c2, .slice a3 n3 c3, .slice a4 n4 c4], 32), (gL, #[.slice a2 n2 c2, .slice a3 n3 c3], 80)] (g4 66 9 9 68) (g4 2 1 1 3) (g4 n1 n2 n3 n4) mkG (g4 x1 (strV S) x3 x4) (upd (aK (g4 n1 n2 n3 n4) 2) 0 (i * 2)))) (fun iv _ => n1 - (intOf iv).toNat)
      case atStart => exact ⟨0, Nat.zero_le _, rfl, HX2⟩
      case round =>
        obtain ⟨i, hi, rfl, HY⟩ := hrel
        have q0 : wr.cell? ⟨w.heap.size, 1, none⟩ = some (.slice a1 n1 c1) := cell_of (HY.out.b (w.heap.size, #[.string ti, .slice a1 n1 c1, .slice a2 n2 c2, .slice a3 n3 c3, .slice a4 n4 c4], 32) (by simp)) rfl
        have i2 : (0 : Int) ≤ (i : Int) := by omega
        by_cases hil : i < n1
        · have i3 : (i : Int) < (n1 : Int) := by omega
          obtain ⟨g, rfl, hcs⟩ := HY.out.cell 0 (by omega) (z := 2) rfl rfl rfl (i * 2) (by omega)
          obtain ⟨⟨u, q1⟩, f1⟩ := hcs (i * 2) (by omega)
          obtain ⟨⟨u', q2⟩, f2⟩ := hcs (i * 2 + 1) (by omega)
          clear hcs
          go_wp2
          go_roundw
          case rel =>
            refine ⟨i + 1, by omega, by go_num, hide ?_⟩
            rw [show (i + 1) * 2 = i * 2 + 1 + 1 by omega]
            exact Gf.puti HG.out.1 0 (i * 2 + 1) (Gf.puti HG.out.1 0 (i * 2) HY.out (by omega) rfl rfl _ (mkG_0 i).1) (by omega) rfl rfl _ (mkG_0 i).2
          case measure => simp [intOf]; omega
        · obtain rfl : n1 = i := by omega
          have i3 : ¬ (n1 : Int) < (n1 : Int) := by omega
          obtain ⟨wp, rfl⟩ : ∃ z, z = wr := ⟨_, rfl⟩
          have HX3 : Hid (Gf w wp 4 (g4 (Value.slice a1 n1 c1) (.slice a2 n2 c2) (.slice a3 n3 c3) (.slice a4 n4 c4)) [(w.heap.size, #[.string ti, .slice a1 n1 c1, .slice a2 n2 c2, .slice a3 n3 c3, .slice a4 n4 c4], 32), (gL, #[.slice a2 n2 c2, .slice a3 n3 c3], 80)] (g4 66 9 9 68) (g4 2 1 1 3) (g4 n1 n2 n3 n4) mkG (g4 x1 (strV S) x3 x4) (upd (upd (aK (g4 n1 n2 n3 n4) 2) 0 (n1 * 2)) 3 (0 * 3))) := hide (by rw [upd_self (upd (aK (g4 n1 n2 n3 n4) 2) 0 (n1 * 2)) 3 (0 * 3) rfl]; exact HY.out)
          clear HY HX2
          go_wp2
          go_loopw [8] (fun iv wr => ∃ i : Nat, i ≤ n4 ∧ iv = .int .i64 i ∧ Hid (Gf w wr 4 (g4 (Value.slice a1 n1 c1) (.slice a2 n2 c2) (.slice a3 n3 c3) (.slice a4 n4 c4)) [(w.heap.size, #[.string ti, .slice a1 n1 c1, .slice a2 n2 c2, .slice a3 n3 c3, .slice a4 n4 c4], 32), (gL, #[.slice a2 n2 c2, .slice a3 n3 c3], 80)] (g4 66 9 9 68) (g4 2 1 1 3) (g4 n1 n2 n3 n4) mkG (g4 x1 (strV S) x3 x4) (upd (upd (aK (g4 n1 n2 n3 n4) 2) 0 (n1 * 2)) 3 (i * 3)))) (fun iv _ => n4 - (intOf iv).toNat)
          case atStart => exact ⟨0, Nat.zero_le _, rfl, HX3⟩
          case round =>
            obtain ⟨i, hi, rfl, HY⟩ := hrel
            have q0 : wr.cell? ⟨w.heap.size, 4, none⟩ = some (.slice a4 n4 c4) := cell_of (HY.out.b (w.heap.size, #[.string ti, .slice a1 n1 c1, .slice a2 n2 c2, .slice a3 n3 c3, .slice a4 n4 c4], 32) (by simp)) rfl
            have i2 : (0 : Int) ≤ (i : Int) := by omega
            by_cases hil : i < n4
            · have i3 : (i : Int) < (n4 : Int) := by omega
              obtain ⟨g, rfl, hcs⟩ := HY.out.cell 3 (by omega) (z := 3) rfl rfl rfl (i * 3) (by omega)
              obtain ⟨⟨u, q1⟩, f1⟩ := hcs (i * 3) (by omega)
              obtain ⟨⟨u', q2⟩, f2⟩ := hcs (i * 3 + 1) (by omega)
              obtain ⟨⟨u'', q3⟩, f3⟩ := hcs (i * 3 + 2) (by omega)
              clear hcs
              obtain ⟨z1, z2, z3, z4⟩ := mk_nums i (by omega)
              have hcv := conv3d (wr.alloc (.cells #[.int .u8 114, .int .u8 ((i : Int) / 256 % 256), .int .u8 ((i : Int) % 256)] 5)) wr.heap.size 114 i (by omega) 114 rfl (World.alloc_heap_new wr _)
              obtain ⟨p1, p2⟩ := alloc_cell3 (o := .cells #[.int .u8 114, .int .u8 ((i : Int) / 256 % 256), .int .u8 ((i : Int) % 256)] 5) q1 f1
              obtain ⟨p3, p4⟩ := alloc_cell3 (o := .cells #[.int .u8 114, .int .u8 ((i : Int) / 256 % 256), .int .u8 ((i : Int) % 256)] 5) q2 f2
              obtain ⟨p5, p6⟩ := alloc_cell3 (o := .cells #[.int .u8 114, .int .u8 ((i : Int) / 256 % 256), .int .u8 ((i : Int) % 256)] 5) q3 f3
              go_wp2
              go_roundw
              case rel =>
                refine ⟨i + 1, by omega, by go_num, hide ?_⟩
                rw [show (i + 1) * 3 = i * 3 + 1 + 1 + 1 by omega]
                exact Gf.puti HG.out.1 3 (i * 3 + 1 + 1) (Gf.puti HG.out.1 3 (i * 3 + 1) (Gf.puti HG.out.1 3 (i * 3) (HY.out.below ((Below.refl _ _).alloc (Nat.le_refl _) _)) (by omega) rfl rfl _ (mkG_3 i).1) (by omega) rfl rfl _ (mkG_3 i).2.1) (by omega) rfl rfl _ (mkG_3 i).2.2
              case measure => simp [intOf]; omega
            · obtain rfl : n4 = i := by omega
              have i3 : ¬ (n4 : Int) < (n4 : Int) := by omega
              obtain ⟨wq, rfl⟩ : ∃ z, z = wr := ⟨_, rfl⟩
              have HF := hide (Gf.full (z := fun r => (g4 n1 n2 n3 n4) r * (g4 2 1 1 3) r) HY.out (fun r hr => by
                match r, hr with
                | 0, _ => exact ⟨hO.out.1.1, Nat.le_refl _⟩
                | 1, _ => exact ⟨hO.out.2.1.1, Nat.le_of_eq (Nat.mul_one _)⟩
                | 2, _ => exact ⟨hO.out.2.2.1.1, Nat.le_of_eq (Nat.mul_one _)⟩
                | 3, _ => exact ⟨hO.out.2.2.2.1, Nat.le_refl _⟩))
              clear HY HX3
              go_wp2
              go_loopw [9, 10] (fun nv kv wr => ∃ k : Nat, k ≤ 2 ∧ nv = .int .i64 ((64 * k : Nat) : Int) ∧ kv = .int .i64 k ∧ Hid (Gg w wr 4 (g4 (Value.slice a1 n1 c1) (.slice a2 n2 c2) (.slice a3 n3 c3) (.slice a4 n4 c4)) [(w.heap.size, #[.string ti, .slice a1 n1 c1, .slice a2 n2 c2, .slice a3 n3 c3, .slice a4 n4 c4], 32), (gL, #[.slice a2 n2 c2, .slice a3 n3 c3], 80)] (fun i => (List.range ((g4 n1 n2 n3 n4) i * (g4 2 1 1 3) i)).map (mkG i)) ∧ ∀ r, r < 4 → (r = 0 ∨ r = 3 ∨ k < r) → wr.ownsRow 0 ((g4 66 9 9 68) r) ((g4 2 1 1 3) r) ((g4 (Value.slice a1 n1 c1) (.slice a2 n2 c2) (.slice a3 n3 c3) (.slice a4 n4 c4)) r) ((g4 n1 n2 n3 n4) r) ((List.range ((g4 n1 n2 n3 n4) r * (g4 2 1 1 3) r)).map (mkG r)))) (fun _ kv _ => 2 - (intOf kv).toNat)
              case atStart => exact ⟨0, Nat.zero_le _, rfl, rfl, hide ⟨HF.out.1, fun r hr _ => HF.out.2 r hr⟩⟩
              case round =>
                obtain ⟨k, hk, rfl, rfl, HX⟩ := hrel
                obtain ⟨ws, rfl⟩ : ∃ z, z = wr := ⟨_, rfl⟩
                clear HF
                by_cases hlt : k < 2
                · have i1 : (k : Int) < 2 := by omega
                  have i0 : (0 : Int) ≤ (k : Int) := by omega
                  obtain ⟨ao, m, cp, hm, hkv, hkn, hkc, hkz, hke⟩ : ∃ ao m cp, m ≤ 1048576 ∧ (g4 (Value.slice a1 n1 c1) (.slice a2 n2 c2) (.slice a3 n3 c3) (.slice a4 n4 c4)) (k + 1) = .slice ao m cp ∧ (g4 n1 n2 n3 n4) (k + 1) = m ∧ (#[Value.slice a2 n2 c2, .slice a3 n3 c3] : Array Value)[k]? = some (.slice ao m cp) ∧ (g4 2 1 1 3) (k + 1) = 1 ∧ (g4 66 9 9 68) (k + 1) = 9 := by
                    match k, hlt with
                    | 0, _ => exact ⟨a2, n2, c2, h2, rfl, rfl, rfl, rfl, rfl⟩
                    | 1, _ => exact ⟨a3, n3, c3, h3, rfl, rfl, rfl, rfl, rfl⟩
                  have HK := hide (And.intro hkv (And.intro hkn (And.intro hkc (And.intro hkz hke))))
                  clear hkv hkn hkc hkz hke
                  have q0 : ws.cell? ⟨gL, k, none⟩ = some (.slice ao m cp) := cell_of (HX.out.1.b (gL, #[.slice a2 n2 c2, .slice a3 n3 c3], 80) (by simp)) HK.out.2.2.1
                  have HZ := hide (Gx.zero' (w := w) (bx := [(w.heap.size, #[.string ti, .slice a1 n1 c1, .slice a2 n2 c2, .slice a3 n3 c3, .slice a4 n4 c4], 32), (gL, #[.slice a2 n2 c2, .slice a3 n3 c3], 80)]) (ys := [.string ⟨#[98, 101, 104, 105, 110, 100]⟩]) HK.out.1 (own_eq (HX.out.2 (k + 1) (by omega) (by omega)) HK.out.2.2.2.2 HK.out.2.2.2.1 HK.out.2.1))
                  go_wp2
                  go_loopw [11, 12] (fun mv jv wr => ∃ j av cv, j ≤ 64 ∧ mv = .slice av (m + j) cv ∧ jv = .int .i64 (j : Nat) ∧ Hid (Gg w wr 4 (g4 (Value.slice a1 n1 c1) (.slice a2 n2 c2) (.slice a3 n3 c3) (.slice a4 n4 c4)) [(w.heap.size, #[.string ti, .slice a1 n1 c1, .slice a2 n2 c2, .slice a3 n3 c3, .slice a4 n4 c4], 32), (gL, #[.slice a2 n2 c2, .slice a3 n3 c3], 80)] (fun i => (List.range ((g4 n1 n2 n3 n4) i * (g4 2 1 1 3) i)).map (mkG i)) ∧ Gx w wr ((g4 (Value.slice a1 n1 c1) (.slice a2 n2 c2) (.slice a3 n3 c3) (.slice a4 n4 c4)) (k + 1)) [(w.heap.size, #[.string ti, .slice a1 n1 c1, .slice a2 n2 c2, .slice a3 n3 c3, .slice a4 n4 c4], 32), (gL, #[.slice a2 n2 c2, .slice a3 n3 c3], 80)] 9 1 m ((List.range ((g4 n1 n2 n3 n4) (k + 1) * (g4 2 1 1 3) (k + 1))).map (mkG (k + 1))) [.string ⟨#[98, 101, 104, 105, 110, 100]⟩] (.slice av (m + j) cv) j ∧ ∀ r, r < 4 → (r = 0 ∨ r = 3 ∨ k + 1 < r) → wr.ownsRow 0 ((g4 66 9 9 68) r) ((g4 2 1 1 3) r) ((g4 (Value.slice a1 n1 c1) (.slice a2 n2 c2) (.slice a3 n3 c3) (.slice a4 n4 c4)) r) ((g4 n1 n2 n3 n4) r) ((List.range ((g4 n1 n2 n3 n4) r * (g4 2 1 1 3) r)).map (mkG r)))) (fun _ jv _ => 64 - (intOf jv).toNat)
                  case atStart => exact ⟨0, ao, cp, Nat.zero_le _, rfl, rfl, hide ⟨HX.out.1, HZ.out, fun r hr hc => HX.out.2 r hr (by omega)⟩⟩
                  case round =>
                    obtain ⟨j, av, cv, hj, rfl, rfl, HY⟩ := hrel
                    by_cases hjl : j < 64
                    · have i2 : (j : Int) < 64 := by omega
                      have dA : Below wr.heap.size wr (wr.alloc (.cells #[.string ⟨#[98, 101, 104, 105, 110, 100]⟩] 9)) := (Below.refl _ _).alloc (Nat.le_refl _) _
                      have HA := hide (And.intro (HY.out.1.below dA) (And.intro (HY.out.2.1.below dA) fun r hr hc => owns_below (HY.out.2.2 r hr hc) dA))
                      clear dA
                      go_wp2_with (at_builtin; refine wpList_gx Tryz.underlying26 hi9 hz90 hz91 hz92 rfl (by omega) (by omega) HG.out.1 HA.out.1 (k + 1) (by omega) HA.out.2.1 rfl _ _ rfl rfl ⟨wr.heap.size, 0, none⟩ rfl rfl (cnewL wr [.string ⟨#[98, 101, 104, 105, 110, 100]⟩] 9) (fun u hu => by rw [List.mem_singleton.1 hu]; rfl) (by omega) ?_)
                      intro gv cw w9 H9
                      go_wp2
                      go_roundw
                      case rel =>
                        repeat apply Exists.intro
                        refine ⟨?rel2, rfl⟩
                        exact ⟨j + 1, some ⟨gv, 0, none⟩, cw, by omega, rfl, by go_num, hide ⟨H9.out.2.1, H9.out.1, fun r hr hc => H9.out.2.2.2 r hr (by omega) _ _ _ _ _ (HA.out.2.2 r hr hc)⟩⟩
                      case measure => simp [intOf]; omega
                    · obtain rfl : j = 64 := by omega
                      have i2 : ¬ ((64 : Nat) : Int) < 64 := by omega
                      have q5 : wr.cell? ⟨gL, k, none⟩ = some (.slice ao m cp) := cell_of (HY.out.1.b (gL, #[.slice a2 n2 c2, .slice a3 n3 c3], 80) (by simp)) HK.out.2.2.1
                      go_wp2
                      go_roundw
                      case rel => exact ⟨k + 1, by omega, by go_num, by go_num, hide ⟨HY.out.1, fun r hr hc => HY.out.2.2 r hr (by omega)⟩⟩
                      case measure => simp [intOf]; omega
                · obtain rfl : k = 2 := by omega
                  have i1 : ¬ ((2 : Nat) : Int) < 2 := by omega
                  have b1 : ws.cell? ⟨w.heap.size, 1, none⟩ = some (.slice a1 n1 c1) := cell_of (HX.out.1.b (w.heap.size, #[.string ti, .slice a1 n1 c1, .slice a2 n2 c2, .slice a3 n3 c3, .slice a4 n4 c4], 32) (by simp)) rfl
                  have b4 : ws.cell? ⟨w.heap.size, 4, none⟩ = some (.slice a4 n4 c4) := cell_of (HX.out.1.b (w.heap.size, #[.string ti, .slice a1 n1 c1, .slice a2 n2 c2, .slice a3 n3 c3, .slice a4 n4 c4], 32) (by simp)) rfl
                  have HZ := hide (And.intro (Gx.zero (w := w) (bx := [(w.heap.size, #[.string ti, .slice a1 n1 c1, .slice a2 n2 c2, .slice a3 n3 c3, .slice a4 n4 c4], 32), (gL, #[.slice a2 n2 c2, .slice a3 n3 c3], 80)]) (ys := [.string ⟨#[]⟩, .int .i64 (-1)]) (HX.out.2 0 (by omega) (by omega))) (Gx.zero (w := w) (bx := [(w.heap.size, #[.string ti, .slice a1 n1 c1, .slice a2 n2 c2, .slice a3 n3 c3, .slice a4 n4 c4], 32), (gL, #[.slice a2 n2 c2, .slice a3 n3 c3], 80)]) (ys := [.string ⟨#[98, 101, 104, 105, 110, 100]⟩, .string ⟨#[]⟩, .string ⟨#[]⟩]) (HX.out.2 3 (by omega) (by omega))))
                  go_wp2
                  go_loopw [13, 14, 15] (fun ov rv jv wr => ∃ j a5 c5 a6 c6, j ≤ 64 ∧ ov = .slice a5 (n1 + j) c5 ∧ rv = .slice a6 (n4 + j) c6 ∧ jv = .int .i64 (j : Nat) ∧ Hid (Gg w wr 4 (g4 (Value.slice a1 n1 c1) (.slice a2 n2 c2) (.slice a3 n3 c3) (.slice a4 n4 c4)) [(w.heap.size, #[.string ti, .slice a1 n1 c1, .slice a2 n2 c2, .slice a3 n3 c3, .slice a4 n4 c4], 32), (gL, #[.slice a2 n2 c2, .slice a3 n3 c3], 80)] (fun i => (List.range ((g4 n1 n2 n3 n4) i * (g4 2 1 1 3) i)).map (mkG i)) ∧ Gx w wr (.slice a1 n1 c1) [(w.heap.size, #[.string ti, .slice a1 n1 c1, .slice a2 n2 c2, .slice a3 n3 c3, .slice a4 n4 c4], 32), (gL, #[.slice a2 n2 c2, .slice a3 n3 c3], 80)] 66 2 n1 ((List.range (n1 * 2)).map (mkG 0)) [.string ⟨#[]⟩, .int .i64 (-1)] (.slice a5 (n1 + j) c5) j ∧ Gx w wr (.slice a4 n4 c4) [(w.heap.size, #[.string ti, .slice a1 n1 c1, .slice a2 n2 c2, .slice a3 n3 c3, .slice a4 n4 c4], 32), (gL, #[.slice a2 n2 c2, .slice a3 n3 c3], 80)] 68 3 n4 ((List.range (n4 * 3)).map (mkG 3)) [.string ⟨#[98, 101, 104, 105, 110, 100]⟩, .string ⟨#[]⟩, .string ⟨#[]⟩] (.slice a6 (n4 + j) c6) j)) (fun _ _ jv _ => 64 - (intOf jv).toNat)
                  case atStart => exact ⟨0, a1, c1, a4, c4, Nat.zero_le _, rfl, rfl, rfl, hide ⟨HX.out.1, HZ.out.1, HZ.out.2⟩⟩
                  case round =>
                    obtain ⟨j, a5, c5, a6, c6, hj, rfl, rfl, rfl, HY⟩ := hrel
                    clear HZ HX
                    by_cases hjl : j < 64
                    · have i2 : (j : Int) < 64 := by omega
                      have dA : Below wr.heap.size wr (wr.alloc (.cells #[.string ⟨#[]⟩, .int .i64 (-1)] 66)) := (Below.refl _ _).alloc (Nat.le_refl _) _
                      have HA := hide (And.intro (HY.out.1.below dA) (And.intro (HY.out.2.1.below dA) (HY.out.2.2.below dA)))
                      clear dA
                      go_wp2_with (at_builtin; refine wpList_gx Tryz.underlying29 hi5 hz50 hz51 hz52 rfl (by omega) (by omega) HG.out.1 HA.out.1 0 (by omega) HA.out.2.1 rfl _ _ rfl rfl ⟨wr.heap.size, 0, none⟩ rfl rfl (cnewL wr [.string ⟨#[]⟩, .int .i64 (-1)] 66) (fun u hu => by rcases List.mem_cons.1 hu with rfl | hu; rfl; rw [List.mem_singleton.1 hu]; rfl) (by omega) ?_)
                      intro gv cw w9 H9
                      have dB : Below w9.heap.size w9 (w9.alloc (.cells #[.string ⟨#[98, 101, 104, 105, 110, 100]⟩, .string ⟨#[]⟩, .string ⟨#[]⟩] 68)) := (Below.refl _ _).alloc (Nat.le_refl _) _
                      have HB := hide (And.intro (H9.out.2.1.below dB) (And.intro (H9.out.1.below dB) ((HA.out.2.2.only H9.out.2.2.1 fun k q q' => tag_ne2 HA.out.2.2.o HA.out.2.1.o (by decide) q q').below dB)))
                      clear dB
                      go_wp2_with (at_builtin; refine wpList_gx Tryz.underlying30 hi8 hz80 hz81 hz82 rfl (by omega) (by omega) HG.out.1 HB.out.1 3 (by omega) HB.out.2.2 rfl _ _ rfl rfl ⟨w9.heap.size, 0, none⟩ rfl rfl (cnewL w9 [.string ⟨#[98, 101, 104, 105, 110, 100]⟩, .string ⟨#[]⟩, .string ⟨#[]⟩] 68) (fun u hu => by rcases List.mem_cons.1 hu with rfl | hu; rfl; rcases List.mem_cons.1 hu with rfl | hu; rfl; rw [List.mem_singleton.1 hu]; rfl) (by omega) ?_)
                      intro gu cu w8 H8
                      have HC := hide (And.intro H8.out.2.1 (And.intro (HB.out.2.1.only H8.out.2.2.1 fun k q q' => tag_ne2 HB.out.2.1.o HB.out.2.2.o (by decide) q q') H8.out.1))
                      go_wp2
                      go_roundw
                      case rel =>
                        exact ⟨j + 1, some ⟨gv, 0, none⟩, cw, some ⟨gu, 0, none⟩, cu, by omega, rfl, rfl, by go_num, HC⟩
                      case measure => simp [intOf]; omega
                    · obtain rfl : j = 64 := by omega
                      have i2 : ¬ ((64 : Nat) : Int) < 64 := by omega
                      obtain ⟨wt, rfl⟩ : ∃ z, z = wr := ⟨_, rfl⟩
                      have HZ := hide HY.out.1
                      have b1 : wt.cell? ⟨w.heap.size, 1, none⟩ = some (.slice a1 n1 c1) := cell_of (HZ.out.b (w.heap.size, #[.string ti, .slice a1 n1 c1, .slice a2 n2 c2, .slice a3 n3 c3, .slice a4 n4 c4], 32) (by simp)) rfl
                      have b4 : wt.cell? ⟨w.heap.size, 4, none⟩ = some (.slice a4 n4 c4) := cell_of (HZ.out.b (w.heap.size, #[.string ti, .slice a1 n1 c1, .slice a2 n2 c2, .slice a3 n3 c3, .slice a4 n4 c4], 32) (by simp)) rfl
                      clear HY
                      go_wp2
                      go_loopw [16] (fun kv wr => ∃ k : Nat, k ≤ 2 ∧ kv = .int .i64 k ∧ Hid (Gg w wr 4 (g4 (Value.slice a1 n1 c1) (.slice a2 n2 c2) (.slice a3 n3 c3) (.slice a4 n4 c4)) [(w.heap.size, #[.string ti, .slice a1 n1 c1, .slice a2 n2 c2, .slice a3 n3 c3, .slice a4 n4 c4], 32), (gL, #[.slice a2 n2 c2, .slice a3 n3 c3], 80)] (fun i => (List.range ((g4 n1 n2 n3 n4) i * (g4 2 1 1 3) i)).map (mkG i)))) (fun kv _ => 2 - (intOf kv).toNat)
                      case atStart => exact ⟨0, Nat.zero_le _, rfl, HZ⟩
                      case round =>
                        obtain ⟨k, hk, rfl, HX⟩ := hrel
                        obtain ⟨wu, rfl⟩ : ∃ z, z = wr := ⟨_, rfl⟩
                        clear HZ
                        by_cases hlt : k < 2
                        · have i1 : (k : Int) < 2 := by omega
                          have i0 : (0 : Int) ≤ (k : Int) := by omega
                          obtain ⟨ao, m, cp, hm, hkv, hkn, hkc, hkz, hkf⟩ : ∃ ao m cp, m ≤ 1048576 ∧ (g4 (Value.slice a1 n1 c1) (.slice a2 n2 c2) (.slice a3 n3 c3) (.slice a4 n4 c4)) (k + 1) = .slice ao m cp ∧ (g4 n1 n2 n3 n4) (k + 1) = m ∧ (#[Value.slice a2 n2 c2, .slice a3 n3 c3] : Array Value)[k]? = some (.slice ao m cp) ∧ (g4 2 1 1 3) (k + 1) = 1 ∧ (0 < m → ∃ g, ao = some ⟨g, 0, none⟩) := by
                            match k, hlt with
                            | 0, _ => exact ⟨a2, n2, c2, h2, rfl, rfl, rfl, rfl, fun hp => by obtain ⟨g, cp, e, _⟩ := hO.out.2.1.form hp; cases e; exact ⟨g, rfl⟩⟩
                            | 1, _ => exact ⟨a3, n3, c3, h3, rfl, rfl, rfl, rfl, fun hp => by obtain ⟨g, cp, e, _⟩ := hO.out.2.2.1.form hp; cases e; exact ⟨g, rfl⟩⟩
                          have HK := hide (And.intro hkv (And.intro hkn (And.intro hkc (And.intro hkz hkf))))
                          clear hkv hkn hkc hkz hkf
                          go_wp2
                          go_loopw [17] (fun iv wr => ∃ i : Nat, i ≤ m ∧ iv = .int .i64 i ∧ Hid (Gg w wr 4 (g4 (Value.slice a1 n1 c1) (.slice a2 n2 c2) (.slice a3 n3 c3) (.slice a4 n4 c4)) [(w.heap.size, #[.string ti, .slice a1 n1 c1, .slice a2 n2 c2, .slice a3 n3 c3, .slice a4 n4 c4], 32), (gL, #[.slice a2 n2 c2, .slice a3 n3 c3], 80)] (fun i => (List.range ((g4 n1 n2 n3 n4) i * (g4 2 1 1 3) i)).map (mkG i)))) (fun iv _ => m - (intOf iv).toNat)
                          case atStart => exact ⟨0, Nat.zero_le _, rfl, HX⟩
                          case round =>
                            obtain ⟨i, hi, rfl, HY⟩ := hrel
                            have q0 : wr.cell? ⟨gL, k, none⟩ = some (.slice ao m cp) := cell_of (HY.out.b (gL, #[.slice a2 n2 c2, .slice a3 n3 c3], 80) (by simp)) HK.out.2.2.1
                            have i2 : (0 : Int) ≤ (i : Int) := by omega
                            by_cases hil : i < m
                            · have i3 : (i : Int) < (m : Int) := by omega
                              obtain ⟨g, rfl⟩ := HK.out.2.2.2.2 (by omega)
                              have q1 : wr.cell? ⟨g, i, none⟩ = some (.string (mk3 (97 + k) i)) := by
                                have := HY.out.r (k + 1) (by omega) g (by rw [HK.out.1]; rfl) i (by simp only [List.length_map, List.length_range, HK.out.2.1, HK.out.2.2.2.1]; omega)
                                rw [this]
                                simp only [List.getElem_map, List.getElem_range, mkG_k k i hlt]
                              obtain ⟨z1, z2, z3, z4⟩ := mk_nums i (by omega)
                              go_upto_region 42 with fail
                              have hcv := conv3d (wr.alloc (.cells #[.int .u8 (97 + (k : Int)), .int .u8 ((i : Int) / 256 % 256), .int .u8 ((i : Int) % 256)] 5)).drew wr.heap.size (97 + k) i (by omega) (97 + (k : Int)) (by omega) (World.alloc_heap_new wr _)
                              have p0 := alloc_cell (o := .cells #[.int .u8 (97 + (k : Int)), .int .u8 ((i : Int) / 256 % 256), .int .u8 ((i : Int) % 256)] 5) q0
                              have p1 := alloc_cell (o := .cells #[.int .u8 (97 + (k : Int)), .int .u8 ((i : Int) / 256 % 256), .int .u8 ((i : Int) % 256)] 5) q1
                              go_region
                              go_wp2
                              go_roundw
                              case rel => exact ⟨i + 1, by omega, by go_num, hide (HY.out.below ((Below.refl _ _).alloc (Nat.le_refl _) _).drew)⟩
                              case measure => simp [intOf]; omega
                            · obtain rfl : i = m := by omega
                              have i3 : ¬ (i : Int) < (i : Int) := by omega
                              go_wp2
                              go_roundw
                              case rel => exact ⟨k + 1, by omega, by go_num, HY⟩
                              case measure => simp [intOf]; omega
                        · obtain rfl : k = 2 := by omega
                          have i1 : ¬ ((2 : Nat) : Int) < 2 := by omega
                          go_wp2
                          go_loopw [18] (fun iv wr => ∃ i : Nat, i ≤ n1 ∧ iv = .int .i64 i ∧ Hid (Gg w wr 4 (g4 (Value.slice a1 n1 c1) (.slice a2 n2 c2) (.slice a3 n3 c3) (.slice a4 n4 c4)) [(w.heap.size, #[.string ti, .slice a1 n1 c1, .slice a2 n2 c2, .slice a3 n3 c3, .slice a4 n4 c4], 32), (gL, #[.slice a2 n2 c2, .slice a3 n3 c3], 80)] (fun i => (List.range ((g4 n1 n2 n3 n4) i * (g4 2 1 1 3) i)).map (mkG i)))) (fun iv _ => n1 - (intOf iv).toNat)
                          case atStart => exact ⟨0, Nat.zero_le _, rfl, HX⟩
                          case round =>
                            obtain ⟨i, hi, rfl, HY⟩ := hrel
                            have q0 : wr.cell? ⟨w.heap.size, 1, none⟩ = some (.slice a1 n1 c1) := cell_of (HY.out.b (w.heap.size, #[.string ti, .slice a1 n1 c1, .slice a2 n2 c2, .slice a3 n3 c3, .slice a4 n4 c4], 32) (by simp)) rfl
                            have i2 : (0 : Int) ≤ (i : Int) := by omega
                            by_cases hil : i < n1
                            · have i3 : (i : Int) < (n1 : Int) := by omega
                              obtain ⟨g, cp, eg, _⟩ := hO.out.1.form (by omega)
                              cases eg
                              have q1 : wr.cell? ⟨g, i * 2 + 1, none⟩ = some (.int .i64 (1000 + (i : Int))) := by
                                have := HY.out.r 0 (by omega) g rfl (i * 2 + 1) (by simp only [List.length_map, List.length_range, g4]; omega)
                                rw [this]
                                simp only [List.getElem_map, List.getElem_range, (mkG_0 i).2]
                              go_wp2
                              go_roundw
                              case rel => exact ⟨i + 1, by omega, by go_num, HY⟩
                              case measure => simp [intOf]; omega
                            · obtain rfl : n1 = i := by omega
                              have i3 : ¬ (n1 : Int) < (n1 : Int) := by omega
                              obtain ⟨wv, rfl⟩ : ∃ z, z = wr := ⟨_, rfl⟩
                              clear HX
                              go_wp2
                              go_loopw [19] (fun iv wr => ∃ i : Nat, i ≤ n4 ∧ iv = .int .i64 i ∧ Hid (Gg w wr 4 (g4 (Value.slice a1 n1 c1) (.slice a2 n2 c2) (.slice a3 n3 c3) (.slice a4 n4 c4)) [(w.heap.size, #[.string ti, .slice a1 n1 c1, .slice a2 n2 c2, .slice a3 n3 c3, .slice a4 n4 c4], 32), (gL, #[.slice a2 n2 c2, .slice a3 n3 c3], 80)] (fun i => (List.range ((g4 n1 n2 n3 n4) i * (g4 2 1 1 3) i)).map (mkG i)))) (fun iv _ => n4 - (intOf iv).toNat)
                              case atStart => exact ⟨0, Nat.zero_le _, rfl, HY⟩
                              case round =>
                                clear HY
                                obtain ⟨i, hi, rfl, HY⟩ := hrel
                                have q0 : wr.cell? ⟨w.heap.size, 4, none⟩ = some (.slice a4 n4 c4) := cell_of (HY.out.b (w.heap.size, #[.string ti, .slice a1 n1 c1, .slice a2 n2 c2, .slice a3 n3 c3, .slice a4 n4 c4], 32) (by simp)) rfl
                                have i2 : (0 : Int) ≤ (i : Int) := by omega
                                by_cases hil : i < n4
                                · have i3 : (i : Int) < (n4 : Int) := by omega
                                  obtain ⟨g, cp, eg, _⟩ := hO.out.2.2.2.form (by omega)
                                  cases eg
                                  have q1 : wr.cell? ⟨g, i * 3, none⟩ = some (.string (mk3 114 i)) := by
                                    have := HY.out.r 3 (by omega) g rfl (i * 3) (by simp only [List.length_map, List.length_range, g4]; omega)
                                    rw [this]
                                    simp only [List.getElem_map, List.getElem_range, (mkG_3 i).1]
                                  obtain ⟨z1, z2, z3, z4⟩ := mk_nums i (by omega)
                                  go_upto_region 52 with fail
                                  have hcv := conv3d (wr.alloc (.cells #[.int .u8 114, .int .u8 ((i : Int) / 256 % 256), .int .u8 ((i : Int) % 256)] 5)).drew wr.heap.size 114 i (by omega) 114 rfl (World.alloc_heap_new wr _)
                                  have p0 := alloc_cell (o := .cells #[.int .u8 114, .int .u8 ((i : Int) / 256 % 256), .int .u8 ((i : Int) % 256)] 5) q0
                                  have p1 := alloc_cell (o := .cells #[.int .u8 114, .int .u8 ((i : Int) / 256 % 256), .int .u8 ((i : Int) % 256)] 5) q1
                                  go_region
                                  go_wp2
                                  go_roundw
                                  case rel => exact ⟨i + 1, by omega, by go_num, hide (HY.out.below ((Below.refl _ _).alloc (Nat.le_refl _) _).drew)⟩
                                  case measure => simp [intOf]; omega
                                · obtain rfl : n4 = i := by omega
                                  have i3 : ¬ (n4 : Int) < (n4 : Int) := by omega
                                  have q2 : wr.cell? ⟨w.heap.size, 2, none⟩ = some (.slice a2 n2 c2) := cell_of (HY.out.b (w.heap.size, #[.string ti, .slice a1 n1 c1, .slice a2 n2 c2, .slice a3 n3 c3, .slice a4 n4 c4], 32) (by simp)) rfl
                                  go_wp2
                                  go_ret
                                  exact ⟨rfl, HY.out.on⟩
end Go.Proofs.YtmagchclmmphaabGreatDoor
