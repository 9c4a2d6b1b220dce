import Derived.Test.YtfoahpideglghaaGreatDoorZN
import Derived.Test.YtfoahpideglghaaGreatDoorZG
namespace Go.Proofs.YtfoahpideglghaaGreatDoor
open Go.RowKit Go.Maps Go.Shelf
attribute [local go_sem] Oper.semAt_some

/-! ### The law's made -/
def g2 {α : Type} (p q : α) : Nat → α
  | 0 => p
  | _ => q
def mkE (_ j : Nat) : Value := if j % 3 = 0 then .int .i64 (-7) else .int .i64 0
theorem mkE_3 (r i : Nat) : mkE r (i * 3) = .int .i64 (-7) ∧ mkE r (i * 3 + 1) = .int .i64 0 ∧ mkE r (i * 3 + 2) = .int .i64 0 := by
  refine ⟨?_, ?_, ?_⟩ <;> simp [mkE, Nat.add_mod]
theorem Gf.put1 {w W : World} {v : Nat → Value} {bx : Bx} {e sz n : Nat → Nat} {mk : Nat → Nat → Value} {x : Nat → List Value} (s : Gst w 1 v bx) (c : Nat) (h : Gf w W 1 v bx e sz n mk x (fun _ => c)) {g cap m : Nat} (hv : v 0 = .slice (some ⟨g, 0, none⟩) m cap) (hm : n 0 = m) (u : Value) (hu : mk 0 c = u) : Gf w (W.setCell ⟨g, c, none⟩ u) 1 v bx e sz n mk x (fun _ => c + 1) := by
  have k := Gf.put s h 0 (by omega) hv hm u hu
  refine ⟨k.b, k.on, fun i hi => ?_⟩
  obtain rfl : i = 0 := by omega
  have t := k.r 0 hi
  rwa [upd_at] at t
set_option maxRecDepth 100000 in
set_option maxHeartbeats 8000000 in
theorem made_any (w : World) (n m : Int) (a1 a2 a3 b1 b2 b3 : Option Addr) (k1 k2 k3 l1 l2 l3 : Nat) (St Fi : List Int) (Ed : List EdT) (hA : Hid (OwnO 0 w (.slice a1 St.length k1) (.slice a2 Fi.length k2) (Value.slice a3 Ed.length k3) St Fi Ed)) (hB : Hid (RdA w b1 b2 b3 St Fi Ed))
    (h1 : St.length ≤ 4194000) (h2 : Fi.length ≤ 4194000) (h3 : Ed.length ≤ 4194000) :
    Calls Tryz.prog 33 #[.agg #[.int .i64 n, .int .i64 m, .slice a1 St.length k1, .slice a2 Fi.length k2, .slice a3 Ed.length k3], .agg #[.int .i64 n, .int .i64 m, .slice b1 St.length l1, .slice b2 Fi.length l2, .slice b3 Ed.length l3]] w fun e w' => e = .returned (.bool true) ∧ Only w w' (fun b => (Value.slice a1 St.length k1).ownBlock = some b ∨ (Value.slice a2 Fi.length k2).ownBlock = some b ∨ (Value.slice a3 Ed.length k3).ownBlock = some b) := by
  obtain ⟨i5, hi5, hz50, hz51, hz52⟩ := info_parts info59
  obtain ⟨W0, hW0⟩ : ∃ W0, (w.alloc (.cells #[.int .i64 n, .int .i64 m, .slice a1 St.length k1, .slice a2 Fi.length k2, .slice a3 Ed.length k3] 25)).alloc (.cells #[.int .i64 n, .int .i64 m, .slice b1 St.length l1, .slice b2 Fi.length l2, .slice b3 Ed.length l3] 25) = W0 := ⟨_, rfl⟩
  have HD := hide (box3 w #[.int .i64 n, .int .i64 m, .slice a1 St.length k1, .slice a2 Fi.length k2, .slice a3 Ed.length k3] #[.int .i64 n, .int .i64 m, .slice b1 St.length l1, .slice b2 Fi.length l2, .slice b3 Ed.length l3] 25 25)
  rw [hW0] at HD
  have TE : Hid (Calls Tryz.prog 25 #[.agg #[.int .i64 n, .int .i64 m, .slice a1 St.length k1, .slice a2 Fi.length k2, .slice a3 Ed.length k3], .agg #[.int .i64 n, .int .i64 m, .slice b1 St.length l1, .slice b2 Fi.length l2, .slice b3 Ed.length l3]] W0 fun e w' => e = .returned (.bool true) ∧ Below W0.heap.size W0 w') := hide (equal_yes W0 n m a1 a2 a3 b1 b2 b3 k1 k2 k3 l1 l2 l3 St Fi Ed (hide (hA.out.rd.on HD.out.1)) (hide (hB.out.on HD.out.1)) (by omega) (by omega) (by omega))
  have hS : Hid (Gst w 1 (fun _ => (Value.slice a3 Ed.length k3)) [(w.heap.size, #[.int .i64 n, .int .i64 m, .slice a1 St.length k1, .slice a2 Fi.length k2, .slice a3 Ed.length k3], 25)]) := hide ⟨fun i _ k q => (hA.out.e.lt k q).2, fun i j hi hj hij => by omega, fun q hq => by rw [List.mem_singleton.1 hq]; exact Nat.le_refl _⟩
  have y0 : W0.cell? ⟨w.heap.size, 0, none⟩ = some (.int .i64 n) := cell_of HD.out.2.1 rfl
  have y1 : W0.cell? ⟨w.heap.size, 1, none⟩ = some (.int .i64 m) := cell_of HD.out.2.1 rfl
  have y2 : W0.cell? ⟨w.heap.size, 2, none⟩ = some (.slice a1 St.length k1) := cell_of HD.out.2.1 rfl
  have y3 : W0.cell? ⟨w.heap.size, 3, none⟩ = some (.slice a2 Fi.length k2) := cell_of HD.out.2.1 rfl
  have y4 : W0.cell? ⟨w.heap.size, 4, none⟩ = some (Value.slice a3 Ed.length k3) := cell_of HD.out.2.1 rfl
  have z0 : W0.cell? ⟨w.heap.size + 1, 0, none⟩ = some (.int .i64 n) := cell_of HD.out.2.2.1 rfl
  have z1 : W0.cell? ⟨w.heap.size + 1, 1, none⟩ = some (.int .i64 m) := cell_of HD.out.2.2.1 rfl
  have z2 : W0.cell? ⟨w.heap.size + 1, 2, none⟩ = some (.slice b1 St.length l1) := cell_of HD.out.2.2.1 rfl
  have z3 : W0.cell? ⟨w.heap.size + 1, 3, none⟩ = some (.slice b2 Fi.length l2) := cell_of HD.out.2.2.1 rfl
  have z4 : W0.cell? ⟨w.heap.size + 1, 4, none⟩ = some (.slice b3 Ed.length l3) := cell_of HD.out.2.2.1 rfl
  go_enter Tryz.func33, Tryz.ntmps33
  go_wp2_with (go_at_call 25; refine TE.out.mono ?_; rintro e W1 ⟨rfl, d1⟩)
  have HF : Hid (Gf w W1 1 (fun _ => (Value.slice a3 Ed.length k3)) [(w.heap.size, #[.int .i64 n, .int .i64 m, .slice a1 St.length k1, .slice a2 Fi.length k2, .slice a3 Ed.length k3], 25)] (fun _ => 59) (fun _ => 3) (fun _ => Ed.length) mkE (fun _ => Ed.flatMap encE) (fun _ => 0 * 3)) := hide (by
    have d : Below w.heap.size w W1 := HD.out.1.trans (d1.mono HD.out.1.size)
    refine ⟨fun q hq => ?_, Only.ofBelow d, fun i hi => ?_⟩
    · rw [List.mem_singleton.1 hq]
      exact blk_on HD.out.2.1 d1
    · rw [Nat.zero_mul, gx_zero]
      exact own_below hA.out.e d)
  clear y0 y1 y2 y3 y4 z0 z1 z2 z3 z4 TE d1 HD hW0
  go_loopw [5] (fun iv wr => ∃ i : Nat, i ≤ Ed.length ∧ iv = .int .i64 i ∧ Hid (Gf w wr 1 (fun _ => (Value.slice a3 Ed.length k3)) [(w.heap.size, #[.int .i64 n, .int .i64 m, .slice a1 St.length k1, .slice a2 Fi.length k2, .slice a3 Ed.length k3], 25)] (fun _ => 59) (fun _ => 3) (fun _ => Ed.length) mkE (fun _ => Ed.flatMap encE) (fun _ => i * 3))) (fun iv _ => Ed.length - (intOf iv).toNat)
  case atStart => exact ⟨0, Nat.zero_le _, rfl, HF⟩
  case round =>
    obtain ⟨i, hi, rfl, HY⟩ := hrel
    clear HF
    have q0 : wr.cell? ⟨w.heap.size, 4, none⟩ = some (Value.slice a3 Ed.length k3) := cell_of (HY.out.b (w.heap.size, #[.int .i64 n, .int .i64 m, .slice a1 St.length k1, .slice a2 Fi.length k2, .slice a3 Ed.length k3], 25) (by simp)) rfl
    have i2 : (0 : Int) ≤ (i : Int) := by omega
    by_cases hil : i < Ed.length
    · have i3 : (i : Int) < (Ed.length : Int) := by omega
      obtain ⟨g, rfl, hcs⟩ := HY.out.cell 0 (by omega) (z := 3) rfl rfl rfl (i * 3) (by omega)
      obtain ⟨⟨u, q1⟩, f1⟩ := hcs (i * 3) (by omega)
      obtain ⟨⟨u', q2⟩, f2⟩ := hcs (i * 3 + 1) (by omega)
      obtain ⟨⟨u'', q3⟩, f3⟩ := hcs (i * 3 + 2) (by omega)
      clear hcs
      go_wp2
      go_roundw
      case rel =>
        refine ⟨i + 1, by omega, by go_num, hide ?_⟩
        rw [show (i + 1) * 3 = i * 3 + 1 + 1 + 1 by omega]
        exact Gf.put1 hS.out (i * 3 + 1 + 1) (Gf.put1 hS.out (i * 3 + 1) (Gf.put1 hS.out (i * 3) HY.out rfl rfl _ (mkE_3 0 i).1) rfl rfl _ (mkE_3 0 i).2.1) rfl rfl _ (mkE_3 0 i).2.2
      case measure => simp [intOf]; omega
    · obtain rfl : i = Ed.length := by omega
      have i3 : ¬ (Ed.length : Int) < (Ed.length : Int) := by omega
      have HZ : Hid (Gg w wr 1 (fun _ => (Value.slice a3 Ed.length k3)) [(w.heap.size, #[.int .i64 n, .int .i64 m, .slice a1 St.length k1, .slice a2 Fi.length k2, .slice a3 Ed.length k3], 25)] (fun i => (List.range (Ed.length * 3)).map (mkE i)) ∧ Gx w wr (Value.slice a3 Ed.length k3) [(w.heap.size, #[.int .i64 n, .int .i64 m, .slice a1 St.length k1, .slice a2 Fi.length k2, .slice a3 Ed.length k3], 25)] 59 3 Ed.length ((List.range (Ed.length * 3)).map (mkE 0)) [.int .i64 (-7), .int .i64 0, .int .i64 0] (Value.slice a3 Ed.length k3) 0) := hide (by
        have t := Gf.full (z := fun _ => Ed.length * 3) HY.out (fun r hr => ⟨hA.out.e.1, Nat.le_refl _⟩)
        exact ⟨t.1, Gx.zero (t.2 0 (by omega))⟩)
      clear HY
      go_wp2
      go_loopw [6, 7] (fun ov jv wr => ∃ j av cv, j ≤ 70 ∧ ov = .slice av (Ed.length + j) cv ∧ jv = .int .i64 (j : Nat) ∧ Hid (Gg w wr 1 (fun _ => (Value.slice a3 Ed.length k3)) [(w.heap.size, #[.int .i64 n, .int .i64 m, .slice a1 St.length k1, .slice a2 Fi.length k2, .slice a3 Ed.length k3], 25)] (fun i => (List.range (Ed.length * 3)).map (mkE i)) ∧ Gx w wr (Value.slice a3 Ed.length k3) [(w.heap.size, #[.int .i64 n, .int .i64 m, .slice a1 St.length k1, .slice a2 Fi.length k2, .slice a3 Ed.length k3], 25)] 59 3 Ed.length ((List.range (Ed.length * 3)).map (mkE 0)) [.int .i64 (-7), .int .i64 0, .int .i64 0] (.slice av (Ed.length + j) cv) j)) (fun _ jv _ => 70 - (intOf jv).toNat)
      case atStart => exact ⟨0, a3, k3, Nat.zero_le _, rfl, rfl, HZ⟩
      case round =>
        obtain ⟨j, av, cv, hj, rfl, rfl, HY⟩ := hrel
        clear HZ q0
        by_cases hjl : j < 70
        · have i4 : (j : Int) < 70 := by omega
          have dA : Below wr.heap.size wr (wr.alloc (.cells #[.int .i64 (-7), .int .i64 0, .int .i64 0] 59)) := (Below.refl _ _).alloc (Nat.le_refl _) _
          have HB := hide (And.intro (HY.out.1.below dA) (HY.out.2.below dA))
          clear dA
          go_wp2_with (at_builtin; refine wpList_gx Tryz.underlying23 hi5 hz50 hz51 hz52 rfl (by omega) (by omega) hS.out HB.out.1 0 (by omega) HB.out.2 rfl _ _ rfl rfl ⟨wr.heap.size, 0, none⟩ rfl rfl (cnewL wr [.int .i64 (-7), .int .i64 0, .int .i64 0] 59) (fun u hu => by rcases List.mem_cons.1 hu with rfl | hu; rfl; rcases List.mem_cons.1 hu with rfl | hu; rfl; rw [List.mem_singleton.1 hu]; rfl) (by omega) ?_)
          intro gv cw w9 H9
          go_wp2
          go_roundw
          case rel => exact ⟨j + 1, some ⟨gv, 0, none⟩, cw, by omega, rfl, by go_num, hide ⟨H9.out.2.1, H9.out.1⟩⟩
          case measure => simp [intOf]; omega
        · obtain rfl : j = 70 := by omega
          have i4 : ¬ ((70 : Nat) : Int) < 70 := by omega
          have q2 : wr.cell? ⟨w.heap.size, 2, none⟩ = some (.slice a1 St.length k1) := cell_of (HY.out.1.b (w.heap.size, #[.int .i64 n, .int .i64 m, .slice a1 St.length k1, .slice a2 Fi.length k2, .slice a3 Ed.length k3], 25) (by simp)) rfl
          have q3 : wr.cell? ⟨w.heap.size, 3, none⟩ = some (.slice a2 Fi.length k2) := cell_of (HY.out.1.b (w.heap.size, #[.int .i64 n, .int .i64 m, .slice a1 St.length k1, .slice a2 Fi.length k2, .slice a3 Ed.length k3], 25) (by simp)) rfl
          obtain ⟨gv, cw, hv, _, _⟩ := HY.out.2.o.form (by omega)
          cases hv
          have TK : Hid (∀ w2, Only wr w2 (fun b => ∃ i, i < 2 ∧ (g2 (Value.slice a1 St.length k1) (.slice a2 Fi.length k2) i).ownBlock = some b) → w2.cell? ⟨w.heap.size, 4, none⟩ = some (Value.slice a3 Ed.length k3) ∧ w2.cell? ⟨gv, (Ed.length + 69) * 3, none⟩ = some (.int .i64 (-7)) ∧ Only w w2 (fun b => (Value.slice a1 St.length k1).ownBlock = some b ∨ (Value.slice a2 Fi.length k2).ownBlock = some b ∨ (Value.slice a3 Ed.length k3).ownBlock = some b)) := hide (fun w2 o2 => by
            have HE := HY.out.2.o
            have hb := HY.out.1.b (w.heap.size, #[.int .i64 n, .int .i64 m, .slice a1 St.length k1, .slice a2 Fi.length k2, .slice a3 Ed.length k3], 25) (by simp)
            have t1 : wr.ownsRow 0 3 1 (.slice a1 St.length k1) St.length (St.map (Value.int .i64)) := row_only hA.out.s HY.out.1.on fun b q z => by obtain ⟨_, _, z⟩ := z; exact tag_ne2 hA.out.s hA.out.e (by decide) q z
            have t2 : wr.ownsRow 0 3 1 (.slice a2 Fi.length k2) Fi.length (Fi.map (Value.int .i64)) := row_only hA.out.f HY.out.1.on fun b q z => by obtain ⟨_, _, z⟩ := z; exact tag_ne2 hA.out.f hA.out.e (by decide) q z
            refine ⟨cell_of ((o2.block _ (Array.getElem?_eq_some_iff.1 hb).1 fun z => ?_).trans hb) rfl, ?_, ?_⟩
            · obtain ⟨i, hi, z⟩ := z
              match i, hi, z with
              | 0, _, z => exact absurd (hA.out.s.lt _ z).2 (by omega)
              | 1, _, z => exact absurd (hA.out.f.lt _ z).2 (by omega)
            · have HE2 := row_only HE o2 fun b q z => by
                obtain ⟨i, hi, z⟩ := z
                match i, hi, z with
                | 0, _, z => exact tag_ne2 HE t1 (by decide) q z
                | 1, _, z => exact tag_ne2 HE t2 (by decide) q z
              have t := HE2.cells (g := gv) rfl ((Ed.length + 69) * 3) (.int .i64 (-7)) (by
                rw [List.getElem?_append_right (by simp; omega)]
                simp only [List.length_map, List.length_range]
                rw [show (Ed.length + 69) * 3 - Ed.length * 3 = 207 by omega]
                rfl)
              rwa [Addr.add_lit, Nat.zero_add] at t
            · refine (HY.out.1.on.mono fun b _ z => ?_).trans (o2.mono fun b _ z => ?_)
              · obtain ⟨_, _, z⟩ := z
                exact Or.inr (Or.inr z)
              · obtain ⟨i, hi, z⟩ := z
                match i, hi, z with
                | 0, _, z => exact Or.inl z
                | 1, _, z => exact Or.inr (Or.inl z))
          have T47 : Hid (Calls Tryz.prog 47 #[.slice (some ⟨wr.heap.size, 0, none⟩) 2 2] (wr.alloc (.cells #[.slice a1 St.length k1, .slice a2 Fi.length k2] 22)) fun e w' => e = .returned (.bool true) ∧ Only wr w' (fun b => ∃ i, i < 2 ∧ (g2 (Value.slice a1 St.length k1) (.slice a2 Fi.length k2) i).ownBlock = some b)) := hide (by
            have t1 : wr.ownsRow 0 3 1 (.slice a1 St.length k1) St.length (St.map (Value.int .i64)) := row_only hA.out.s HY.out.1.on fun b q z => by obtain ⟨_, _, z⟩ := z; exact tag_ne2 hA.out.s hA.out.e (by decide) q z
            have t2 : wr.ownsRow 0 3 1 (.slice a2 Fi.length k2) Fi.length (Fi.map (Value.int .i64)) := row_only hA.out.f HY.out.1.on fun b q z => by obtain ⟨_, _, z⟩ := z; exact tag_ne2 hA.out.f hA.out.e (by decide) q z
            have dA : Below wr.heap.size wr (wr.alloc (.cells #[.slice a1 St.length k1, .slice a2 Fi.length k2] 22)) := (Below.refl _ _).alloc (Nat.le_refl _) _
            refine over_any wr _ 2 (g2 (Value.slice a1 St.length k1) (.slice a2 Fi.length k2)) (g2 St.length Fi.length) (g2 (St.map (Value.int .i64)) (Fi.map (Value.int .i64))) wr.heap.size 2 #[.slice a1 St.length k1, .slice a2 Fi.length k2] (by omega) (hide ⟨fun i hi k q => ?_, fun i j hi hj hij k q q' => ?_, fun q hq => ?_⟩) (hide ⟨fun q hq => ?_, Only.ofBelow dA, fun i hi => ?_⟩) (hide fun k hk => ?_)
            · match i, hi, q with
              | 0, _, q => exact (t1.lt k q).2
              | 1, _, q => exact (t2.lt k q).2
            · match i, j, hi, hj, hij, q, q' with
              | 0, 1, _, _, _, q, q' => exact hA.out.ne k q q'
              | 1, 0, _, _, _, q, q' => exact hA.out.ne k q' q
              | 0, 0, _, _, h, _, _ => exact absurd rfl h
              | 1, 1, _, _, h, _, _ => exact absurd rfl h
            · rw [List.mem_singleton.1 hq]
              exact Nat.le_refl _
            · rw [List.mem_singleton.1 hq]
              exact World.alloc_heap_new _ _
            · have e0 : aW (g2 St.length Fi.length) 0 i = 0 := by unfold aW; rw [if_neg (by omega)]
              rw [e0, gx_zero]
              match i, hi with
              | 0, _ => exact own_below t1 dA
              | 1, _ => exact own_below t2 dA
            · match k, hk with
              | 0, _ => exact ⟨a1, k1, rfl, rfl, h1⟩
              | 1, _ => exact ⟨a2, k2, rfl, rfl, h2⟩)
          go_upto_region 12 with fail
          have n1 : (0 : Int) ≤ (Ed.length : Int) + 70 - 1 := by omega
          have n2 : (Ed.length : Int) + 70 - 1 < (Ed.length : Int) + 70 := by omega
          clear i2 i3 i4 HY
          go_wp2_with (go_at_call 47; refine T47.out.mono ?_; rintro e w2 ⟨rfl, o2⟩; have ⟨r4, r5, oo⟩ := TK.out w2 o2)
          refine bodyPost_ret (results_tmp rfl _ _ _) rfl ?_
          exact ⟨by first | rfl | (simp; done), oo⟩
end Go.Proofs.YtfoahpideglghaaGreatDoor
