import Derived.Test.YtmagchclmmphaaaGreatDoorVG
import Derived.Deep.RegionHeldLaw
import Derived.Maps.AppendAt
namespace Go.Proofs.YtmagchclmmphaaaGreatDoor
open Go.RowKit Go.Maps
attribute [local go_sem] Oper.semAt_some

/-- A symbol as the document writes it. -/
def opW2 (x : OpT) : ByteArray := x.1 ++ ⟨#[58]⟩ ++ digB x.2
theorem opW2_bts {x : OpT} (h : x.2 ≤ 1) : bts (opW2 x) = bts x.1 ++ [58, 48 + x.2] := by
  unfold opW2
  rw [bts_append, bts_append, dig_bts h, List.append_assoc]
  rfl
theorem onT_bts (t : ByteArray) (l : List ByteArray) : bts (onT t l) = bts t ++ l.flatMap fun x => [32] ++ bts x := by
  unfold onT
  rw [fold_bts (fun s => bl ++ s) (fun x => [32] ++ bts x) l t (fun x _ => by rw [bts_append]; rfl)]
theorem flat_congr {α : Type} {f g : α → List Nat} : ∀ {l : List α}, (∀ x ∈ l, f x = g x) → l.flatMap f = l.flatMap g
  | [], _ => rfl
  | x :: l, h => by rw [List.flatMap_cons, List.flatMap_cons, h x (by simp), flat_congr (fun y hy => h y (by simp [hy]))]
/-- The document's text ahead of the rules. -/
def rheadT (ti : ByteArray) (O : List OpT) (S F : List ByteArray) : ByteArray :=
  (onT ⟨#[79, 112, 115]⟩ (O.map opW2) ++ ⟨#[10]⟩) ++ ⟨#[65, 117, 116, 111, 109, 97, 116, 111, 110, 32]⟩ ++ ti ++ ⟨#[10]⟩ ++ (onT ⟨#[83, 116, 97, 116, 101, 115]⟩ S ++ ⟨#[10]⟩) ++ (onT ⟨#[70, 105, 110, 97, 108, 32, 83, 116, 97, 116, 101, 115]⟩ F ++ ⟨#[10]⟩) ++ ⟨#[84, 114, 97, 110, 115, 105, 116, 105, 111, 110, 115, 10]⟩
theorem rhead_bts {ti : ByteArray} {O : List OpT} {S F : List ByteArray} (h : ∀ x ∈ O, x.2 ≤ 1) : bts (rheadT ti O S F) = fileN (bts ti) (O.map opQ) (S.map bts) (F.map bts) [] := by
  unfold rheadT fileN
  simp only [bts_append, onT_bts]
  rw [flat_map, flat_map, flat_map, flat_map]
  have e : ∀ x ∈ O, [32] ++ bts (opW2 x) = [32] ++ (opQ x).1 ++ [58, (opQ x).2] := fun x hx => by rw [opW2_bts (h x hx), List.append_assoc]; rfl
  rw [flat_congr e]
  simp only [List.append_assoc, List.flatMap_nil, List.append_nil]
  rfl
theorem rtext {ti : ByteArray} {O : List OpT} {S F : List ByteArray} {R : List RuT} (h : ∀ x ∈ O, x.2 ≤ 1) : rulesT (rheadT ti O S F) R = writeT ti O S F R := by
  apply bts_inj
  rw [write_bts h]
  unfold rulesT
  rw [fold_bts ruT (fun r => ruN (ruQ r)) R _ (fun x _ => ruT_bts x), rhead_bts h]
  unfold fileN
  rw [flat_map ruQ ruN]
  simp only [List.append_assoc, List.flatMap_nil, List.nil_append]

/-- An append to a row of one's own, as a step of a region that draws. -/
theorem step_own {ops : Array Oper} {o : Oper} {a : Act} {w : World} {K : Act → World → Prop} {Q : Exit → Act → World → Prop} {E : Prop} (hg : o.guard = none) (s x : Operand) (t : TypeId) (hop : o.op = Op.call { callee := Callee.builtin Builtin.append, args := #[s, x], argTypes := #[t, t] })
    (base : Nat) (e : TypeId) (i : TypeInfo) (z : Value) (size bytes : Nat) (h1 : Tryz.prog.underlying t = some (.slice e)) (h2 : Tryz.prog.info? e = some i) (h3 : i.zero = some z) (h4 : i.size = size) (h5 : i.bytes = bytes) (h6 : z.cells.size = size) (h7 : 0 < size)
    (v : Value) (n : Nat) (olds : List Value) (hs : a.eval s = v) (hown : w.ownsRow base e size v n olds)
    (ad : Addr) (m c : Nat) (news : List Value) (hx : a.eval x = .slice (some ad) m c) (hn : news.length = m * size) (hc : ∀ j u, news[j]? = some u → w.cell? (ad.add j) = some u) (h1c : ∀ u ∈ news, u.oneCell' = true)
    (b1 : n + m ≤ maxLen) (b2 : (n + m) * bytes ≤ 140737488355328) (hb : base ≤ w.heap.size)
    (hK : ∀ v' w', w'.ownsRow base e size v' (n + m) (olds ++ news) → w.grownBy w' v.ownBlock → K (a.put o.dst v') w') :
    if Region.wanted o (yielded ops a.tmps) = true then Oper.wp Tryz.prog o a w K Q else E := by
  have hw : Region.wanted o (yielded ops a.tmps) = true := by simp [Region.wanted, hg]
  rw [if_pos hw]
  obtain ⟨v', w', hrun, r1, r2, _⟩ := run_append_own (P := Tryz.prog) w base t o.type e i z size bytes h1 h2 h3 h4 h5 h6 h7 v n olds hown ad m c news hn hc h1c b1 b2 hb
  unfold Oper.wp
  simp [execOp, hop, resolve, invoke, builtin, hs, hx, hrun, Result.andThen]
  exact hK v' w' r1 r2
end Go.Proofs.YtmagchclmmphaaaGreatDoor
namespace Go.Proofs.YtmagchclmmphaaaGreatDoor
open Go.RowKit Go.Maps
attribute [local go_sem] Oper.semAt_some

def opW3 (x : OpI) : ByteArray := opW2 (opN x)
theorem opW3_next {O : List OpI} {k : Nat} (hk : k < O.length) : (O.take (k + 1)).map opW3 = (O.take k).map opW3 ++ [opW3 O[k]] := by
  rw [List.take_succ_eq_append_getElem hk, List.map_append]; rfl
theorem conv_dig (w : World) (c : UInt8) (n : Int) (hn : n = c.toNat) : (convert 92 9 (.slice (some ⟨w.heap.size, 0, none⟩) 1 1)).run Tryz.prog (w.alloc (.cells #[.int .u8 n] 5)).drew = .ok (.string ⟨#[c]⟩) (w.alloc (.cells #[.int .u8 n] 5)).drew := by
  have h := run_convert_bytes_back (P := Tryz.prog) (w.alloc (.cells #[.int .u8 n] 5)).drew 92 9 5 ⟨w.heap.size, 0, none⟩ 1 [c] Tryz.underlying92 Tryz.underlying5 Tryz.underlying9 (fun j hj => by
    have : j = 0 := by simp at hj; omega
    subst this
    rw [Addr.add_lit, Nat.zero_add, hn]
    exact cell_of (j := 0) (World.alloc_heap_new w (.cells #[.int .u8 (c.toNat : Int)] 5)) rfl)
  simpa using h
theorem blw_alloc {B W : World} {o : Obj} (h : Below B.heap.size B W) : Below B.heap.size B (W.alloc o) := h.alloc h.size _

set_option maxRecDepth 100000 in
set_option maxHeartbeats 4000000 in
/-- The document's Print. -/
theorem rprint_any (w : World) (ti : ByteArray) (ao asx af ar : Option Addr) (co cs cf cr : Nat) (O : List OpI) (S F : List ByteArray) (R : List RuT) (hO : Hid (RdO w ao O)) (hS : Hid (ReadsS w asx S)) (hF : Hid (ReadsS w af F)) (hR : Hid (RdRu w ar R))
    (hlo : O.length ≤ 1048576) (hls : S.length ≤ 1048576) (hlf : F.length ≤ 1048576) (hlr : R.length ≤ 1048576) (hco : Hid (O.length ≤ co)) (hcs : Hid (S.length ≤ cs)) :
    Calls Tryz.prog 28 #[.agg #[.string ti, .slice ao O.length co, .slice asx S.length cs, .slice af F.length cf, .slice ar R.length cr]] w fun e w' => e = .returned (.tuple #[.string (if valF ti O S F R then writeT ti (O.map opN) S F R else ⟨#[]⟩), .int .i64 (if valF ti O S F R then 0 else 5)]) ∧ Below w.heap.size w w' := by
  obtain ⟨i9, hi9, hz90, hz91, hz92⟩ := info_parts info9
  obtain ⟨W0, hW0⟩ : ∃ W0, w.alloc (.cells #[.string ti, .slice ao O.length co, .slice asx S.length cs, .slice af F.length cf, .slice ar R.length cr] 26) = W0 := ⟨_, rfl⟩
  have d0 : Below w.heap.size w W0 := by rw [← hW0]; exact (Below.refl _ _).alloc (Nat.le_refl _) _
  have b0 : W0.heap[w.heap.size]? = some (.cells #[.string ti, .slice ao O.length co, .slice asx S.length cs, .slice af F.length cf, .slice ar R.length cr] 26 (0, 0)) := by rw [← hW0]; exact World.alloc_heap_new _ _
  have HBX : Hid (Bx5 W0 w.heap.size (.string ti) (.slice ao O.length co) (.slice asx S.length cs) (.slice af F.length cf) (.slice ar R.length cr)) := hide ⟨cell_of b0 rfl, cell_of b0 rfl, cell_of b0 rfl, cell_of b0 rfl, cell_of b0 rfl⟩
  obtain ⟨c0, c1, c2, c3, c4⟩ := HBX.out
  have HD := hide d0
  have HO := hide (hO.out.on d0)
  have HS := hide (hS.out.below d0)
  have HF := hide (hF.out.below d0)
  have HR := hide (hR.out.on d0)
  clear hO hS hF hR d0 b0
  have T1 := rvalid_any W0 ti ao asx af ar co cs cf cr O S F R HO HS HF HR (by omega) (by omega) (by omega) (by omega) hco hcs
  rw [rvalF_eq] at T1
  cases hv : valF ti O S F R with
  | false =>
    rw [hv] at T1
    go_enter Tryz.func28, Tryz.ntmps28
    go_wp2_with (go_at_call 29; refine T1.mono ?_; rintro e w1 ⟨rfl, d1⟩)
    go_ret2
    exact ⟨rfl, HD.out.trans (d1.mono HD.out.size)⟩
  | true =>
    rw [hv] at T1
    have HK := hide (wok_of hv (by omega) (by omega) (by omega) (by omega))
    have HOk : Hid (O.all opOk = true) := hide (by
      unfold valF namesOk at hv
      simp only [Bool.and_eq_true] at hv
      exact hv.1.1.1.1.1.1.1)
    clear hv
    go_enter Tryz.func28, Tryz.ntmps28
    go_wp2_with (go_at_call 29; refine T1.mono ?_; rintro e w1 ⟨rfl, d1⟩; have D1 := hide d1; clear d1 c0 c1 c2 c3 c4 T1)
    go_loopw [5, 6] (fun v i wr => ∃ k : Nat, k ≤ O.length ∧ i = .int .i64 k ∧ Hid (wr.ownsRow W0.heap.size 9 1 v ((O.take k).map opW3).length (strV ((O.take k).map opW3)) ∧ Below W0.heap.size W0 wr)) (fun _ i _ => O.length - (intOf i).toNat)
    case atStart => exact ⟨0, Nat.zero_le _, rfl, hide ⟨⟨rfl, .inl ⟨rfl, rfl⟩⟩, D1.out⟩⟩
    case round =>
      obtain ⟨k, hk, rfl, HH⟩ := hrel
      obtain ⟨c0, c1, c2, c3, c4⟩ := HBX.out.on HH.out.2
      by_cases hlt : k < O.length
      · clear c0 c2 c3 c4
        obtain ⟨g1, o1, rfl, q0, q1⟩ := (HO.out.on HH.out.2) k hlt
        have i2 : (k : Int) < (O.length : Int) := by omega
        have i3 : (0 : Int) ≤ (k : Int) := by omega
        have hn := opW3_next hlt
        have hx1 := List.all_eq_true.1 HOk.out _ (List.getElem_mem hlt)
        have SOf : Hid (∀ W, Below W0.heap.size W0 W → (W.cell? ⟨w.heap.size, 1, none⟩ = some (.slice (some ⟨g1, o1, none⟩) O.length co) ∧ W.cell? ⟨g1, o1 + k * 2, none⟩ = some (.string O[k].1) ∧ W.cell? ⟨g1, o1 + k * 2 + 1, none⟩ = some (.int .i64 O[k].2) ∧ Hid (Below W0.heap.size W0 W))) := hide fun W d => by
          obtain ⟨g', o', e', p0, p1⟩ := (HO.out.on d) k hlt
          cases e'
          exact ⟨(HBX.out.on d).2.1, p0, p1, hide d⟩
        obtain ⟨x, hx⟩ : ∃ x, O[k] = x := ⟨_, rfl⟩
        rw [hx] at q0 q1 hn hx1
        rw [hx] at SOf
        clear hx
        obtain ⟨s, z⟩ := x
        simp only [opOk, Bool.and_eq_true, decide_eq_true_eq] at q0 q1 hx1
        have hsz : s.size ≤ 16 := vld_size hx1.1.1
        have hlb : ((O.take k).map opW3).length ≤ 1048576 := by rw [List.length_map, List.length_take]; omega
        have hbz := HH.out.2.size
        obtain ⟨L, hL⟩ : ∃ L, (O.take k).map opW3 = L := ⟨_, rfl⟩
        rw [hL] at HH hn hlb
        have HN := hide hn
        clear hn hL q0 q1
        have hz1 : (s ++ (⟨#[58]⟩ : ByteArray)).size = s.size + 1 := by rw [ByteArray.size_append]; rfl
        have w48 : IntKind.i64.wrap 48 = 48 := by decide
        have w49 : IntKind.i64.wrap 49 = 49 := by decide
        have v48 : IntKind.u8.wrap 48 = 48 := by decide
        have v49 : IntKind.u8.wrap 49 = 49 := by decide
        have y1 : ¬ (9223372036854775807 < s.size + (⟨#[58]⟩ : ByteArray).size) := by have : (⟨#[58]⟩ : ByteArray).size = 1 := rfl; omega
        have y2 : ¬ (9223372036854775807 < s.size + 1) := by omega
        have y3 : ¬ (9223372036854775807 < s.size + 1 + 1) := by omega
        have y4 : ¬ (9223372036854775807 < s.size + (⟨#[58]⟩ : ByteArray).size + (⟨#[48]⟩ : ByteArray).size) := by have : (⟨#[58]⟩ : ByteArray).size = 1 := rfl; have : (⟨#[48]⟩ : ByteArray).size = 1 := rfl; omega
        have y5 : ¬ (9223372036854775807 < s.size + (⟨#[58]⟩ : ByteArray).size + (⟨#[49]⟩ : ByteArray).size) := by have : (⟨#[58]⟩ : ByteArray).size = 1 := rfl; have : (⟨#[49]⟩ : ByteArray).size = 1 := rfl; omega
        rcases (by omega : z = 0 ∨ z = 1) with rfl | rfl
        · have hcv := conv_dig wr 48 48 rfl
          go_wp2_with fail
          go_region_held_law (fun W => W.cell? ⟨w.heap.size, 1, none⟩ = some (.slice (some ⟨g1, o1, none⟩) O.length co) ∧ W.cell? ⟨g1, o1 + k * 2, none⟩ = some (.string s) ∧ W.cell? ⟨g1, o1 + k * 2 + 1, none⟩ = some (.int .i64 0) ∧ Hid (Below W0.heap.size W0 W))
            (first
              | with_reducible assumption
              | (with_reducible refine SOf.out _ ?_; repeat' (first | with_reducible exact HH.out.2 | with_reducible exact D2b.out | with_reducible refine Below.drew ?_ | with_reducible refine blw_alloc ?_)))
            ((refine step_own rfl _ _ 23 rfl W0.heap.size 9 i9 _ 1 16 Tryz.underlying23 hi9 hz90 hz91 hz92 rfl (by omega) _ L.length (strV L) rfl (owns_below HH.out.1 (((Below.refl _ wr).alloc (Nat.le_refl _) _).alloc (by simp) _).drew) ⟨wr.heap.size + 1, 0, none⟩ 1 1 [.string (s ++ ⟨#[58]⟩ ++ ⟨#[48]⟩)] rfl rfl (cnew wr _ _) (rf.strV_one [_]) (by unfold maxLen; omega) (by omega) (by simp; omega) ?_; intro v' w2 ho hgr; have D2b : Hid (Below W0.heap.size W0 w2) := hide (((HH.out.2.alloc hbz _).alloc (by simp; omega) _).drew.grown hgr (by simp; omega) (fun k hk => (HH.out.1.lt k hk).1))))
          go_wp2_with fail
          refine ⟨⟨k + 1, by omega, by go_num, hide ?_⟩, by simp [intOf]; omega⟩
          rw [HN.out, show opW3 (s, 0) = s ++ ⟨#[58]⟩ ++ ⟨#[48]⟩ from rfl]
          exact ⟨by simpa [strV] using ho, D2b.out⟩
        · have hcv := conv_dig wr 49 49 rfl
          go_wp2_with fail
          go_region_held_law (fun W => W.cell? ⟨w.heap.size, 1, none⟩ = some (.slice (some ⟨g1, o1, none⟩) O.length co) ∧ W.cell? ⟨g1, o1 + k * 2, none⟩ = some (.string s) ∧ W.cell? ⟨g1, o1 + k * 2 + 1, none⟩ = some (.int .i64 1) ∧ Hid (Below W0.heap.size W0 W))
            (first
              | with_reducible assumption
              | (with_reducible refine SOf.out _ ?_; repeat' (first | with_reducible exact HH.out.2 | with_reducible exact D2b.out | with_reducible refine Below.drew ?_ | with_reducible refine blw_alloc ?_)))
            ((refine step_own rfl _ _ 23 rfl W0.heap.size 9 i9 _ 1 16 Tryz.underlying23 hi9 hz90 hz91 hz92 rfl (by omega) _ L.length (strV L) rfl (owns_below HH.out.1 (((Below.refl _ wr).alloc (Nat.le_refl _) _).alloc (by simp) _).drew) ⟨wr.heap.size + 1, 0, none⟩ 1 1 [.string (s ++ ⟨#[58]⟩ ++ ⟨#[49]⟩)] rfl rfl (cnew wr _ _) (rf.strV_one [_]) (by unfold maxLen; omega) (by omega) (by simp; omega) ?_; intro v' w2 ho hgr; have D2b : Hid (Below W0.heap.size W0 w2) := hide (((HH.out.2.alloc hbz _).alloc (by simp; omega) _).drew.grown hgr (by simp; omega) (fun k hk => (HH.out.1.lt k hk).1))))
          go_wp2_with fail
          refine ⟨⟨k + 1, by omega, by go_num, hide ?_⟩, by simp [intOf]; omega⟩
          rw [HN.out, show opW3 (s, 1) = s ++ ⟨#[58]⟩ ++ ⟨#[49]⟩ from rfl]
          exact ⟨by simpa [strV] using ho, D2b.out⟩
      · obtain rfl : k = O.length := by omega
        have i2 : ¬ (O.length : Int) < (O.length : Int) := by omega
        rw [List.take_length] at HH
        obtain ⟨av, cv, rfl, qv⟩ := rdS_of HH.out.1
        have HQ := hide qv
        clear qv
        have hO2 : ∀ x ∈ O.map opN, x.2 ≤ 1 := fun x hx => (HK.out.o x hx).2
        have eO : O.map opW3 = (O.map opN).map opW2 := by rw [List.map_map]; rfl
        have HTx := hide (rtext (ti := ti) (S := S) (F := F) (R := R) hO2)
        have hlO : ∀ x ∈ O.map opW3, x.size ≤ 18 := fun x hx => by
          rw [eO] at hx
          obtain ⟨y, hy, rfl⟩ := List.mem_map.1 hx
          have := (HK.out.o y hy).1
          unfold opW2
          rw [ByteArray.size_append, ByteArray.size_append]
          have e1 : (⟨#[58]⟩ : ByteArray).size = 1 := rfl
          have e2 : (digB y.2).size = 1 := rfl
          omega
        have hlen : (O.map opW3).length = O.length := List.length_map _
        have L1 := hide (fun (W : World) (hW : ReadsS W av (O.map opW3)) => rlisted_any W ⟨#[79, 112, 115]⟩ av cv (O.map opW3) 18 (hide hW) (by rw [hlen]; exact hlo) (by decide) (by omega) (hide hlO))
        have L2 := hide (fun (W : World) (hW : ReadsS W asx S) => rlisted_any W ⟨#[83, 116, 97, 116, 101, 115]⟩ asx cs S 16 (hide hW) hls (by decide) (by omega) (hide HK.out.s))
        have L3 := hide (fun (W : World) (hW : ReadsS W af F) => rlisted_any W ⟨#[70, 105, 110, 97, 108, 32, 83, 116, 97, 116, 101, 115]⟩ af cf F 16 (hide hW) hlf (by decide) (by omega) (hide HK.out.f))
        have hs1 := onT_size ⟨#[79, 112, 115]⟩ (O.map opW3) 18 hlO
        have hs2 := onT_size ⟨#[83, 116, 97, 116, 101, 115]⟩ S 16 HK.out.s
        have hs3 := onT_size ⟨#[70, 105, 110, 97, 108, 32, 83, 116, 97, 116, 101, 115]⟩ F 16 HK.out.f
        have HHd : Hid (rheadT ti (O.map opN) S F = (onT ⟨#[79, 112, 115]⟩ (O.map opW3) ++ ⟨#[10]⟩) ++ ⟨#[65, 117, 116, 111, 109, 97, 116, 111, 110, 32]⟩ ++ ti ++ ⟨#[10]⟩ ++ (onT ⟨#[83, 116, 97, 116, 101, 115]⟩ S ++ ⟨#[10]⟩) ++ (onT ⟨#[70, 105, 110, 97, 108, 32, 83, 116, 97, 116, 101, 115]⟩ F ++ ⟨#[10]⟩) ++ ⟨#[84, 114, 97, 110, 115, 105, 116, 105, 111, 110, 115, 10]⟩) := hide (by rw [eO]; rfl)
        have z10 : (⟨#[10]⟩ : ByteArray).size = 1 := rfl
        obtain ⟨X1, hX1⟩ : ∃ X, onT ⟨#[79, 112, 115]⟩ (O.map opW3) ++ ⟨#[10]⟩ = X := ⟨_, rfl⟩
        obtain ⟨X2, hX2⟩ : ∃ X, onT ⟨#[83, 116, 97, 116, 101, 115]⟩ S ++ ⟨#[10]⟩ = X := ⟨_, rfl⟩
        obtain ⟨X3, hX3⟩ : ∃ X, onT ⟨#[70, 105, 110, 97, 108, 32, 83, 116, 97, 116, 101, 115]⟩ F ++ ⟨#[10]⟩ = X := ⟨_, rfl⟩
        have e3 : (⟨#[79, 112, 115]⟩ : ByteArray).size = 3 := rfl
        have e6 : (⟨#[83, 116, 97, 116, 101, 115]⟩ : ByteArray).size = 6 := rfl
        have e12 : (⟨#[70, 105, 110, 97, 108, 32, 83, 116, 97, 116, 101, 115]⟩ : ByteArray).size = 12 := rfl
        have x1 : X1.size ≤ 19922948 := by rw [← hX1, ByteArray.size_append]; omega
        have x2 : X2.size ≤ 17825799 := by rw [← hX2, ByteArray.size_append]; omega
        have x3 : X3.size ≤ 17825805 := by rw [← hX3, ByteArray.size_append]; omega
        rw [hX1] at L1
        rw [hX2] at L2
        rw [hX3] at L3
        rw [hX1, hX2, hX3] at HHd
        rw [hlen] at L1
        clear hs1 hs2 hs3 hX1 hX2 hX3 e3 e6 e12 hlO eO hO2
        have hti := HK.out.ti
        have s1 : (X1 ++ (⟨#[65, 117, 116, 111, 109, 97, 116, 111, 110, 32]⟩ : ByteArray)).size = X1.size + 10 := by rw [ByteArray.size_append]; rfl
        have s2 : (X1 ++ (⟨#[65, 117, 116, 111, 109, 97, 116, 111, 110, 32]⟩ : ByteArray) ++ ti).size = X1.size + 10 + ti.size := by rw [ByteArray.size_append, s1]
        have s3 : (X1 ++ (⟨#[65, 117, 116, 111, 109, 97, 116, 111, 110, 32]⟩ : ByteArray) ++ ti ++ ⟨#[10]⟩).size = X1.size + 10 + ti.size + 1 := by rw [ByteArray.size_append, s2]; rfl
        have s4 : (X1 ++ (⟨#[65, 117, 116, 111, 109, 97, 116, 111, 110, 32]⟩ : ByteArray) ++ ti ++ ⟨#[10]⟩ ++ X2).size = X1.size + 10 + ti.size + 1 + X2.size := by rw [ByteArray.size_append, s3]
        have s5 : (X1 ++ (⟨#[65, 117, 116, 111, 109, 97, 116, 111, 110, 32]⟩ : ByteArray) ++ ti ++ ⟨#[10]⟩ ++ X2 ++ X3).size = X1.size + 10 + ti.size + 1 + X2.size + X3.size := by rw [ByteArray.size_append, s4]
        rw [hlen]
        go_wp2_with fail
        go_quiet ((first
          | (go_at_call_of 58 av; refine Calls.quiet_of_same (L1.out _ ?_); exact HQ.out)
          | (go_at_call_of 58 asx; refine Calls.quiet_of_same (L2.out _ ?_); exact HS.out.below (rf.below_drewN' HH.out.2 _))
          | (go_at_call_of 58 af; refine Calls.quiet_of_same (L3.out _ ?_); exact HF.out.below (rf.below_drewN' HH.out.2 _))))
        go_wp2_with fail
        obtain ⟨Hd, hHd⟩ : ∃ Hd, X1 ++ (⟨#[65, 117, 116, 111, 109, 97, 116, 111, 110, 32]⟩ : ByteArray) ++ ti ++ ⟨#[10]⟩ ++ X2 ++ X3 ++ ⟨#[84, 114, 97, 110, 115, 105, 116, 105, 111, 110, 115, 10]⟩ = Hd := ⟨_, rfl⟩
        have hdz : Hd.size ≤ 55575000 := by
          rw [← hHd, ByteArray.size_append, s5, show (⟨#[84, 114, 97, 110, 115, 105, 116, 105, 111, 110, 115, 10]⟩ : ByteArray).size = 12 from rfl]; omega
        rw [hHd]
        rw [hHd] at HHd
        have HWt := hide (show rulesT Hd R = writeT ti (O.map opN) S F R by rw [← HHd.out]; exact HTx.out)
        have D4 : Hid (Below W0.heap.size W0 (wr.drewN nq)) := hide (rf.below_drewN' HH.out.2 _)
        clear hHd HHd HTx L1 L2 L3 x1 x2 x3 s1 s2 s3 s4 s5 HH HQ
        go_loopw [7, 8] (fun t i wr => ∃ k : Nat, k ≤ R.length ∧ i = .int .i64 k ∧ t = .string (rulesT Hd (R.take k)) ∧ Hid (Below W0.heap.size W0 wr)) (fun _ i _ => R.length - (intOf i).toNat)
        case atStart => exact ⟨0, Nat.zero_le _, rfl, rfl, D4⟩
        case round =>
          clear c0 c1 c2 c3 c4
          obtain ⟨k, hk, rfl, rfl, HN⟩ := hrel
          obtain ⟨c0, c1, c2, c3, c4⟩ := HBX.out.on HN.out
          by_cases hlt : k < R.length
          · obtain ⟨g1, o1, rfl, q0, q1, q2⟩ := (HR.out.on HN.out) k hlt
            have j2 : (k : Int) < (R.length : Int) := by omega
            have j3 : (0 : Int) ≤ (k : Int) := by omega
            have hxo := HK.out.r _ (List.getElem_mem hlt)
            have HN2 := hide (foldT_next ruT (t := Hd) hlt)
            have hts := foldT_size ruT Hd (R.take k) 55 (fun x hx => ruT_size x (HK.out.r x (List.mem_of_mem_take hx)))
            have htk : (R.take k).length ≤ 1048576 := by rw [List.length_take]; omega
            obtain ⟨x, hx⟩ : ∃ x, R[k] = x := ⟨_, rfl⟩
            rw [hx] at q0 q1 q2 hxo HN2
            obtain ⟨T, hT⟩ : ∃ T, rulesT Hd (R.take k) = T := ⟨_, rfl⟩
            have htz : T.size ≤ 120000000 := by rw [← hT]; unfold rulesT; omega
            have HN3 : Hid (rulesT Hd (R.take (k + 1)) = T ++ ruT x) := hide (by rw [← hT]; exact HN2.out)
            rw [hT]
            clear hx hts hT HN2
            obtain ⟨x1, x2, x3⟩ := x
            simp only at q0 q1 q2 hxo
            have n1 : (T ++ x1).size = T.size + x1.size := ByteArray.size_append
            have n2 : (T ++ x1 ++ (⟨#[40]⟩ : ByteArray)).size = T.size + x1.size + 1 := by rw [ByteArray.size_append, n1]; rfl
            have n3 : (T ++ x1 ++ (⟨#[40]⟩ : ByteArray) ++ x2).size = T.size + x1.size + 1 + x2.size := by rw [ByteArray.size_append, n2]
            have n4 : (T ++ x1 ++ (⟨#[40]⟩ : ByteArray) ++ x2 ++ ⟨#[41, 32, 45, 62, 32]⟩).size = T.size + x1.size + 1 + x2.size + 5 := by rw [ByteArray.size_append, n3]; rfl
            have n5 : (T ++ x1 ++ (⟨#[40]⟩ : ByteArray) ++ x2 ++ ⟨#[41, 32, 45, 62, 32]⟩ ++ x3).size = T.size + x1.size + 1 + x2.size + 5 + x3.size := by rw [ByteArray.size_append, n4]
            go_wp2
            refine ⟨⟨k + 1, by omega, by go_num, ?_, hide (HN.out.alloc HN.out.size _)⟩, by simp [intOf]; omega⟩
            rw [HN3.out]
            unfold ruT
            simp only [ByteArray.append_assoc]
          · obtain rfl : k = R.length := by omega
            have j2 : ¬ (R.length : Int) < (R.length : Int) := by omega
            rw [List.take_length, HWt.out]
            go_wp2
            go_ret2
            exact ⟨rfl, HD.out.trans (HN.out.mono HD.out.size)⟩
end Go.Proofs.YtmagchclmmphaaaGreatDoor
