import Derived.Test.YtdgmokelmocejabDoorPlj
namespace Go.Proofs.YtdgmokelmocejabDoor
open Go.RowKit

/-- A bench of which the first m places are laid. -/
def prow (p : Nat → Sl) (m : Nat) : Array Value :=
  #[if 0 < m then (p 0).ptr else .pointer none, if 1 < m then (p 1).ptr else .pointer none, if 2 < m then (p 2).ptr else .pointer none, if 3 < m then (p 3).ptr else .pointer none,
    if 0 < m then (p 0).num else .int .i64 0, if 0 < m then (p 0).sli else .slice none 0 0, if 1 < m then (p 1).num else .int .i64 0, if 1 < m then (p 1).sli else .slice none 0 0,
    if 2 < m then (p 2).num else .int .i64 0, if 2 < m then (p 2).sli else .slice none 0 0, if 3 < m then (p 3).num else .int .i64 0, if 3 < m then (p 3).sli else .slice none 0 0]
structure Bp (w0 : World) (B : Nat) (p : Nat → Sl) (m : Nat) (w : World) : Prop where
  blk : w.heap[B]? = some (.cells (prow p m) 45 (0, 0))
  set : ∀ k, k < m → IsSet w (p k).b (p k).g (p k).c (p k).n (p k).X
  row : ∀ k, k < m → Row3 w (p k).ao (elems (p k).n (p k).y)
  ap : ∀ j k, j < m → k < m → j ≠ k → (p j).b ≠ (p k).b ∧ (p j).g ≠ (p k).g
  ok : ∀ k, k < m → (p k).y = (p k).X
  lo : w0.heap.size ≤ B ∧ ∀ k, k < m → w0.heap.size ≤ (p k).g
  below : Below w0.heap.size w0 w
section
variable {w0 w w' : World} {B m : Nat} {p : Nat → Sl}
theorem Bp.blt (h : Bp w0 B p m w) : B < w.heap.size := cell_lt h.blk
theorem Bp.on (h : Bp w0 B p m w) (d : Below w.heap.size w w') : Bp w0 B p m w' :=
  ⟨by rw [d.block B h.blt]; exact h.blk, fun k hk => (h.set k hk).below d, fun k hk => (h.row k hk).below d, h.ap, h.ok, h.lo, h.below.trans (d.mono h.below.size)⟩
theorem Bp.full (h : Bp w0 B p 4 w) : Bn w0 B p w ∧ Ok4 p := ⟨⟨h.blk, h.set, h.row, h.ap, h.lo, h.below⟩, h.ok⟩
theorem Bp.put (h : Bp w0 B p m w) (hm : m < 4) {s : Sl} {N : Nat} (hs : IsSet w s.b s.g s.c s.n s.X) (hr : Row3 w s.ao (elems s.n s.y)) (hy : s.y = s.X) (hN : w0.heap.size ≤ N) (hlt : ∀ k, k < m → (p k).b < N ∧ (p k).g < N) (hb : N ≤ s.b) (hg : N ≤ s.g) :
    Bp w0 B (upd p m s) (m + 1) (((w.setCell ⟨B, m, none⟩ s.ptr).setCell ⟨B, 4 + m * 2, none⟩ (.int .i64 s.n)).setCell ⟨B, 4 + m * 2 + 1, none⟩ (.slice s.ao (elems s.n s.y).length s.cr)) := by
  have h0 := heap_setCell_same w B m _ 45 s.ptr h.blk
  have h1 := heap_setCell_same _ B (4 + m * 2) _ 45 (.int .i64 s.n) h0
  have h2 := heap_setCell_same _ B (4 + m * 2 + 1) _ 45 (.slice s.ao (elems s.n s.y).length s.cr) h1
  have d : w.grownBy (((w.setCell ⟨B, m, none⟩ s.ptr).setCell ⟨B, 4 + m * 2, none⟩ (.int .i64 s.n)).setCell ⟨B, 4 + m * 2 + 1, none⟩ (.slice s.ao (elems s.n s.y).length s.cr)) (some B) := g_set (g_set (g_set (g_refl _ _) _ _) _ _) _ _
  have hB := h.lo.1
  have un : ∀ k, k < m → upd p m s k = p k := fun k hk => upd_ne _ _ (by omega)
  refine ⟨?_, fun k hk => ?_, fun k hk => ?_, fun j k hj hk hn => ?_, fun k hk => ?_, ⟨hB, fun k hk => ?_⟩, ((h.below.setCell hB _).setCell hB _).setCell hB _⟩
  · rw [h2]
    refine congrArg (fun x => some (Obj.cells x 45 (0, 0))) ?_
    obtain rfl | rfl | rfl | rfl : m = 0 ∨ m = 1 ∨ m = 2 ∨ m = 3 := by omega
    all_goals simp [prow, upd, Sl.ptr, Sl.num, Sl.sli]
  · by_cases hk2 : k = m
    · subst hk2
      rw [upd_same]
      have := set_ne hs h.blk (by decide) (by decide)
      exact hs.other d this.1 this.2
    · rw [un k (by omega)]
      have := set_ne (h.set k (by omega)) h.blk (by decide) (by decide)
      exact (h.set k (by omega)).other d this.1 this.2
  · by_cases hk2 : k = m
    · subst hk2; rw [upd_same]; exact hr.grown d h.blk (by decide)
    · rw [un k (by omega)]; exact (h.row k (by omega)).grown d h.blk (by decide)
  · by_cases e1 : j = m
    · subst e1
      have hk2 := hlt k (by omega)
      rw [upd_same, un k (by omega)]
      omega
    · rw [un j (by omega)]
      have hj2 := hlt j (by omega)
      by_cases e2 : k = m
      · subst e2
        rw [upd_same]
        omega
      · rw [un k (by omega)]
        exact h.ap j k (by omega) (by omega) hn
  · by_cases e2 : k = m
    · subst e2; rw [upd_same]; exact hy
    · rw [un k (by omega)]; exact h.ok k (by omega)
  · by_cases e2 : k = m
    · subst e2
      rw [upd_same]
      omega
    · rw [un k (by omega)]
      exact h.lo.2 k (by omega)
theorem Bp.lts (h : Bp w0 B p m w) : ∀ k, k < m → (p k).b < w.heap.size ∧ (p k).g < w.heap.size := fun k hk => ⟨(h.set k hk).blt, (h.set k hk).glt⟩
theorem Bp.c (h : Bp w0 B p m w) (hm : m < 4) : w.cell? ⟨B, m, none⟩ = some (.pointer none) ∧ w.cell? ⟨B, 4 + m * 2, none⟩ = some (.int .i64 0) ∧ w.cell? ⟨B, 4 + m * 2 + 1, none⟩ = some (.slice none 0 0) := by
  refine ⟨?_, ?_, ?_⟩ <;> rw [cell_of_row w B _ _ 45 (0, 0) h.blk]
  all_goals
    obtain rfl | rfl | rfl | rfl : m = 0 ∨ m = 1 ∨ m = 2 ∨ m = 3 := by omega
    all_goals rfl
end
theorem bp_start (w : World) : Bp w w.heap.size (fun _ => ⟨0, 0, 0, 0, 0, 0, none, 0⟩) 0 (w.alloc (.cells (prow (fun _ => ⟨0, 0, 0, 0, 0, 0, none, 0⟩) 0) 45)) :=
  ⟨heap_alloc_new _ _, fun k hk => by omega, fun k hk => by omega, fun j k hj => by omega, fun k hk => by omega, ⟨Nat.le_refl _, fun k hk => by omega⟩, bw1⟩

set_option maxHeartbeats 1000000 in
theorem lay_first (w0 : World) (B a N : Nat) (p : Nat → Sl) (s : Sl) (w : World) (h : Bp w0 B p a w) (ha : a < 4) (hs : IsSet w s.b s.g s.c s.n s.X) (hr : Row3 w s.ao (elems s.n s.y)) (hy : s.y = s.X) (hN : w0.heap.size ≤ N) (hlt : ∀ k, k < a → (p k).b < N ∧ (p k).g < N) (hb : N ≤ s.b) (hg : N ≤ s.g) :
    Calls Tryd.prog 20 #[.pointer (some ⟨B, 0, none⟩), .int .i64 a, s.ptr, .int .i64 0, .agg #[.int .i64 s.n, .slice s.ao (elems s.n s.y).length s.cr], .int .i64 0] w fun e w' => e = .returned (.bool true) ∧ Bp w0 B (upd p a s) (a + 1) w' := by
  obtain ⟨P1, N1, Q1⟩ := h.c ha
  have f0 := frozen_of_row w B a _ 45 h.blk
  have hlB := h.blt
  have i0 : (0 : Int) ≤ (a : Int) := by omega
  have i1 : (a : Int) < 4 := by omega
  have HN := hide ((h.put ha hs hr hy hN hlt hb hg))
  have h0 := heap_setCell_same w B a _ 45 s.ptr h.blk
  have hz : (w.setCell ⟨B, a, none⟩ s.ptr).heap.size = w.heap.size := by simp [World.setCell]
  have hl1 : B < (w.setCell ⟨B, a, none⟩ s.ptr).heap.size := by omega
  have N2 : (w.setCell ⟨B, a, none⟩ s.ptr).cell? ⟨B, 4 + a * 2, none⟩ = some (.int .i64 0) := by rw [cell_set_off (by omega)]; exact N1
  have Q2 : (w.setCell ⟨B, a, none⟩ s.ptr).cell? ⟨B, 4 + a * 2 + 1, none⟩ = some (.slice none 0 0) := by rw [cell_set_off (by omega)]; exact Q1
  have f3 : (w.setCell ⟨B, a, none⟩ s.ptr).frozen? ⟨B, 4 + a * 2, none⟩ = false := frozen_of_row _ B _ _ 45 h0
  have f4 : (w.setCell ⟨B, a, none⟩ s.ptr).frozen? ⟨B, 4 + a * 2 + 1, none⟩ = false := frozen_of_row _ B _ _ 45 h0
  unfold Sl.ptr at *
  clear h hs hr hy hN hlt hb hg N1 Q1 h0
  go_enter Tryd.func20, Tryd.ntmps20
  go_wp2_with fail
  generalize hW1 : (w.setCell ⟨B, a, none⟩ (.pointer (some ⟨s.b, 0, none⟩))) = W1 at *
  clear hW1
  rw [← hz]
  go_region
  go_wp2
  go_ret
  exact ⟨rfl, HN.out.on bw1.drew⟩

/-- One call of the script. -/
structure Stp where
  d : Int
  At : Int
  Of : Int
  To : Int
  I : Int
  al : Option Addr
  l : List Int
  cl : Nat
  key : ByteArray
structure StAt (w : World) (g o : Nat) (x : Stp) : Prop where
  c0 : w.cell? ⟨g, o, none⟩ = some (.int .i64 x.d)
  c1 : w.cell? ⟨g, o + 1, none⟩ = some (.int .i64 x.At)
  c2 : w.cell? ⟨g, o + 2, none⟩ = some (.int .i64 x.Of)
  c3 : w.cell? ⟨g, o + 3, none⟩ = some (.int .i64 x.To)
  c4 : w.cell? ⟨g, o + 4, none⟩ = some (.int .i64 x.I)
  c5 : w.cell? ⟨g, o + 5, none⟩ = some (.slice x.al x.l.length x.cl)
  c6 : w.cell? ⟨g, o + 6, none⟩ = some (.string x.key)
  rd : ReadsI w x.al x.l
  len : x.l.length ≤ 1048576
theorem StAt.below {w w' : World} {B g o : Nat} {x : Stp} (h : StAt w g o x) (hB : B = w.heap.size) (d : Below B w w') : StAt w' g o x := by
  subst hB
  have hg := World.block_lt_of_cell? w _ h.c0
  exact ⟨(World.cell?_of_block (d.block g hg)).trans h.c0, (World.cell?_of_block (d.block g hg)).trans h.c1, (World.cell?_of_block (d.block g hg)).trans h.c2, (World.cell?_of_block (d.block g hg)).trans h.c3, (World.cell?_of_block (d.block g hg)).trans h.c4, (World.cell?_of_block (d.block g hg)).trans h.c5, (World.cell?_of_block (d.block g hg)).trans h.c6, h.rd.below d, h.len⟩
def ReadsS (w : World) (ao : Option Addr) (L : List Stp) : Prop := ∀ k (hk : k < L.length), ∃ g o, ao = some ⟨g, o, none⟩ ∧ StAt w g (o + k * 7) L[k]
theorem step_any (w0 w : World) (B : Nat) (p : Nat → Sl) (x : Stp) (h : Bn w0 B p w) (hok : Ok4 p) (hrd : ReadsI w x.al x.l) (hlen : x.l.length ≤ 1048576) (hTT : TabAt w ∧ 0 < w.heap.size) :
    Calls Tryd.prog 21 #[.pointer (some ⟨B, 0, none⟩), .agg #[.int .i64 x.d, .int .i64 x.At, .int .i64 x.Of, .int .i64 x.To, .int .i64 x.I, .slice x.al x.l.length x.cl, .string x.key]] w (StepOk w0 B) := by
  by_cases h1 : x.d < 1
  · exact step_low w0 w B p x.d x.At x.Of x.To x.I x.al x.l x.cl x.key h hok hrd hlen hTT h1
  by_cases h2 : x.d ≤ 9
  · exact step_make w0 w B p x.d x.At x.Of x.To x.I x.al x.l x.cl x.key h hok hrd hlen hTT ⟨by omega, h2⟩
  by_cases h3 : x.d ≤ 15
  · exact step_change w0 w B p x.d x.At x.Of x.To x.I x.al x.l x.cl x.key h hok hrd hlen hTT ⟨by omega, h3⟩
  by_cases h4 : x.d = 16
  · rw [h4]; exact step_ask w0 w B p 16 x.At x.Of x.To x.I x.al x.l x.cl x.key h hok hrd hlen hTT
  by_cases h5 : x.d = 17
  · rw [h5]; exact step_two w0 w B p 17 x.At x.Of x.To x.I x.al x.l x.cl x.key h hok hrd hlen hTT
  · exact step_high w0 w B p x.d x.At x.Of x.To x.I x.al x.l x.cl x.key h hok hrd hlen hTT (by omega)
end Go.Proofs.YtdgmokelmocejabDoor
namespace Go.Proofs.YtdgmokelmocejabDoor
open Go.RowKit

theorem keepL {w0 w1 w2 : World} {a b : Addr} {x y : Value} (h : w1.cell? a = some x ∧ w1.cell? b = some y ∧ Below w0.heap.size w0 w1) (d : Below w1.heap.size w1 w2) : w2.cell? a = some x ∧ w2.cell? b = some y ∧ Below w0.heap.size w0 w2 :=
  ⟨(d.cell (World.block_lt_of_cell? _ _ h.1)).trans h.1, (d.cell (World.block_lt_of_cell? _ _ h.2.1)).trans h.2.1, h.2.2.trans (d.mono h.2.2.size)⟩
theorem keepLs {w0 w1 : World} {a b : Addr} {x y : Option Value} (h : w1.cell? a = x ∧ w1.cell? b = y ∧ Below w0.heap.size w0 w1) : Below w0.heap.size w0 w1 := h.2.2

set_option maxRecDepth 100000 in
set_option maxHeartbeats 8000000 in
theorem plays_any (aS : Option Addr) (cS : Nat) (L : List Stp) (w : World) (hT : TabAt w) (hw0 : 0 < w.heap.size) (hr : ReadsS w aS L) (hL : L.length ≤ 1048576) :
    Calls Tryd.prog 4 #[.slice aS L.length cS] w fun e w' => e = .returned (.bool true) ∧ Below w.heap.size w w' := by
  have HT := hide (And.intro hT hw0)
  have HR := hide hr
  have S0 := hide (bp_start w)
  clear hT hw0 hr
  go_enter Tryd.func4, Tryd.ntmps4
  go_wp2
  have e0 : (w.alloc (.cells (prow (fun _ => ⟨0, 0, 0, 0, 0, 0, none, 0⟩) 0) 45)) = (w.alloc (.cells #[.pointer none, .pointer none, .pointer none, .pointer none, .int .i64 0, .slice none 0 0, .int .i64 0, .slice none 0 0, .int .i64 0, .slice none 0 0, .int .i64 0, .slice none 0 0] 45)) := rfl
  rw [e0] at S0
  clear e0
  go_loopw [4] (fun i wr => ∃ (k : Nat) (p : Nat → Sl), k ≤ 4 ∧ i = .int .i64 k ∧ Hid (Bp w w.heap.size p k wr)) (fun i _ => 4 - (intOf i).toNat)
  case atStart => exact ⟨0, _, by omega, rfl, S0⟩
  case round =>
    obtain ⟨k, p, hk, rfl, S⟩ := hrel
    clear S0
    by_cases hlt : k < 4
    · have hki : (k : Int) < 4 := by omega
      go_wp2_with fail
      refine (new_ok 65 _ (by decide)).mono ?_
      rintro e w1 ⟨b, g, cs, rfl, hs, hb, hg, hbg, d1⟩
      have B1 := hide (S.out.on d1)
      have S1 := hide hs
      have HN := hide (And.intro hb (And.intro hg (And.intro S.out.lts S.out.below.size)))
      clear hs hb hg hbg d1
      go_wp2_with fail
      refine (rnew_r 65 _ (by decide)).mono ?_
      rintro e w2 ⟨ao2, cap2, rfl, hr2, d2⟩
      have BL := hide (B1.out.on d2)
      have SL := hide (S1.out.below d2)
      have RL := hide hr2
      clear hr2 d2
      go_wp2_with fail
      refine (lay_first w w.heap.size k wr.heap.size p ⟨b, g, cs, 65, 0, 0, ao2, cap2⟩ _ (BL.out.on bw1) hlt (SL.out.below bw1) (RL.out.below bw1) rfl HN.out.2.2.2 HN.out.2.2.1 HN.out.1 HN.out.2.1).mono ?_
      rintro e w9 ⟨rfl, FIN⟩
      have F := hide FIN
      clear FIN
      go_wp2
      go_roundw
      case rel => exact ⟨k + 1, _, by omega, by go_num, F⟩
      case measure => simp [intOf]; omega
    · obtain rfl : k = 4 := by omega
      obtain ⟨hB4, hO4⟩ := S.out.full
      have HB4 := hide (And.intro hO4 hB4)
      clear S hB4 hO4
      go_wp2
      go_loopw [9] (fun i wr => ∃ (k : Nat) (p : Nat → Sl), k ≤ L.length ∧ i = .int .i64 k ∧ Hid (Ok4 p ∧ Bn w w.heap.size p wr)) (fun i _ => L.length - (intOf i).toNat)
      case atStart => exact ⟨0, _, Nat.zero_le _, rfl, HB4⟩
      case round =>
        obtain ⟨k, p, hk, rfl, S⟩ := hrel
        clear HB4
        by_cases hlt : k < L.length
        · obtain ⟨g, o, rfl, q1⟩ := HR.out k hlt
          generalize hx : L[k] = x at q1
          clear hx
          have q2 := q1.below rfl S.out.2.below
          have c0 := q2.c0
          have c1 := q2.c1
          have c2 := q2.c2
          have c3 := q2.c3
          have c4 := q2.c4
          have c5 := q2.c5
          have c6 := q2.c6
          have Q2 := hide q2
          have i0 : (0 : Int) ≤ (k : Int) := by omega
          have i2 : (k : Int) < (L.length : Int) := by omega
          have HTr := hide (And.intro (HT.out.1.below S.out.2.below HT.out.2) (Nat.lt_of_lt_of_le HT.out.2 S.out.2.below.size))
          clear q1 q2
          go_wp2_with fail
          refine (step_any w _ w.heap.size p x S.out.2 S.out.1 Q2.out.rd Q2.out.len HTr.out).mono ?_
          rintro e w1 ⟨rfl, p', ho', hB'⟩
          have S1 := hide (And.intro ho' hB')
          clear ho' hB' c0 c1 c2 c3 c4 c5 c6 Q2 S HTr
          go_wp2
          go_loopw [10, 11] (fun okv i wr => ∃ (j : Nat), j ≤ 4 ∧ okv = .bool true ∧ i = .int .i64 j ∧ Hid (Ok4 p' ∧ Bn w w.heap.size p' wr)) (fun _ i _ => 4 - (intOf i).toNat)
          case atStart => exact ⟨0, by omega, rfl, rfl, S1⟩
          case round =>
            obtain ⟨j, hj, rfl, rfl, S⟩ := hrel
            clear S1
            by_cases hlt2 : j < 4
            · have c1 := S.out.2.ptr hlt2
              have c2 := S.out.2.sli hlt2
              unfold Sl.ptr at c1
              unfold Sl.sli at c2
              rw [S.out.1 j hlt2] at c2
              have j0 : (0 : Int) ≤ (j : Int) := by omega
              have j1 : (j : Int) < 4 := by omega
              have hlE := cnt_le (p' j).n (p' j).X
              have hn8 := (S.out.2.set j hlt2).hn
              unfold cnt at hlE
              have HTr := hide (And.intro (HT.out.1.below S.out.2.below HT.out.2) (Nat.lt_of_lt_of_le HT.out.2 S.out.2.below.size))
              go_wp2_with fail
              go_region_held3 (fun w' => w'.cell? ⟨w.heap.size, j, none⟩ = some (.pointer (some ⟨(p' j).b, 0, none⟩)) ∧ w'.cell? ⟨w.heap.size, 4 + j * 2 + 1, none⟩ = some (.slice (p' j).ao (elems (p' j).n (p' j).X).length (p' j).cr) ∧ Below wr.heap.size wr w')
                (first | exact ⟨c1, c2, (Below.refl _ _).drew⟩ | exact keepL (by assumption) hbX | go_keep)
                (first
                  | (go_at_call 23; refine (list_any (p' j).b (p' j).g (p' j).c (p' j).n (p' j).X _ (by exact (S.out.2.on (keepLs (by assumption))).set j hlt2) (by exact HTr.out.1.below (keepLs (by assumption)) HTr.out.2)).mono ?_; rintro e wX ⟨gl, cl, rfl, hol, hbX⟩)
                  | (go_at_call 22; refine (same_b (owns_reads2 (by exact hol)) (by exact ((S.out.2.on (keepLs (by assumption))).rowK S.out.1 hlt2).reads) (by omega)).mono ?_; rintro e wX ⟨rfl, hbX⟩))
              rename_i hS
              have F := hide (And.intro S.out.1 (S.out.2.on hS.2.2))
              clear hS hol c1 c2
              go_wp2
              go_roundw
              case rel => exact ⟨j + 1, by omega, rfl, by go_num, F⟩
              case measure => simp [intOf]; omega
            · have hj4 : ¬ (j : Int) < 4 := by omega
              go_wp2
              go_roundw
              case rel => first | exact ⟨k + 1, p', by omega, by go_num, S⟩ | exact ⟨k + 1, by omega, by go_num, p', S⟩
              case measure => simp [intOf]; omega
        · have hki : ¬ (k : Int) < (L.length : Int) := by omega
          go_wp2
          go_loopw [12] (fun i wr => ∃ (k : Nat), k ≤ 4 ∧ i = .int .i64 k ∧ Hid (Ok4 p ∧ Bn w w.heap.size p wr)) (fun i _ => 4 - (intOf i).toNat)
          case atStart => exact ⟨0, by omega, rfl, S⟩
          case round =>
            obtain ⟨j, hj, rfl, S2⟩ := hrel
            clear S
            by_cases hlt2 : j < 4
            · have c1 := S2.out.2.ptr hlt2
              have c2 := S2.out.2.sli hlt2
              have c3 := S2.out.2.num hlt2
              unfold Sl.ptr at c1
              unfold Sl.sli at c2
              unfold Sl.num at c3
              rw [S2.out.1 j hlt2] at c2
              have j0 : (0 : Int) ≤ (j : Int) := by omega
              have j1 : (j : Int) < 4 := by omega
              have HTr := hide (And.intro (HT.out.1.below S2.out.2.below HT.out.2) (Nat.lt_of_lt_of_le HT.out.2 S2.out.2.below.size))
              go_wp2_with fail
              go_region_held3 (fun w' => w'.cell? ⟨w.heap.size, j, none⟩ = some (.pointer (some ⟨(p j).b, 0, none⟩)) ∧ w'.cell? ⟨w.heap.size, 4 + j * 2, none⟩ = some (.int .i64 (p j).n) ∧ w'.cell? ⟨w.heap.size, 4 + j * 2 + 1, none⟩ = some (.slice (p j).ao (elems (p j).n (p j).X).length (p j).cr) ∧ Below wr.heap.size wr w')
                (first | exact ⟨c1, c3, c2, (Below.refl _ _).drew⟩ | exact rof_keep (by assumption) hbX | go_keep)
                ((go_at_call 24; refine (shows_any (p j).b (p j).g (p j).c (p j).n (p j).X (p j).cr (p j).ao j _ (by exact (S2.out.2.on (rof_s (by assumption))).set j hlt2) (by exact HTr.out.1.below (rof_s (by assumption)) HTr.out.2) (by exact ((S2.out.2.on (rof_s (by assumption))).rowK S2.out.1 hlt2).reads)).mono ?_; rintro e wX ⟨rfl, hbX⟩))
              rename_i hS
              have F := hide (And.intro S2.out.1 (S2.out.2.on hS.2.2.2))
              clear hS c1 c2 c3
              go_wp2
              go_roundw
              case rel => exact ⟨j + 1, by omega, by go_num, F⟩
              case measure => simp [intOf]; omega
            · have hj4 : ¬ (j : Int) < 4 := by omega
              go_wp2
              go_ret
              exact ⟨rfl, S2.out.2.below⟩
end Go.Proofs.YtdgmokelmocejabDoor
