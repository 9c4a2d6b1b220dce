import Derived.Test.YtnfdifkcchciaaaDoorDf
namespace Go.Proofs.YtnfdifkcchciaaaDoor
open Go.RowKit Go.Maps

/-- defaced's first three loops. -/
structure D3 (w0 : World) (vs vx vy : Value) (nl nx ny i j : Nat) (w : World) : Prop where
  t : TxR vs nl w
  x : NgR 1000 vx nx i w
  y : NgR 9000 vy ny j w
  sep : ∀ b, vx.ownBlock = some b → vy.ownBlock ≠ some b
  O : Only w0 w (DR vs vx vy)

theorem only_one (w : World) (g k : Nat) (u : Value) : Only w (w.setCell ⟨g, k, none⟩ u) (fun b => b = g) := Only.set (R := fun b => b = g) (Only.ofBelow (Below.refl _ _)) rfl k u
section
variable {w0 w : World} {vs vx vy : Value} {nl nx ny i j k g c : Nat}
theorem D3.tx (h : D3 w0 vs vx vy nl nx ny i j w) : ∀ b, vs.ownBlock = some b → vx.ownBlock ≠ some b := by
  obtain ⟨L, _, h1⟩ := h.t
  obtain ⟨xs, _, h2⟩ := h.x
  exact rows_apart h1 h2 (by decide)
theorem D3.ty (h : D3 w0 vs vx vy nl nx ny i j w) : ∀ b, vs.ownBlock = some b → vy.ownBlock ≠ some b := by
  obtain ⟨L, _, h1⟩ := h.t
  obtain ⟨xs, _, h2⟩ := h.y
  exact rows_apart h1 h2 (by decide)
theorem D3.setS (h : D3 w0 (.slice (some ⟨g, 0, none⟩) nl c) vx vy nl nx ny i j w) (s : ByteArray) : D3 w0 (.slice (some ⟨g, 0, none⟩) nl c) vx vy nl nx ny i j (w.setCell ⟨g, k, none⟩ (.string s)) :=
  ⟨h.t.set s, h.x.keep (only_one w g k _) (fun b hb e => h.tx b (by rw [e]; rfl) hb), h.y.keep (only_one w g k _) (fun b hb e => h.ty b (by rw [e]; rfl) hb), h.sep, h.O.set (.inl rfl) k _⟩
theorem D3.setX (h : D3 w0 vs (.slice (some ⟨g, 0, none⟩) nx c) vy nl nx ny i j w) (hi : i < nx) : D3 w0 vs (.slice (some ⟨g, 0, none⟩) nx c) vy nl nx ny (i + 1) j (w.setCell ⟨g, i, none⟩ (.int .i64 (-1000 - i))) :=
  ⟨h.t.keep (only_one w g i _) (fun b hb e => h.tx b hb (by rw [e]; rfl)), h.x.set hi, h.y.keep (only_one w g i _) (fun b hb e => h.sep b (by rw [e]; rfl) hb), h.sep, h.O.set (.inr (.inl rfl)) i _⟩
theorem D3.setY (h : D3 w0 vs vx (.slice (some ⟨g, 0, none⟩) ny c) nl nx ny i j w) (hj : j < ny) : D3 w0 vs vx (.slice (some ⟨g, 0, none⟩) ny c) nl nx ny i (j + 1) (w.setCell ⟨g, j, none⟩ (.int .i64 (-9000 - j))) :=
  ⟨h.t.keep (only_one w g j _) (fun b hb e => h.ty b hb (by rw [e]; rfl)), h.x.keep (only_one w g j _) (fun b hb e => h.sep b hb (by rw [e]; rfl)), h.y.set hj, h.sep, h.O.set (.inr (.inr rfl)) j _⟩
end

/-- Where a slice lies that was grown: in its row, or in a new block. -/
def At0 (w0 : World) (v v' : Value) : Prop := v'.ownBlock = v.ownBlock ∨ ∀ b, v'.ownBlock = some b → w0.heap.size ≤ b
theorem at0_next {w0 w : World} {v v' : Value} {gv n cv : Nat} {tmp : Obj} {w' : World} (h : At0 w0 v v') (hs : w0.heap.size ≤ w.heap.size) (hl : (v'.ownBlock = some gv ∧ (w.alloc tmp).grownBy w' (some gv)) ∨ (gv = (w.alloc tmp).heap.size ∧ (w.alloc tmp).grownBy w' none)) :
    At0 w0 v (.slice (some ⟨gv, 0, none⟩) n cv) := by
  rcases hl with ⟨e, _⟩ | ⟨e, _⟩
  · rcases h with h | h
    · exact .inl (by rw [← h, e]; rfl)
    · exact .inr fun b hb => h b (by rw [e]; exact hb)
  · exact .inr fun b hb => by
      have : gv = b := by simpa [Value.ownBlock] using hb
      simp at e
      omega
/-- What the append has turned. -/
theorem grown_only {w0 w w' : World} {v v' : Value} {gv : Nat} {tmp : Obj} {R : Nat → Prop} (hO : Only w0 w R) (h : At0 w0 v v') (hR : ∀ b, v.ownBlock = some b → R b) (hl : (v'.ownBlock = some gv ∧ (w.alloc tmp).grownBy w' (some gv)) ∨ (gv = (w.alloc tmp).heap.size ∧ (w.alloc tmp).grownBy w' none)) :
    Only w0 w' R ∧ Only w w' (fun b => v'.ownBlock = some b) := by
  rcases hl with ⟨e, g⟩ | ⟨e, g⟩
  · have g2 : w.grownBy w' (some gv) := (World.grownBy_alloc _ _ _).trans g
    refine ⟨only_more hO g2 (fun b hb => ?_), Only.grown g2 (fun k hk => by rw [e]; exact hk)⟩
    cases hb
    rcases h with h | h
    · exact .inl (hR gv (by rw [← h]; exact e))
    · exact .inr (h gv e)
  · have g2 : w.grownBy w' none := (World.grownBy_alloc _ _ _).trans g
    exact ⟨only_more hO g2 (fun b hb => by cases hb), Only.grown g2 (fun k hk => by cases hk)⟩

/-- .. the loop that grows the texts. -/
structure D4 (w0 : World) (vs vx vy : Value) (nl nx ny : Nat) (sv : Value) (k : Nat) (w : World) : Prop where
  t : TxR sv (nl + k) w
  at_ : At0 w0 vs sv
  x : w.ownsRow 0 3 1 vx nx (neg 1000 nx)
  y : w.ownsRow 0 3 1 vy ny (neg 9000 ny)
  sep : ∀ b, vx.ownBlock = some b → vy.ownBlock ≠ some b
  O : Only w0 w (DR vs vx vy)
theorem D4.start {w0 w : World} {vs vx vy : Value} {nl nx ny : Nat} (h : D3 w0 vs vx vy nl nx ny nx ny w) : D4 w0 vs vx vy nl nx ny vs 0 w := ⟨h.t, .inl rfl, h.x.all, h.y.all, h.sep, h.O⟩
theorem D4.next {w0 w w' : World} {vs vx vy sv : Value} {nl nx ny k gv cv : Nat} {tmp : Obj} {L : List ByteArray} {s : ByteArray} (h : D4 w0 vs vx vy nl nx ny sv k w) (hL : L.length = nl + k) (hl0 : OwnS w 0 sv L) (ho : OwnS w' 0 (.slice (some ⟨gv, 0, none⟩) (L.length + 1) cv) (L ++ [s]))
    (hl : (sv.ownBlock = some gv ∧ (w.alloc tmp).grownBy w' (some gv)) ∨ (gv = (w.alloc tmp).heap.size ∧ (w.alloc tmp).grownBy w' none)) : D4 w0 vs vx vy nl nx ny (.slice (some ⟨gv, 0, none⟩) (L.length + 1) cv) (k + 1) w' := by
  obtain ⟨o1, o2⟩ := grown_only h.O h.at_ (fun b hb => .inl hb) hl
  exact ⟨⟨L ++ [s], by simp; omega, ho⟩, at0_next h.at_ h.O.size hl, row_only h.x o2 (fun b hb e => rows_apart hl0 h.x (by decide) b e hb), row_only h.y o2 (fun b hb e => rows_apart hl0 h.y (by decide) b e hb), h.sep, o1⟩

/-- .. the loop that grows the first numbers. -/
structure D5 (w0 : World) (vs vx vy : Value) (nx ny : Nat) (uv : Value) (k : Nat) (w : World) : Prop where
  u : w.ownsRow 0 3 1 uv (nx + k) (neg 1000 nx ++ List.replicate k (.int .i64 5))
  at_ : At0 w0 vx uv
  x : RdI w vx nx (fun j => -1000 - j)
  fx : (∃ ao c, vx = .slice ao nx c) ∧ ∀ g o p l c, vx = .slice (some ⟨g, o, p⟩) l c → o = 0 ∧ p = none
  y : w.ownsRow 0 3 1 vy ny (neg 9000 ny)
  yl : ∀ b, vy.ownBlock = some b → b < w0.heap.size
  xl : ∀ b, vx.ownBlock = some b → b < w0.heap.size
  sep : ∀ b, vx.ownBlock = some b → vy.ownBlock ≠ some b
  O : Only w0 w (DR vs vx vy)
theorem D5.start {w0 w : World} {vs vx vy sv : Value} {nl nx ny : Nat} (h : D4 w0 vs vx vy nl nx ny sv 80 w) (xl : ∀ b, vx.ownBlock = some b → b < w0.heap.size) (yl : ∀ b, vy.ownBlock = some b → b < w0.heap.size) : D5 w0 vs vx vy nx ny vx 0 w := by
  have hx : w.ownsRow 0 3 1 vx nx (neg 1000 nx ++ []) := by rw [List.append_nil]; exact h.x
  exact ⟨hx, .inl rfl, rd_own hx rfl (form_row h.x) (flat_row h.x) (Nat.le_refl _), ⟨form_row h.x, flat_row h.x⟩, h.y, yl, xl, h.sep, h.O⟩
theorem D5.next {w0 w w' : World} {vs vx vy uv : Value} {nx ny k gv cv : Nat} {tmp : Obj} (h : D5 w0 vs vx vy nx ny uv k w) (ho : w'.ownsRow 0 3 1 (.slice (some ⟨gv, 0, none⟩) (nx + k + 1) cv) (nx + k + 1) (neg 1000 nx ++ List.replicate k (.int .i64 5) ++ [.int .i64 5]))
    (hl : (uv.ownBlock = some gv ∧ (w.alloc tmp).grownBy w' (some gv)) ∨ (gv = (w.alloc tmp).heap.size ∧ (w.alloc tmp).grownBy w' none)) : D5 w0 vs vx vy nx ny (.slice (some ⟨gv, 0, none⟩) (nx + k + 1) cv) (k + 1) w' := by
  obtain ⟨o1, o2⟩ := grown_only h.O h.at_ (fun b hb => .inr (.inl hb)) hl
  have ho2 : w'.ownsRow 0 3 1 (.slice (some ⟨gv, 0, none⟩) (nx + k + 1) cv) (nx + (k + 1)) (neg 1000 nx ++ List.replicate (k + 1) (.int .i64 5)) := by
    rw [List.replicate_succ', ← List.append_assoc]
    exact ho
  have hyu : ∀ b, vy.ownBlock = some b → uv.ownBlock ≠ some b := fun b hb e => by
    rcases h.at_ with a | a
    · exact h.sep b (by rw [← a]; exact e) hb
    · have := a b e; have := h.yl b hb; omega
  refine ⟨ho2, at0_next h.at_ h.O.size hl, ?_, h.fx, row_only h.y o2 (fun b hb e => hyu b hb e), h.yl, h.xl, h.sep, o1⟩
  by_cases hb : vx.ownBlock = some gv
  · exact rd_own ho2 (by rw [hb]; rfl) h.fx.1 h.fx.2 (by omega)
  · rcases hl with ⟨e, _⟩ | ⟨e, g⟩
    · exact rd_only h.x o2 (fun b hb2 e2 => hb (by rw [hb2]; rw [e] at e2; exact e2.symm))
    · have g2 : w.grownBy w' none := (World.grownBy_alloc _ _ _).trans g
      exact rd_only h.x (Only.grown (R := fun _ => False) g2 (fun k hk => by cases hk)) (fun _ _ hh => hh)

/-- .. the loop that grows the second numbers. -/
structure D6 (w0 : World) (vs vx vy : Value) (nx ny : Nat) (vv : Value) (k : Nat) (w : World) : Prop where
  v : w.ownsRow 0 3 1 vv (ny + k) (neg 9000 ny ++ List.replicate k (.int .i64 6))
  at_ : At0 w0 vy vv
  x : RdI w vx nx (fun j => -1000 - j)
  y : RdI w vy ny (fun j => -9000 - j)
  fy : (∃ ao c, vy = .slice ao ny c) ∧ ∀ g o p l c, vy = .slice (some ⟨g, o, p⟩) l c → o = 0 ∧ p = none
  xl : ∀ b, vx.ownBlock = some b → b < w0.heap.size
  sep : ∀ b, vx.ownBlock = some b → vy.ownBlock ≠ some b
  O : Only w0 w (DR vs vx vy)
theorem D6.start {w0 w : World} {vs vx vy uv : Value} {nx ny : Nat} (h : D5 w0 vs vx vy nx ny uv 80 w) : D6 w0 vs vx vy nx ny vy 0 w := by
  have hy : w.ownsRow 0 3 1 vy ny (neg 9000 ny ++ []) := by rw [List.append_nil]; exact h.y
  exact ⟨hy, .inl rfl, h.x, rd_own hy rfl (form_row h.y) (flat_row h.y) (Nat.le_refl _), ⟨form_row h.y, flat_row h.y⟩, h.xl, h.sep, h.O⟩
theorem D6.next {w0 w w' : World} {vs vx vy vv : Value} {nx ny k gv cv : Nat} {tmp : Obj} (h : D6 w0 vs vx vy nx ny vv k w) (ho : w'.ownsRow 0 3 1 (.slice (some ⟨gv, 0, none⟩) (ny + k + 1) cv) (ny + k + 1) (neg 9000 ny ++ List.replicate k (.int .i64 6) ++ [.int .i64 6]))
    (hl : (vv.ownBlock = some gv ∧ (w.alloc tmp).grownBy w' (some gv)) ∨ (gv = (w.alloc tmp).heap.size ∧ (w.alloc tmp).grownBy w' none)) : D6 w0 vs vx vy nx ny (.slice (some ⟨gv, 0, none⟩) (ny + k + 1) cv) (k + 1) w' := by
  obtain ⟨o1, o2⟩ := grown_only h.O h.at_ (fun b hb => .inr (.inr hb)) hl
  have ho2 : w'.ownsRow 0 3 1 (.slice (some ⟨gv, 0, none⟩) (ny + k + 1) cv) (ny + (k + 1)) (neg 9000 ny ++ List.replicate (k + 1) (.int .i64 6)) := by
    rw [List.replicate_succ', ← List.append_assoc]
    exact ho
  have hxv : ∀ b, vx.ownBlock = some b → vv.ownBlock ≠ some b := fun b hb e => by
    rcases h.at_ with a | a
    · exact h.sep b hb (by rw [← a]; exact e)
    · have := a b e; have := h.xl b hb; omega
  refine ⟨ho2, at0_next h.at_ h.O.size hl, rd_only h.x o2 (fun b hb e => hxv b hb e), ?_, h.fy, h.xl, h.sep, o1⟩
  by_cases hb : vy.ownBlock = some gv
  · exact rd_own ho2 (by rw [hb]; rfl) h.fy.1 h.fy.2 (by omega)
  · rcases hl with ⟨e, _⟩ | ⟨e, g⟩
    · exact rd_only h.y o2 (fun b hb2 e2 => hb (by rw [hb2]; rw [e] at e2; exact e2.symm))
    · have g2 : w.grownBy w' none := (World.grownBy_alloc _ _ _).trans g
      exact rd_only h.y (Only.grown (R := fun _ => False) g2 (fun k hk => by cases hk)) (fun _ _ hh => hh)

set_option maxRecDepth 100000 in
set_option maxHeartbeats 4000000 in
/-- defaced. -/
theorem defaced_any (vs vx vy : Value) (L : List ByteArray) (nx ny : Nat) (xs ys : List Value) (w : World) (os : OwnS w 0 vs L) (ox : w.ownsRow 0 3 1 vx nx xs) (oy : w.ownsRow 0 3 1 vy ny ys) (sep : ∀ b, vx.ownBlock = some b → vy.ownBlock ≠ some b)
    (hL : L.length ≤ 4194000) (hx : nx ≤ 4194000) (hy : ny ≤ 4194000) :
    Calls Tryd.prog 29 #[vs, vx, vy] w fun e w' => e = .returned (.bool true) ∧ Only w w' (DR vs vx vy) := by
  have S0 : Hid (D3 w vs vx vy L.length nx ny 0 0 w) := ⟨⟨L, rfl, os⟩, ⟨xs, fun j hj => by omega, ox⟩, ⟨ys, fun j hj => by omega, oy⟩, sep, Only.ofBelow (Below.refl _ _)⟩
  have HXL : Hid ((∀ b, vx.ownBlock = some b → b < w.heap.size) ∧ ∀ b, vy.ownBlock = some b → b < w.heap.size) := ⟨fun b hb => (ox.lt b hb).2, fun b hb => (oy.lt b hb).2⟩
  obtain ⟨nl, hnl⟩ : ∃ nl, L.length = nl := ⟨_, rfl⟩
  obtain ⟨az, cs, hvs⟩ := form_row os
  obtain ⟨ax, cx, hvx⟩ := form_row ox
  obtain ⟨ay, cy, hvy⟩ := form_row oy
  rw [hnl] at S0 hvs hL
  subst hvs
  subst hvx
  subst hvy
  clear os ox oy sep hnl
  go_enter Tryd.func29, Tryd.ntmps29
  go_wp2
  go_loopw [20] (fun i wr => ∃ k : Nat, k ≤ nl ∧ i = .int .i64 k ∧ Hid (D3 w (.slice az nl cs) (.slice ax nx cx) (.slice ay ny cy) nl nx ny 0 0 wr)) (fun i _ => nl - (intOf i).toNat)
  case atStart => exact ⟨0, Nat.zero_le _, rfl, S0⟩
  case round =>
    obtain ⟨k, hk, rfl, S1⟩ := hrel
    clear S0
    by_cases hlt : k < nl
    · obtain ⟨L1, hl1, o1⟩ := S1.out.t
      have o1' : wr.ownsRow 0 9 1 (.slice az nl cs) nl (strV L1) := by have := o1; unfold OwnS at this; rwa [hl1] at this
      obtain ⟨g, c, he, _, _⟩ := o1'.form (by omega)
      simp only [Value.slice.injEq, true_and] at he
      obtain ⟨rfl, rfl⟩ := he
      obtain ⟨u, hu⟩ : ∃ u, wr.cell? ⟨g, k, none⟩ = some u := ⟨_, (o1'.cellAt k (by omega)).trans (List.getElem?_eq_getElem (by rw [strV_length]; omega))⟩
      have hf : wr.frozen? ⟨g, k, none⟩ = false := o1'.frozenAt _
      have i0 : (0 : Int) ≤ (k : Int) := by omega
      have i2 : (k : Int) < (nl : Int) := by omega
      clear o1 o1' hl1
      go_wp2
      go_roundw
      case rel => exact ⟨k + 1, by omega, by go_num, S1.out.setS _⟩
      case measure => simp [intOf]; omega
    · have hge : ¬ (k : Int) < (nl : Int) := by omega
      clear hlt hk
      go_wp2
      clear hge
      go_loopw [29] (fun i wr => ∃ k : Nat, k ≤ nx ∧ i = .int .i64 k ∧ Hid (D3 w (.slice az nl cs) (.slice ax nx cx) (.slice ay ny cy) nl nx ny k 0 wr)) (fun i _ => nx - (intOf i).toNat)
      case atStart => exact ⟨0, Nat.zero_le _, rfl, S1⟩
      case round =>
        clear S1
        obtain ⟨k, hk, rfl, S1⟩ := hrel
        by_cases hlt : k < nx
        · obtain ⟨x1, _, o1⟩ := S1.out.x
          obtain ⟨g, c, he, _, _⟩ := o1.form (by omega)
          simp only [Value.slice.injEq, true_and] at he
          obtain ⟨rfl, rfl⟩ := he
          obtain ⟨u, hu⟩ : ∃ u, wr.cell? ⟨g, k, none⟩ = some u := ⟨_, (o1.cellAt k (by omega)).trans (List.getElem?_eq_getElem (by have := o1.1; omega))⟩
          have hf : wr.frozen? ⟨g, k, none⟩ = false := o1.frozenAt _
          have i0 : (0 : Int) ≤ (k : Int) := by omega
          have i2 : (k : Int) < (nx : Int) := by omega
          have S2 := hide (S1.out.setX hlt)
          clear o1
          go_wp2
          go_roundw
          case rel => exact ⟨k + 1, by omega, by go_num, S2⟩
          case measure => simp [intOf]; omega
        · obtain rfl : k = nx := by omega
          clear hlt hk
          go_wp2
          go_loopw [40] (fun i wr => ∃ j : Nat, j ≤ ny ∧ i = .int .i64 j ∧ Hid (D3 w (.slice az nl cs) (.slice ax k cx) (.slice ay ny cy) nl k ny k j wr)) (fun i _ => ny - (intOf i).toNat)
          case atStart => exact ⟨0, Nat.zero_le _, rfl, S1⟩
          case round =>
            clear S1
            obtain ⟨j, hj, rfl, S1⟩ := hrel
            by_cases hlt : j < ny
            · obtain ⟨x1, _, o1⟩ := S1.out.y
              obtain ⟨g, c, he, _, _⟩ := o1.form (by omega)
              simp only [Value.slice.injEq, true_and] at he
              obtain ⟨rfl, rfl⟩ := he
              obtain ⟨u, hu⟩ : ∃ u, wr.cell? ⟨g, j, none⟩ = some u := ⟨_, (o1.cellAt j (by omega)).trans (List.getElem?_eq_getElem (by have := o1.1; omega))⟩
              have hf : wr.frozen? ⟨g, j, none⟩ = false := o1.frozenAt _
              have i0 : (0 : Int) ≤ (j : Int) := by omega
              have i2 : (j : Int) < (ny : Int) := by omega
              have S2 := hide (S1.out.setY hlt)
              clear o1
              go_wp2
              go_roundw
              case rel => exact ⟨j + 1, by omega, by go_num, S2⟩
              case measure => simp [intOf]; omega
            · obtain rfl : j = ny := by omega
              have S4 := hide (D4.start S1.out)
              clear hlt hj S1
              go_wp2
              go_loopw [0, 11] (fun sv i wr => ∃ m : Nat, m ≤ 80 ∧ i = .int .i64 m ∧ Hid (D4 w (.slice az nl cs) (.slice ax k cx) (.slice ay j cy) nl k j sv m wr)) (fun _ i _ => 80 - (intOf i).toNat)
              case atStart => exact ⟨0, Nat.zero_le _, rfl, S4⟩
              case round =>
                clear S4
                obtain ⟨m, hm, rfl, S4⟩ := hrel
                by_cases hlt : m < 80
                · obtain ⟨L1, hl1, o1⟩ := S4.out.t
                  have HL1 := hide hl1
                  have i2 : (m : Int) < 80 := by omega
                  clear hl1
                  go_wp2_with (at_builtin; refine wpList_app1 _ rfl _ _ rfl u0 L1 _ rfl (World.ownsRow.alloc o1 _) ⟨wr.heap.size, 0, none⟩ rfl (cell_one_new _ _ _) (by rw [HL1.out]; omega) ?_)
                  intro gv cv w3 ho hl
                  have S5 := hide (S4.out.next HL1.out o1 ho (hl.imp id (fun x => ⟨by rw [x.1]; simp, x.2⟩)))
                  clear ho hl o1
                  go_wp2
                  go_roundw
                  case rel => exact ⟨m + 1, by omega, by go_num, S5⟩
                  case measure => simp [intOf]; omega
                · have h80 : m = 80 := by omega
                  rw [h80] at S4
                  have i3 : ¬ (m : Int) < 80 := by omega
                  have S5 := hide (D5.start S4.out HXL.out.1 HXL.out.2)
                  obtain ⟨Lf, hlf, of⟩ := S4.out.t
                  obtain ⟨af, cf, hvf⟩ := form_row of
                  rw [hlf] at hvf
                  subst hvf
                  clear S4 hlt hm of hlf Lf h80
                  go_wp2
                  go_loopw [12, 14] (fun uv i wr => ∃ m : Nat, m ≤ 80 ∧ i = .int .i64 m ∧ Hid (D5 w (.slice az nl cs) (.slice ax k cx) (.slice ay j cy) k j uv m wr)) (fun _ i _ => 80 - (intOf i).toNat)
                  case atStart => exact ⟨0, Nat.zero_le _, rfl, S5⟩
                  case round =>
                    clear S5
                    obtain ⟨m, hm, rfl, S5⟩ := hrel
                    by_cases hlt : m < 80
                    · have o1 := S5.out.u
                      have i2 : (m : Int) < 80 := by omega
                      go_wp2_with (at_builtin; refine wpList_app1I _ rfl _ _ rfl u12 (k + m) _ 5 rfl (World.ownsRow.alloc o1 _) ⟨wr.heap.size, 0, none⟩ rfl (cell_one_new _ _ _) (by omega) ?_)
                      intro gv cv w3 ho hl
                      have S6 := hide (S5.out.next (by rw [List.append_assoc]; exact ho) (hl.imp id (fun x => ⟨by rw [x.1]; simp, x.2⟩)))
                      clear ho hl o1
                      go_wp2
                      go_roundw
                      case rel => exact ⟨m + 1, by omega, by go_num, S6⟩
                      case measure => simp [intOf]; omega
                    · have h80 : m = 80 := by omega
                      rw [h80] at S5
                      have i3 : ¬ (m : Int) < 80 := by omega
                      have S6 := hide (D6.start S5.out)
                      obtain ⟨ag, cg, hvg⟩ := form_row S5.out.u
                      subst hvg
                      clear S5 hlt hm h80
                      go_wp2
                      go_loopw [13, 15] (fun vv i wr => ∃ m : Nat, m ≤ 80 ∧ i = .int .i64 m ∧ Hid (D6 w (.slice az nl cs) (.slice ax k cx) (.slice ay j cy) k j vv m wr)) (fun _ i _ => 80 - (intOf i).toNat)
                      case atStart => exact ⟨0, Nat.zero_le _, rfl, S6⟩
                      case round =>
                        clear S6
                        obtain ⟨m, hm, rfl, S6⟩ := hrel
                        by_cases hlt : m < 80
                        · have o1 := S6.out.v
                          have i2 : (m : Int) < 80 := by omega
                          go_wp2_with (at_builtin; refine wpList_app1I _ rfl _ _ rfl u13 (j + m) _ 6 rfl (World.ownsRow.alloc o1 _) ⟨wr.heap.size, 0, none⟩ rfl (cell_one_new _ _ _) (by omega) ?_)
                          intro gv cv w3 ho hl
                          have S7 := hide (S6.out.next (by rw [List.append_assoc]; exact ho) (hl.imp id (fun x => ⟨by rw [x.1]; simp, x.2⟩)))
                          clear ho hl o1
                          go_wp2
                          go_roundw
                          case rel => exact ⟨m + 1, by omega, by go_num, S7⟩
                          case measure => simp [intOf]; omega
                        · have h80 : m = 80 := by omega
                          rw [h80] at S6
                          have i3 : ¬ (m : Int) < 80 := by omega
                          obtain ⟨ah, ch, hvh⟩ := form_row S6.out.v
                          subst hvh
                          have HR := hide (And.intro S6.out.x (And.intro S6.out.y S6.out.O))
                          clear S6 hlt hm h80
                          obtain ⟨W, hW⟩ : ∃ W, W = wr := ⟨_, rfl⟩
                          rw [← hW] at HR
                          go_wp2
                          go_loopw [10, 74] (fun n i wr => ∃ m : Nat, m ≤ k ∧ n = .int .i64 m ∧ i = .int .i64 m ∧ wr = W) (fun _ i _ => k - (intOf i).toNat)
                          case atStart => exact ⟨0, Nat.zero_le _, rfl, rfl, hW.symm⟩
                          case round =>
                            clear hW
                            obtain ⟨m, hm, rfl, rfl, rfl⟩ := hrel
                            by_cases hlt : m < k
                            · obtain ⟨g, c, he, hc⟩ := HR.out.1 m hlt
                              simp only [Value.slice.injEq, true_and] at he
                              obtain ⟨rfl, rfl⟩ := he
                              have i0 : (0 : Int) ≤ (m : Int) := by omega
                              have i2 : (m : Int) < (k : Int) := by omega
                              go_wp2
                              go_roundw
                              case rel => exact ⟨m + 1, by omega, by go_num, by go_num, by trivial⟩
                              case measure => simp [intOf]; omega
                            · obtain rfl : m = k := by omega
                              clear hlt hm
                              obtain ⟨W2, hW2⟩ : ∃ W2, W2 = wr := ⟨_, rfl⟩
                              rw [← hW2] at HR
                              go_wp2
                              go_loopw [10, 89] (fun n i wr => ∃ q : Nat, q ≤ j ∧ n = .int .i64 ((m : Int) + q) ∧ i = .int .i64 q ∧ wr = W2) (fun _ i _ => j - (intOf i).toNat)
                              case atStart => exact ⟨0, Nat.zero_le _, by simp, rfl, hW2.symm⟩
                              case round =>
                                clear hW2
                                obtain ⟨q, hq, rfl, rfl, rfl⟩ := hrel
                                by_cases hlt : q < j
                                · obtain ⟨g, c, he, hc⟩ := HR.out.2.1 q hlt
                                  simp only [Value.slice.injEq, true_and] at he
                                  obtain ⟨rfl, rfl⟩ := he
                                  have i0 : (0 : Int) ≤ (q : Int) := by omega
                                  have i2 : (q : Int) < (j : Int) := by omega
                                  go_wp2
                                  go_roundw
                                  case rel => exact ⟨q + 1, by omega, by go_num, by go_num, by trivial⟩
                                  case measure => simp [intOf]; omega
                                · obtain rfl : q = j := by omega
                                  clear hlt hq
                                  have t1 : decide ((80 : Int) ≤ (nl : Int) + 80) = true := decide_eq_true (by omega)
                                  have t2 : decide ((80 : Int) ≤ (m : Int) + 80) = true := decide_eq_true (by omega)
                                  have t3 : decide ((80 : Int) ≤ (q : Int) + 80) = true := decide_eq_true (by omega)
                                  go_wp2
                                  go_ret
                                  exact ⟨rfl, HR.out.2.2⟩
end Go.Proofs.YtnfdifkcchciaaaDoor
