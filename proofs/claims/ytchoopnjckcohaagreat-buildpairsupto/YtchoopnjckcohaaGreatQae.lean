import Derived.Test.YtchoopnjckcohaaGreatQad
set_option maxRecDepth 100000
set_option maxHeartbeats 40000000
namespace Go.Proofs.YtchoopnjckcohaaGreat
open Tryz
open Go.RowKit Go.Maps Go.Shelf
def AR (lay : Bool) : List Aa → List Aa → Aq → Nat → List Aq := if lay then Cr else Cq
theorem Ev {bud : Int} : ∀ (T ps : List Aq) (ns ns' : List Int) (ps' : List Aq), ps.Nodup → Af bud false ps T ns = (0, ps', ns') → ns' = ns ++ T.map fun t => (ps'.idxOf t : Int)
 | [], ps, ns, ns', ps', _, h => by
  rw [Af] at h
  cases h
  simp
 | t :: ts, ps, ns, ns', ps', hn, h => by
  obtain ⟨⟨x, hx⟩, _, _, _, _⟩ := AQ _ _ _ _ _ _ _ _ h hn
  rw [Af] at h
  by_cases hm : t ∈ ps
  · rw [if_pos hm] at h
    rw [Ev ts ps _ ns' ps' hn h, List.map_cons, hx, Jy hm]
    simp
  · rw [if_neg hm] at h
    by_cases h1 : bud ≤ (ps.length : Int)
    · rw [if_pos h1] at h; cases h
    · rw [if_neg h1] at h
      by_cases h2 : 4096 ≤ ps.length
      · rw [if_pos h2] at h; cases h
      · rw [if_neg h2] at h
        have hn2 : (ps ++ [t]).Nodup := by
         rw [List.nodup_append]
         refine ⟨hn, by simp, fun a ha b hb => ?_⟩
         rw [List.mem_singleton] at hb
         rintro rfl
         exact hm (hb ▸ ha)
        obtain ⟨⟨y, hy⟩, _, _, _, _⟩ := AQ _ _ _ _ _ _ _ _ h hn2
        have e : ps'.idxOf t = ps.length := by
         rw [hy, Jy (by simp), List.idxOf_append, if_neg hm]
         simp
        rw [Ev ts (ps ++ [t]) _ ns' ps' hn2 h, List.map_cons, e]
        simp
theorem Np {ps : List Aq} {a b : Aq} (ha : a ∈ ps) (hb : b ∈ ps) (h : (ps.idxOf a : Int) = (ps.idxOf b : Int)) : a = b := by
 have h1 := List.getElem_idxOf (List.idxOf_lt_length_of_mem ha)
 have h2 := List.getElem_idxOf (List.idxOf_lt_length_of_mem hb)
 have h3 : ps.idxOf a = ps.idxOf b := by omega
 rw [← h1, ← h2]
 simp only [h3]
theorem Kl {T : List Aq} {f : Aq → Int} (hi : ∀ a ∈ T, ∀ b ∈ T, f a = f b → a = b) (hc : ∀ t, T.count t ≤ 2) (n : Int) : (T.map f).count n ≤ 2 := by
 by_cases h : n ∈ T.map f
 · obtain ⟨t, ht, rfl⟩ := List.mem_map.1 h
   refine Nat.le_trans ?_ (hc t)
   rw [List.count_eq_countP, List.count_eq_countP, List.countP_map]
   refine List.countP_mono_left (fun x hx e => ?_)
   have : f x = f t := by simpa using e
   simpa using hi x hx t ht this
 · rw [List.count_eq_zero_of_not_mem h]; omega
theorem Js : ∀ (d l : List Aa), (∀ e ∈ l, e ∈ d) → (∀ e, l.count e ≤ 2) → l.length ≤ 2 * d.length
 | [], l, h, _ => by
  cases l with
  | nil => simp
  | cons a l => exact absurd (h a (by simp)) (by simp)
 | a :: d, l, h, hc => by
  have q := Js d (l.filter fun e => !(e == a)) (fun e he => by
   obtain ⟨h1, h2⟩ := List.mem_filter.1 he
   rcases List.mem_cons.1 (h e h1) with rfl | h3
   · simp at h2
   · exact h3) (fun e => Nat.le_trans (List.Sublist.count_le e List.filter_sublist) (hc e))
  have q2 := List.length_eq_countP_add_countP (l := l) (fun e => e == a)
  have q3 := hc a
  rw [List.count_eq_countP] at q3
  have q4 : List.countP (fun e => decide ¬ (e == a) = true) l = (l.filter fun e => !(e == a)).length := by
   rw [List.countP_eq_length_filter]
   congr 1
   refine List.filter_congr (fun x _ => ?_)
   by_cases hx : (x == a) = true <;> simp [hx]
  rw [q4] at q2
  rw [List.length_cons]
  omega
theorem LK {l : List Aa} (h : ∀ e, l.count e ≤ 2) : l.length ≤ 2 * (A7 l).length := Js _ _ (fun _e he => (AY _ _).2 he) h
theorem Ly {raw : List Aa} (h : ∀ e, raw.count e ≤ 2) : (65536 < (A7 (raw.take 131073)).length ↔ 65536 < (A7 raw).length) ∧ (¬ 65536 < (A7 raw).length → raw.take 131073 = raw) := by
 have ht : ∀ e, (raw.take 131073).count e ≤ 2 := fun e => Nat.le_trans (List.Sublist.count_le e (List.take_sublist _ _)) (h e)
 by_cases hl : raw.length ≤ 131073
 · rw [List.take_of_length_le hl]
   exact ⟨Iff.rfl, fun _ => rfl⟩
 · have q := LK ht
   rw [List.length_take] at q
   have q2 : (A7 (raw.take 131073)).length ≤ (A7 raw).length := by
    have := DS (raw.take 131073) (raw.drop 131073)
    rwa [List.take_append_drop] at this
   exact ⟨⟨fun _ => by omega, fun _ => by omega⟩, fun q3 => by omega⟩
theorem Dj {T : List Aq} (h : T.Nodup) (t : Aq) : T.count t ≤ 1 := List.nodup_iff_count.1 h t
theorem KL {X Y : List Int} (hX : X.Nodup) (hY : Y.Nodup) (p q : Int) (t : Aq) : (C7 X Y p q).count t ≤ 2 := by
 unfold C7
 rw [List.count_append]
 have h1 := Dj (T := X.map fun x => (x, q)) (List.pairwise_map.2 (hX.imp fun h e => h (Prod.mk.inj e).1)) t
 have h2 := Dj (T := Y.map fun y => (p, y)) (List.pairwise_map.2 (hY.imp fun h e => h (Prod.mk.inj e).2)) t
 omega
theorem KJ {lay : Bool} {E1 E2 : List Aa} (h1 : Fc E1) (h2 : Fc E2) (x : Aq) (s : Nat) (t : Aq) : (AR lay E1 E2 x s).count t ≤ 2 := by
 cases lay with
 | true => exact KL (BM h1 _ _) (BM h2 _ _) _ _ t
 | false => exact Nat.le_trans (Dj (LN (BM h1 _ _) (BM h2 _ _)) t) (by omega)
theorem Mj {bud : Int} {T ps : List Aq} (hn : T.Nodup) (hp : ps.Nodup) (hl : ps.length ≤ 4096) : Af bud false ps T [] = Af bud false ps (T.take 4097) [] := by
 have e := FY bud false (T.take 4097) (T.drop 4097) ps []
 rw [List.take_append_drop] at e
 rw [e]
 by_cases h : (Af bud false ps (T.take 4097) []).1 = 0
 · rw [if_pos h]
   have he : Af bud false ps (T.take 4097) [] = (0, (Af bud false ps (T.take 4097) []).2.1, (Af bud false ps (T.take 4097) []).2.2) := Prod.ext h rfl
   obtain ⟨_, _, _, k4, _⟩ := AQ _ _ _ _ _ _ _ _ he hp
   have q := CI (hn.sublist (List.take_sublist 4097 T)) (k4 rfl).1
   have q2 := Ch bud false (T.take 4097) ps [] hl
   rw [List.length_take] at q
   rw [List.drop_of_length_le (by omega), Af]
   exact he.symm
 · rw [if_neg h]
theorem Ns {bud : Int} {lay : Bool} {E1 E2 : List Aa} {N1 N2 m : Nat} (h1 : EY N1 m E1) (h2 : EY N2 m E2) {ps : List Aq} (hp : ps.Nodup) (hl : ps.length ≤ 4096) (p q k : Nat) : Af bud false ps (Ck lay E1 E2 ((p : Int), (q : Int)) (k : Int)) [] = Af bud false ps (AR lay E1 E2 ((p : Int), (q : Int)) k) [] := by
 cases lay with
 | false => exact (Mj (LC h1 h2 p q k) hp hl).symm
 | true =>
  have l1 := GT h1 p k
  have l2 := GT h2 q k
  have e : Ck true E1 E2 ((p : Int), (q : Int)) (k : Int) = AR true E1 E2 ((p : Int), (q : Int)) k := by
   show (Az (B5 (Ar E1 p (k : Int))) [(q : Int)]).take 4097 ++ (Az [(p : Int)] (B5 (Ar E2 q (k : Int)))).take 4097 = C7 (B5 (Ar E1 p (k : Int))) (B5 (Ar E2 q (k : Int))) (p : Int) (q : Int)
   generalize B5 (Ar E1 p (k : Int)) = X at l1
   generalize B5 (Ar E2 q (k : Int)) = Y at l2
   have e1 : Az X [(q : Int)] = X.map fun x => (x, (q : Int)) := by
    unfold Az
    induction X with
    | nil => rfl
    | cons a X ih => rw [List.flatMap_cons, ih (by simp only [List.length_cons] at l1; omega)]; rfl
   have e2 : Az [(p : Int)] Y = Y.map fun y => ((p : Int), y) := by simp [Az]
   rw [e1, e2, List.take_of_length_le (by rw [List.length_map]; omega), List.take_of_length_le (by rw [List.length_map]; omega)]
   rfl
  rw [e]
theorem Oz {lay : Bool} {E1 E2 : List Aa} {x : Aq} {k : Int} : (Ck lay E1 E2 x k).length ≤ 8194 := by
 cases lay with
 | true =>
  show ((Az (Ct E1 x.1 k) [x.2]).take 4097 ++ (Az [x.1] (Ct E2 x.2 k)).take 4097).length ≤ 8194
  rw [List.length_append, List.length_take, List.length_take]
  omega
 | false =>
  show ((Az (Ct E1 x.1 k) (Ct E2 x.2 k)).take 4097).length ≤ 8194
  rw [List.length_take]
  omega
theorem MG {f1 f2 : Nat → Bool} {ps x : List Aq} {k : Nat} (h : k ≤ ps.length) : Cj f1 f2 (ps ++ x) k = Cj f1 f2 ps k := by
 unfold Cj
 congr 1
 refine List.filter_congr (fun j hj => ?_)
 rw [List.mem_range] at hj
 rw [List.getElem?_append_left (by omega)]
def Bl (i : Nat) : List Int := (List.range i).map fun j : Nat => (j : Int)
theorem CY (i : Nat) : (Bl i).length = i := by simp [Bl]
theorem Gn (i : Nat) : Bl (i + 1) = Bl i ++ [(i : Int)] := by simp [Bl, List.range_succ]
theorem Ox (i : Nat) : (Bl i).Pairwise (· < ·) := List.pairwise_map.2 (List.pairwise_lt_range.imp fun h => by omega)
theorem NV (f1 f2 : Nat → Bool) (ps : List Aq) (k : Nat) : (Cj f1 f2 ps k).Pairwise (· < ·) := by
 unfold Cj
 exact List.pairwise_map.2 ((List.pairwise_lt_range.sublist List.filter_sublist).imp fun h => by omega)
theorem Ju {n : Nat} {b : Int} (h : n ≤ 4097) : Fe (n : Int) b = if BF b ≤ (n : Int) then 9 else if 4096 ≤ n then 8 else 0 := by
 unfold Fe BF
 by_cases h1 : b ≤ 0
 · have e1 : ¬ (b > 0 ∧ (n : Int) ≥ b) := by omega
   have e2 : ¬ (9223372036854775807 : Int) ≤ (n : Int) := by omega
   rw [if_neg e1, if_pos h1, if_neg e2]
   by_cases h2 : 4096 ≤ n
   · have e3 : (n : Int) ≥ 4096 := by omega
     rw [if_pos e3, if_pos h2]
   · have e3 : ¬ (n : Int) ≥ 4096 := by omega
     rw [if_neg e3, if_neg h2]
 · rw [if_neg h1]
   by_cases h3 : b ≤ (n : Int)
   · have e1 : b > 0 ∧ (n : Int) ≥ b := by omega
     rw [if_pos e1, if_pos h3]
   · have e1 : ¬ (b > 0 ∧ (n : Int) ≥ b) := by omega
     rw [if_neg e1, if_neg h3]
     by_cases h2 : 4096 ≤ n
     · have e3 : (n : Int) ≥ 4096 := by omega
       rw [if_pos e3, if_pos h2]
     · have e3 : ¬ (n : Int) ≥ 4096 := by omega
       rw [if_neg e3, if_neg h2]
theorem Fu {bud : Int} {ps ts : List Aq} {t : Aq} {ns : List Int} (h : t ∉ ps) : Af bud false ps (t :: ts) ns = if bud ≤ (ps.length : Int) then (9, ps, ns) else if 4096 ≤ ps.length then (8, ps, ns) else Af bud false (ps ++ [t]) ts (ns ++ [(ps.length : Int)]) := by
 rw [Af, if_neg h]
 rfl
theorem Hc {bud : Int} {ps ts : List Aq} {t : Aq} {ns : List Int} (h : t ∈ ps) : Af bud false ps (t :: ts) ns = Af bud false ps ts (ns ++ [(ps.idxOf t : Int)]) := by
 rw [Af, if_pos h]
 rfl
end Go.Proofs.YtchoopnjckcohaaGreat
namespace Go.Proofs.YtchoopnjckcohaaGreat
open Tryz
open Go.RowKit Go.Maps Go.Shelf
attribute [local go_sem] Oper.semAt_some
theorem C8 {W : World} {B n sz p : Nat} {e t : TypeId} {v : Value} {xs : List Value} {cs : Array Value} {fr : Nat × Nat} (h : W.ownsRow B e sz v n xs) (z : W.heap[p]? = some (.cells cs t fr)) (ne : e ≠ t) : ¬ v.ownBlock = some p := by
 intro hk
 rcases h.2 with ⟨hv, _⟩ | ⟨g, cap, cur, hv, hb, hg, _⟩
 · rw [hv] at hk; cases hk
 · rw [hv] at hk
   obtain rfl : g = p := by simpa [Value.ownBlock] using hk
   rw [hg] at z
   cases z
   exact ne rfl
theorem Gp {ops : Array Oper} {rest : List Oper} {o : Oper} {a : Act} {Q : Exit → Act → World → Prop} {w : World} (hgd : o.guard = none) (s x : Operand)
 (ho : o.op = .call { callee := .builtin .append, args := #[s, x], argTypes := #[22, 22] }) (B : Nat) (v : Value) (X : List Int) (hs : a.eval s = v) (hown : w.ownsRow B 3 1 v X.length (X.map (Value.int .i64))) (p : Nat) (y : Int) (hx : a.eval x = .slice (some ⟨p, 0, none⟩) 1 1) (hp : w.heap[p]? = some (.cells #[.int .i64 y] 3 (0, 0))) (hl : X.length ≤ 16777216) (hB : B ≤ w.heap.size)
 (h : ∀ v' w', Hid (w'.ownsRow B 3 1 v' (X ++ [y]).length ((X ++ [y]).map (Value.int .i64))) → Hid (Ab w w' (fun k => v.ownBlock = some k)) → Hid (v'.ownBlock = v.ownBlock ∨ v'.ownBlock = some w.heap.size) → wpList prog ops Q rest (a.put o.dst v') w') : wpList prog ops Q (o :: rest) a w := by
 obtain ⟨i3, hi3, hz30, hz31, hz32⟩ := AA Et
 refine wpList_append_own_at _ hgd s x 22 ho B 3 i3 _ 1 8 underlying22 hi3 hz30 hz31 hz32 rfl (by omega) v X.length (X.map (Value.int .i64)) hs hown ⟨p, 0, none⟩ 1 1 [.int .i64 y] hx rfl (EF hp) (by simp [Value.oneCell']) (by unfold maxLen; omega) (by omega) (by omega) ?_
 intro v2 w2 h2 hgr _ hn
 exact h v2 w2 (A0 (by rw [List.map_append, List.length_append]; exact h2)) (A0 (AL hgr)) (A0 hn)
structure DG (W0 W : World) (p : Nat) (n m : Int) (vS vF vE vM : Value) (S F : List Int) (E : List Aa) (M : List Aq) : Prop where
 bx : W.heap[p]? = some (.cells #[.int .i64 n, .int .i64 m, vS, vF, vE] 25 (0, 0))
 hp : W0.heap.size ≤ p
 rs : W.ownsRow W0.heap.size 3 1 vS S.length (S.map (Value.int .i64))
 rf : W.ownsRow W0.heap.size 3 1 vF F.length (F.map (Value.int .i64))
 re : W.ownsRow W0.heap.size 50 3 vE E.length (E.flatMap Ae)
 rm : W.ownsRow W0.heap.size 57 2 vM M.length (M.flatMap Bn)
 ap : ∀ k, vS.ownBlock = some k → vF.ownBlock = some k → False
 be : Below W0.heap.size W0 W
theorem DG.on {W0 W W' : World} {p : Nat} {n m : Int} {vS vF vE vM : Value} {S F : List Int} {E : List Aa} {M : List Aq} (h : DG W0 W p n m vS vF vE vM S F E M) (d : Below W.heap.size W W') : DG W0 W' p n m vS vF vE vM S F E M := ⟨A3 h.bx d, h.hp, A6 h.rs d, A6 h.rf d, A6 h.re d, A6 h.rm d, h.ap, h.be.trans (d.mono h.be.size)⟩
theorem Q9 {W0 W Wa w5 : World} {p : Nat} {n m : Int} {vS vF vE vM v5 : Value} {S F : List Int} {E : List Aa} {M : List Aq} {y : Int} (h : DG W0 W p n m vS vF vE vM S F E M) (d : Below W.heap.size W Wa) (o : w5.ownsRow W0.heap.size 3 1 v5 (S ++ [y]).length ((S ++ [y]).map (Value.int .i64))) (g : Ab Wa w5 (fun k => vS.ownBlock = some k)) (a : v5.ownBlock = vS.ownBlock ∨ v5.ownBlock = some Wa.heap.size) : DG W0 (w5.setCell ⟨p, 2, none⟩ v5) p n m v5 vF vE vM (S ++ [y]) F E M := by
 have q := h.on d
 have bx5 := g.cellK q.bx (C8 q.rs q.bx (by decide))
 have s := heap_setCell_same w5 p 2 _ 25 v5 bx5
 have os := Ah w5 p 2 v5
 have b1 := q.be.trans (g.toBelow q.be.size (fun k hk => (q.rs.lt k hk).1))
 exact ⟨by simpa using s, q.hp, Ap o bx5 (by decide) os, Ap (A9 q.rf g (fun k hk e => q.ap k e hk)) bx5 (by decide) os, Ap (A9 q.re g (fun k hk e => Ai q.re q.rs (by decide) hk e)) bx5 (by decide) os, Ap (A9 q.rm g (fun k hk e => Ai q.rm q.rs (by decide) hk e)) bx5 (by decide) os, fun k h1 h2 => by
  rcases a with e | e
  · rw [e] at h1; exact q.ap k h1 h2
  · have := (q.rf.lt k h2).2
    rw [e] at h1
    have : Wa.heap.size = k := by simpa using h1
    omega, b1.trans (os.toBelow b1.size (fun k hk => by subst hk; exact q.hp))⟩
theorem Q7 {W0 W Wa w5 : World} {p : Nat} {n m : Int} {vS vF vE vM v5 : Value} {S F : List Int} {E : List Aa} {M : List Aq} {y : Int} (h : DG W0 W p n m vS vF vE vM S F E M) (d : Below W.heap.size W Wa) (o : w5.ownsRow W0.heap.size 3 1 v5 (F ++ [y]).length ((F ++ [y]).map (Value.int .i64))) (g : Ab Wa w5 (fun k => vF.ownBlock = some k)) (a : v5.ownBlock = vF.ownBlock ∨ v5.ownBlock = some Wa.heap.size) : DG W0 (w5.setCell ⟨p, 3, none⟩ v5) p n m vS v5 vE vM S (F ++ [y]) E M := by
 have q := h.on d
 have bx5 := g.cellK q.bx (C8 q.rf q.bx (by decide))
 have s := heap_setCell_same w5 p 3 _ 25 v5 bx5
 have os := Ah w5 p 3 v5
 have b1 := q.be.trans (g.toBelow q.be.size (fun k hk => (q.rf.lt k hk).1))
 exact ⟨by simpa using s, q.hp, Ap (A9 q.rs g (fun k hk e => q.ap k hk e)) bx5 (by decide) os, Ap o bx5 (by decide) os, Ap (A9 q.re g (fun k hk e => Ai q.re q.rf (by decide) hk e)) bx5 (by decide) os, Ap (A9 q.rm g (fun k hk e => Ai q.rm q.rf (by decide) hk e)) bx5 (by decide) os, fun k h1 h2 => by
  rcases a with e | e
  · rw [e] at h2; exact q.ap k h1 h2
  · have := (q.rs.lt k h1).2
    rw [e] at h2
    have : Wa.heap.size = k := by simpa using h2
    omega, b1.trans (os.toBelow b1.size (fun k hk => by subst hk; exact q.hp))⟩
theorem Qa {W0 W Wa w5 : World} {p : Nat} {n m : Int} {vS vF vE vM v5 : Value} {S F : List Int} {E : List Aa} {M : List Aq} {y : Aa} (h : DG W0 W p n m vS vF vE vM S F E M) (d : Below W.heap.size W Wa) (o : w5.ownsRow W0.heap.size 50 3 v5 (E ++ [y]).length ((E ++ [y]).flatMap Ae)) (g : Ab Wa w5 (fun k => vE.ownBlock = some k)) : DG W0 (w5.setCell ⟨p, 4, none⟩ v5) p n m vS vF v5 vM S F (E ++ [y]) M := by
 have q := h.on d
 have bx5 := g.cellK q.bx (C8 q.re q.bx (by decide))
 have s := heap_setCell_same w5 p 4 _ 25 v5 bx5
 have os := Ah w5 p 4 v5
 have b1 := q.be.trans (g.toBelow q.be.size (fun k hk => (q.re.lt k hk).1))
 exact ⟨by simpa using s, q.hp, Ap (A9 q.rs g (fun k hk e => Ai q.rs q.re (by decide) hk e)) bx5 (by decide) os, Ap (A9 q.rf g (fun k hk e => Ai q.rf q.re (by decide) hk e)) bx5 (by decide) os, Ap o bx5 (by decide) os, Ap (A9 q.rm g (fun k hk e => Ai q.rm q.re (by decide) hk e)) bx5 (by decide) os, q.ap, b1.trans (os.toBelow b1.size (fun k hk => by subst hk; exact q.hp))⟩
theorem Q3 {W0 W Wa w5 : World} {p : Nat} {n m : Int} {vS vF vE vM v5 : Value} {S F : List Int} {E : List Aa} {M : List Aq} {t : Aq} (h : DG W0 W p n m vS vF vE vM S F E M) (d : Below W.heap.size W Wa) (o : w5.ownsRow W0.heap.size 57 2 v5 (M ++ [t]).length ((M ++ [t]).flatMap Bn)) (g : Ab Wa w5 (fun k => vM.ownBlock = some k)) : DG W0 w5 p n m vS vF vE v5 S F E (M ++ [t]) := by
 have q := h.on d
 exact ⟨g.cellK q.bx (C8 q.rm q.bx (by decide)), q.hp, A9 q.rs g (fun k hk e => Ai q.rs q.rm (by decide) hk e), A9 q.rf g (fun k hk e => Ai q.rf q.rm (by decide) hk e), A9 q.re g (fun k hk e => Ai q.re q.rm (by decide) hk e), o, q.ap, q.be.trans (g.toBelow q.be.size (fun k hk => (q.rm.lt k hk).1))⟩
theorem Qc {W0 W : World} {p : Nat} {n n' m : Int} {vS vF vE vM : Value} {S F : List Int} {E : List Aa} {M : List Aq} (h : DG W0 W p n m vS vF vE vM S F E M) : DG W0 (W.setCell ⟨p, 0, none⟩ (.int .i64 n')) p n' m vS vF vE vM S F E M := by
 have s := heap_setCell_same W p 0 _ 25 (.int .i64 n') h.bx
 have os := Ah W p 0 (.int .i64 n')
 exact ⟨by simpa using s, h.hp, Ap h.rs h.bx (by decide) os, Ap h.rf h.bx (by decide) os, Ap h.re h.bx (by decide) os, Ap h.rm h.bx (by decide) os, h.ap, h.be.trans (os.toBelow h.be.size (fun k hk => by subst hk; exact h.hp))⟩
structure GR (W : World) (lo hi : Nat) (al : Option Addr) (l cl : Nat) (L : List Aq) (vM : Value) : Prop where
 ll : L.length = l
 lr : W.ownsRow lo 57 2 (.slice al l cl) l (L.flatMap Bn)
 lb : ∀ k, (Value.slice al l cl).ownBlock = some k → k < hi
 mb : ∀ k, vM.ownBlock = some k → k < lo ∨ hi ≤ k
 hs : hi ≤ W.heap.size
theorem GR.of {W Wa W' : World} {lo hi : Nat} {al : Option Addr} {l cl : Nat} {L : List Aq} {vM : Value} (g : GR W lo hi al l cl L vM) (d : Below W.heap.size W Wa) {R : Nat → Prop} (o : Ab Wa W' R) (hR : ∀ k, (Value.slice al l cl).ownBlock = some k → ¬ R k) : GR W' lo hi al l cl L vM := ⟨g.ll, A9 (A6 g.lr d) o hR, g.lb, g.mb, by have := g.hs; have := d.size; have := o.size; omega⟩
theorem GR.on {W W' : World} {lo hi : Nat} {al : Option Addr} {l cl : Nat} {L : List Aq} {vM : Value} (g : GR W lo hi al l cl L vM) (d : Below W.heap.size W W') : GR W' lo hi al l cl L vM := ⟨g.ll, A6 g.lr d, g.lb, g.mb, by have := g.hs; have := d.size; omega⟩
theorem Q0 {W Wa w5 : World} {lo hi : Nat} {al : Option Addr} {l cl : Nat} {L : List Aq} {vM v5 : Value} (g : GR W lo hi al l cl L vM) (d : Below W.heap.size W Wa) (o : Ab Wa w5 (fun k => vM.ownBlock = some k)) (a : v5.ownBlock = vM.ownBlock ∨ v5.ownBlock = some Wa.heap.size) : GR w5 lo hi al l cl L v5 := by
 have q := g.of d o (fun k hk e => by
  have h1 := g.mb k e
  have h2 := g.lb k hk
  have h3 := (g.lr.lt k hk).1
  omega)
 refine ⟨q.ll, q.lr, q.lb, fun k hk => ?_, q.hs⟩
 rcases a with e | e
 · rw [e] at hk; exact q.mb k hk
 · rw [e] at hk
   have : Wa.heap.size = k := by simpa using hk
   have := g.hs
   have := d.size
   omega
theorem PT {W0 W Wa w5 : World} {p f : Nat} {n m : Int} {vS vF vE vM v v5 : Value} {S F : List Int} {E : List Aa} {M : List Aq} {lo hi : Nat} {al : Option Addr} {l cl k0 sz : Nat} {ty : TypeId} {xs : List Value} {L : List Aq} (g : GR W lo hi al l cl L vM) (h : DG W0 W p n m vS vF vE vM S F E M) (d : Below W.heap.size W Wa) (hv : W.ownsRow W0.heap.size ty sz v k0 xs) (ht : ty ≠ 57) (o : Ab Wa w5 (fun k => v.ownBlock = some k)) : GR (w5.setCell ⟨p, f, none⟩ v5) lo hi al l cl L vM := by
 have q := g.of d o (fun k hk e => Ai (A6 g.lr d) (A6 hv d) ht hk e)
 exact q.of (Below.refl _ _) (Ah w5 p f v5) (fun k hk e => by subst e; exact C8 (A6 g.lr d) (A3 h.bx d) (by decide) hk)
structure DJ (bud : Int) (T : Aq → Nat → List Aq) (m N1 N2 : Nat) (ps0 ps : List Aq) (raw : List Aa) (i s : Nat) : Prop where
 nd : ps.Nodup
 bd : ∀ x ∈ ps, ∃ p q : Nat, x = ((p : Int), (q : Int)) ∧ p < N1 ∧ q < N2
 pl : ps.length ≤ 4096
 fn : Bb bud T m (4098 * (m + 1)) ps0 [] 0 0 = Bb bud T m (4098 * (m + 1) - (i * (m + 1) + s)) ps raw i s
 lt : ∀ e ∈ raw, e.1 < (i : Int) ∨ (e.1 = (i : Int) ∧ e.2.1 < (s : Int))
 ct : ∀ e, raw.count e ≤ 2
section
variable {bud : Int} {T : Aq → Nat → List Aq} {m N1 N2 : Nat} {ps0 ps ps' : List Aq} {raw : List Aa} {i s : Nat} {ns : List Int}
theorem Kb {L : List Aq} (hm : ∀ t ∈ L, t ∈ ps') (hc : ∀ t, L.count t ≤ 2) (e : Aa) : (Bp i s (L.map fun t => (ps'.idxOf t : Int))).count e ≤ 2 := by
 unfold Bp
 by_cases h : e ∈ (L.map fun t => (ps'.idxOf t : Int)).map fun n => ((i : Int), (s : Int), n)
 · obtain ⟨n, hn, rfl⟩ := List.mem_map.1 h
   refine Nat.le_trans ?_ (Kl (f := fun t => (ps'.idxOf t : Int)) (fun a ha b hb e => Np (hm a ha) (hm b hb) e) hc n)
   rw [List.count_eq_countP, List.count_eq_countP, List.countP_map]
   refine List.countP_mono_left (fun x hx e => ?_)
   simpa using e
 · rw [List.count_eq_zero_of_not_mem h]; omega
theorem DJ.sym (h : DJ bud T m N1 N2 ps0 ps raw i s) (hi : i < ps.length) (hs : s < m) (hb : ∀ t ∈ T ps[i] s, ∃ p q : Nat, t = ((p : Int), (q : Int)) ∧ p < N1 ∧ q < N2) (hc : ∀ t, (T ps[i] s).count t ≤ 2) (he : Af bud false ps (T ps[i] s) [] = (0, ps', ns)) : DJ bud T m N1 N2 ps0 ps' (raw ++ Bp i s ns) i (s + 1) := by
 obtain ⟨⟨x, hx⟩, k2, k3, k4, k5⟩ := AQ _ _ _ _ _ _ _ _ he h.nd
 have hp := h.pl
 have cap := Ch bud false (T ps[i] s) ps [] h.pl
 rw [he] at cap
 refine ⟨k2, fun y hy => (k3 y hy).elim (h.bd y) (hb y), cap, ?_, fun e he => ?_, fun e => ?_⟩
 · rw [h.fn, BP (by omega) (by omega), FP (List.getElem?_eq_getElem hi) hs he]
 · rcases List.mem_append.1 he with he | he
   · have := h.lt e he
     omega
   · obtain ⟨n, _, rfl⟩ := List.mem_map.1 he
     exact .inr ⟨rfl, by simp only; omega⟩
 · rw [List.count_append]
   have e1 := Ev _ _ _ _ _ h.nd he
   rw [List.nil_append] at e1
   subst e1
   have q := Kb (i := i) (s := s) (k4 rfl).1 hc e
   by_cases hm : e ∈ Bp i s ((T ps[i] s).map fun t => (ps'.idxOf t : Int))
   · have : e ∉ raw := fun hr => by
      obtain ⟨n, _, rfl⟩ := List.mem_map.1 hm
      have := h.lt _ hr
      simp only at this
      omega
     rw [List.count_eq_zero_of_not_mem this]
     omega
   · rw [List.count_eq_zero_of_not_mem hm]
     exact h.ct e
theorem DJ.err {er : Int} (h : DJ bud T m N1 N2 ps0 ps raw i s) (hi : i < ps.length) (hs : s < m) (h0 : er ≠ 0) (he : Af bud false ps (T ps[i] s) [] = (er, ps', ns)) : BA bud T m ps0 = (er, [], []) := by
 have hp := h.pl
 unfold BA
 rw [h.fn, BP (by omega) (by omega), IN (List.getElem?_eq_getElem hi) hs h0 he]
 exact if_neg h0
theorem DJ.next (h : DJ bud T m N1 N2 ps0 ps raw i m) (hi : i < ps.length) : DJ bud T m N1 N2 ps0 ps raw (i + 1) 0 := by
 have hp := h.pl
 refine ⟨h.nd, h.bd, h.pl, ?_, fun e he => ?_, h.ct⟩
 · rw [h.fn, BP (by omega) (Nat.le_refl _), GC (List.getElem?_eq_getElem hi)]
   congr 2
   rw [Nat.add_mul]
   omega
 · have := h.lt e he
   omega
theorem DJ.fin (h : DJ bud T m N1 N2 ps0 ps raw ps.length 0) : BA bud T m ps0 = if 65536 < (A7 (raw.take 131073)).length then (8, [], []) else (0, ps, A7 (raw.take 131073)) := by
 have c := Ly h.ct
 unfold BA Ip
 rw [h.fn, BP h.pl (Nat.zero_le _), Gc, if_pos rfl]
 simp only
 by_cases q : 65536 < (A7 raw).length
 · rw [if_pos q, if_pos (c.1.2 q)]
 · rw [if_neg q, if_neg (fun z => q (c.1.1 z)), c.2 q]
theorem DJ.start {T0 : List Aq} (hn : T0.Nodup) (hl : T0.length ≤ 4096) (ho : ∀ t ∈ T0, ∃ p q : Nat, t = ((p : Int), (q : Int)) ∧ p < N1 ∧ q < N2) : DJ bud T m N1 N2 T0 T0 [] 0 0 := ⟨hn, ho, hl, by simp, fun e he => by simp at he, fun e => by simp⟩
end
theorem Jk (w : World) (n m n' m' bud0 : Int) (a1 a2 a3 b1 b2 b3 : Option Addr) (c1 c2 c3 d1 d2 d3 : Nat) (Sa Fa Sb Fb : List Int) (Ea Eb : List Aa) (hA : Hid (AP w a1 a2 a3 Sa Fa Ea)) (hB : Hid (AP w b1 b2 b3 Sb Fb Eb)) (h1 : Sa.length ≤ 2000000) (h2 : Fa.length ≤ 2000000) (h3 : Ea.length ≤ 2000000) (h4 : Sb.length ≤ 2000000) (h5 : Fb.length ≤ 2000000) (h6 : Eb.length ≤ 2000000) (em : AC n m Sa Fa Ea = false) :
 Calls prog 21 #[.agg #[.int .i64 n, .int .i64 m, .slice a1 Sa.length c1, .slice a2 Fa.length c2, .slice a3 Ea.length c3], .agg #[.int .i64 n', .int .i64 m', .slice b1 Sb.length d1, .slice b2 Fb.length d2, .slice b3 Eb.length d3], .int .i64 bud0, .func (.func 22) #[] #[]] w (DR w (B7 2)) := by
 obtain ⟨W0, hW0⟩ : ∃ W0, ((w.alloc (.cells #[.int .i64 n, .int .i64 m, .slice a1 Sa.length c1, .slice a2 Fa.length c2, .slice a3 Ea.length c3] 25)).alloc (.cells #[.int .i64 n', .int .i64 m', .slice b1 Sb.length d1, .slice b2 Fb.length d2, .slice b3 Eb.length d3] 25)).alloc (.cells #[.int .i64 0, .int .i64 0, .slice none 0 0, .slice none 0 0, .slice none 0 0] 25) = W0 := ⟨_, rfl⟩
 have HD := A0 (BH w #[.int .i64 n, .int .i64 m, .slice a1 Sa.length c1, .slice a2 Fa.length c2, .slice a3 Ea.length c3] #[.int .i64 n', .int .i64 m', .slice b1 Sb.length d1, .slice b2 Fb.length d2, .slice b3 Eb.length d3] #[.int .i64 0, .int .i64 0, .slice none 0 0, .slice none 0 0, .slice none 0 0] 25)
 rw [hW0] at HD
 have TB := Mo W0 n m n' m' a1 a2 a3 b1 b2 b3 c1 c2 c3 d1 d2 d3 Sa Fa Sb Fb Ea Eb (A0 (hA.out.on HD.out.1)) (A0 (hB.out.on HD.out.1)) (by omega) (by omega) (by omega) (by omega) (by omega) (by omega) em
 obtain ⟨y0, y1, y2, y3, y4⟩ := An HD.out.2.1 rfl rfl rfl rfl rfl
 obtain ⟨x0, x1, x2, x3, x4⟩ := An HD.out.2.2.1 rfl rfl rfl rfl rfl
 go_enter func21, ntmps21
 go_upto_region 3 with (go_at_call 31; refine TB.mono ?_; rintro e w1 ⟨rfl, D1⟩; have H1 := A0 D1; clear D1)
 clear TB y0 x0 y1 x1 y2 x2 y3 x3 y4 x4
 obtain ⟨W1, hW1⟩ : ∃ W1, (w1.alloc (.cells #[.int .i64 0, .int .i64 0, .slice none 0 0, .slice none 0 0, .slice none 0 0] 25)).alloc (.cells #[.int .i64 0, .int .i64 0, .slice none 0 0, .slice none 0 0, .slice none 0 0] 25) = W1 := ⟨_, rfl⟩
 have HW : Hid (W1.heap[w.heap.size + 1 + 1]? = some (.cells #[.int .i64 0, .int .i64 0, .slice none 0 0, .slice none 0 0, .slice none 0 0] 25 (0, 0)) ∧ w.heap.size + 3 ≤ W1.heap.size ∧ Below w.heap.size w W1) := A0 (by
  have q := Br w1 #[.int .i64 0, .int .i64 0, .slice none 0 0, .slice none 0 0, .slice none 0 0] #[.int .i64 0, .int .i64 0, .slice none 0 0, .slice none 0 0, .slice none 0 0] 25
  rw [hW1] at q
  have s := HD.out.2.2.2.2
  have d2 := H1.out.trans (q.1.mono H1.out.size)
  exact ⟨A3 HD.out.2.2.2.1 d2, by have := d2.size; omega, HD.out.1.trans (d2.mono HD.out.1.size)⟩)
 rw [hW1]
 clear hW1 H1
 have F4 := HW.out.1
 obtain ⟨o0, o1, o2, o3, o4⟩ := An F4 rfl rfl rfl rfl rfl
 have fz0 : W1.frozen? ⟨w.heap.size + 1 + 1, 0, none⟩ = false := A4 F4
 have fz1 : W1.frozen? ⟨w.heap.size + 1 + 1, 1, none⟩ = false := A4 F4
 have fz2 : W1.frozen? ⟨w.heap.size + 1 + 1, 2, none⟩ = false := A4 F4
 have fz3 : W1.frozen? ⟨w.heap.size + 1 + 1, 3, none⟩ = false := A4 F4
 have fz4 : W1.frozen? ⟨w.heap.size + 1 + 1, 4, none⟩ = false := A4 F4
 have O6 := A0 (And.intro (AT W1 (w.heap.size + 1 + 1) _ _ _ _ _ (.int .i64 0) (.int .i64 0) (.slice none 0 0) (.slice none 0 0) (.slice none 0 0) 25 F4) (AF W1 (w.heap.size + 1 + 1) (.int .i64 0) (.int .i64 0) (.slice none 0 0) (.slice none 0 0) (.slice none 0 0)))
 clear F4
 go_wp2_with fail
 refine bodyPost_ret (As (p := 8) (q := 9) (r := 10) (ty := 25) rfl _ _ (w.heap.size + 1 + 1) 25 _ (0, 0) _ _ _ rfl rfl rfl O6.out.1 underlying25 rfl (by kernel_rfl)) rfl ?_
 have s2 := HW.out.2.1
 exact AX rfl rfl (HW.out.2.2.trans (O6.out.2.toBelow (by omega) (fun k hk => by omega)))
theorem Jg (w : World) (n m n' m' bud0 : Int) (a1 a2 a3 b1 b2 b3 : Option Addr) (c1 c2 c3 d1 d2 d3 : Nat) (Sa Fa Sb Fb : List Int) (Ea Eb : List Aa) (hA : Hid (AP w a1 a2 a3 Sa Fa Ea)) (hB : Hid (AP w b1 b2 b3 Sb Fb Eb)) (h1 : Sa.length ≤ 2000000) (h2 : Fa.length ≤ 2000000) (h3 : Ea.length ≤ 2000000) (h4 : Sb.length ≤ 2000000) (h5 : Fb.length ≤ 2000000) (h6 : Eb.length ≤ 2000000) (em : AC n m Sa Fa Ea = true) (em' : AC n' m' Sb Fb Eb = false) :
 Calls prog 21 #[.agg #[.int .i64 n, .int .i64 m, .slice a1 Sa.length c1, .slice a2 Fa.length c2, .slice a3 Ea.length c3], .agg #[.int .i64 n', .int .i64 m', .slice b1 Sb.length d1, .slice b2 Fb.length d2, .slice b3 Eb.length d3], .int .i64 bud0, .func (.func 22) #[] #[]] w (DR w (B7 2)) := by
 obtain ⟨W0, hW0⟩ : ∃ W0, ((w.alloc (.cells #[.int .i64 n, .int .i64 m, .slice a1 Sa.length c1, .slice a2 Fa.length c2, .slice a3 Ea.length c3] 25)).alloc (.cells #[.int .i64 n', .int .i64 m', .slice b1 Sb.length d1, .slice b2 Fb.length d2, .slice b3 Eb.length d3] 25)).alloc (.cells #[.int .i64 0, .int .i64 0, .slice none 0 0, .slice none 0 0, .slice none 0 0] 25) = W0 := ⟨_, rfl⟩
 have HD := A0 (BH w #[.int .i64 n, .int .i64 m, .slice a1 Sa.length c1, .slice a2 Fa.length c2, .slice a3 Ea.length c3] #[.int .i64 n', .int .i64 m', .slice b1 Sb.length d1, .slice b2 Fb.length d2, .slice b3 Eb.length d3] #[.int .i64 0, .int .i64 0, .slice none 0 0, .slice none 0 0, .slice none 0 0] 25)
 rw [hW0] at HD
 have TB := Mb W0 n m n' m' a1 a2 a3 b1 b2 b3 c1 c2 c3 d1 d2 d3 Sa Fa Sb Fb Ea Eb (A0 (hA.out.on HD.out.1)) (A0 (hB.out.on HD.out.1)) (by omega) (by omega) (by omega) (by omega) (by omega) (by omega) em em'
 obtain ⟨y0, y1, y2, y3, y4⟩ := An HD.out.2.1 rfl rfl rfl rfl rfl
 obtain ⟨x0, x1, x2, x3, x4⟩ := An HD.out.2.2.1 rfl rfl rfl rfl rfl
 go_enter func21, ntmps21
 go_upto_region 3 with (go_at_call 31; refine TB.mono ?_; rintro e w1 ⟨rfl, D1⟩; have H1 := A0 D1; clear D1)
 clear TB y0 x0 y1 x1 y2 x2 y3 x3 y4 x4
 obtain ⟨W1, hW1⟩ : ∃ W1, (w1.alloc (.cells #[.int .i64 0, .int .i64 0, .slice none 0 0, .slice none 0 0, .slice none 0 0] 25)).alloc (.cells #[.int .i64 0, .int .i64 0, .slice none 0 0, .slice none 0 0, .slice none 0 0] 25) = W1 := ⟨_, rfl⟩
 have HW : Hid (W1.heap[w.heap.size + 1 + 1]? = some (.cells #[.int .i64 0, .int .i64 0, .slice none 0 0, .slice none 0 0, .slice none 0 0] 25 (0, 0)) ∧ w.heap.size + 3 ≤ W1.heap.size ∧ Below w.heap.size w W1) := A0 (by
  have q := Br w1 #[.int .i64 0, .int .i64 0, .slice none 0 0, .slice none 0 0, .slice none 0 0] #[.int .i64 0, .int .i64 0, .slice none 0 0, .slice none 0 0, .slice none 0 0] 25
  rw [hW1] at q
  have s := HD.out.2.2.2.2
  have d2 := H1.out.trans (q.1.mono H1.out.size)
  exact ⟨A3 HD.out.2.2.2.1 d2, by have := d2.size; omega, HD.out.1.trans (d2.mono HD.out.1.size)⟩)
 rw [hW1]
 clear hW1 H1
 have F4 := HW.out.1
 obtain ⟨o0, o1, o2, o3, o4⟩ := An F4 rfl rfl rfl rfl rfl
 have fz0 : W1.frozen? ⟨w.heap.size + 1 + 1, 0, none⟩ = false := A4 F4
 have fz1 : W1.frozen? ⟨w.heap.size + 1 + 1, 1, none⟩ = false := A4 F4
 have fz2 : W1.frozen? ⟨w.heap.size + 1 + 1, 2, none⟩ = false := A4 F4
 have fz3 : W1.frozen? ⟨w.heap.size + 1 + 1, 3, none⟩ = false := A4 F4
 have fz4 : W1.frozen? ⟨w.heap.size + 1 + 1, 4, none⟩ = false := A4 F4
 have O6 := A0 (And.intro (AT W1 (w.heap.size + 1 + 1) _ _ _ _ _ (.int .i64 0) (.int .i64 0) (.slice none 0 0) (.slice none 0 0) (.slice none 0 0) 25 F4) (AF W1 (w.heap.size + 1 + 1) (.int .i64 0) (.int .i64 0) (.slice none 0 0) (.slice none 0 0) (.slice none 0 0)))
 clear F4
 go_wp2_with fail
 refine bodyPost_ret (As (p := 8) (q := 9) (r := 10) (ty := 25) rfl _ _ (w.heap.size + 1 + 1) 25 _ (0, 0) _ _ _ rfl rfl rfl O6.out.1 underlying25 rfl (by kernel_rfl)) rfl ?_
 have s2 := HW.out.2.1
 exact AX rfl rfl (HW.out.2.2.trans (O6.out.2.toBelow (by omega) (fun k hk => by omega)))
theorem J0 (w : World) (n m n' m' bud0 : Int) (a1 a2 a3 b1 b2 b3 : Option Addr) (c1 c2 c3 d1 d2 d3 : Nat) (Sa Fa Sb Fb : List Int) (Ea Eb : List Aa) (hA : Hid (AP w a1 a2 a3 Sa Fa Ea)) (hB : Hid (AP w b1 b2 b3 Sb Fb Eb)) (h1 : Sa.length ≤ 2000000) (h2 : Fa.length ≤ 2000000) (h3 : Ea.length ≤ 2000000) (h4 : Sb.length ≤ 2000000) (h5 : Fb.length ≤ 2000000) (h6 : Eb.length ≤ 2000000) (em : AC n m Sa Fa Ea = true) (em' : AC n' m' Sb Fb Eb = true) (hm : m ≠ m') :
 Calls prog 21 #[.agg #[.int .i64 n, .int .i64 m, .slice a1 Sa.length c1, .slice a2 Fa.length c2, .slice a3 Ea.length c3], .agg #[.int .i64 n', .int .i64 m', .slice b1 Sb.length d1, .slice b2 Fb.length d2, .slice b3 Eb.length d3], .int .i64 bud0, .func (.func 22) #[] #[]] w (DR w (B7 6)) := by
 obtain ⟨W0, hW0⟩ : ∃ W0, ((w.alloc (.cells #[.int .i64 n, .int .i64 m, .slice a1 Sa.length c1, .slice a2 Fa.length c2, .slice a3 Ea.length c3] 25)).alloc (.cells #[.int .i64 n', .int .i64 m', .slice b1 Sb.length d1, .slice b2 Fb.length d2, .slice b3 Eb.length d3] 25)).alloc (.cells #[.int .i64 0, .int .i64 0, .slice none 0 0, .slice none 0 0, .slice none 0 0] 25) = W0 := ⟨_, rfl⟩
 have HD := A0 (BH w #[.int .i64 n, .int .i64 m, .slice a1 Sa.length c1, .slice a2 Fa.length c2, .slice a3 Ea.length c3] #[.int .i64 n', .int .i64 m', .slice b1 Sb.length d1, .slice b2 Fb.length d2, .slice b3 Eb.length d3] #[.int .i64 0, .int .i64 0, .slice none 0 0, .slice none 0 0, .slice none 0 0] 25)
 rw [hW0] at HD
 have TB := LL W0 n m n' m' a1 a2 a3 b1 b2 b3 c1 c2 c3 d1 d2 d3 Sa Fa Sb Fb Ea Eb (A0 (hA.out.on HD.out.1)) (A0 (hB.out.on HD.out.1)) (by omega) (by omega) (by omega) (by omega) (by omega) (by omega) em em' hm
 obtain ⟨y0, y1, y2, y3, y4⟩ := An HD.out.2.1 rfl rfl rfl rfl rfl
 obtain ⟨x0, x1, x2, x3, x4⟩ := An HD.out.2.2.1 rfl rfl rfl rfl rfl
 go_enter func21, ntmps21
 go_upto_region 3 with (go_at_call 31; refine TB.mono ?_; rintro e w1 ⟨rfl, D1⟩; have H1 := A0 D1; clear D1)
 clear TB y0 x0 y1 x1 y2 x2 y3 x3 y4 x4
 obtain ⟨W1, hW1⟩ : ∃ W1, (w1.alloc (.cells #[.int .i64 0, .int .i64 0, .slice none 0 0, .slice none 0 0, .slice none 0 0] 25)).alloc (.cells #[.int .i64 0, .int .i64 0, .slice none 0 0, .slice none 0 0, .slice none 0 0] 25) = W1 := ⟨_, rfl⟩
 have HW : Hid (W1.heap[w.heap.size + 1 + 1]? = some (.cells #[.int .i64 0, .int .i64 0, .slice none 0 0, .slice none 0 0, .slice none 0 0] 25 (0, 0)) ∧ w.heap.size + 3 ≤ W1.heap.size ∧ Below w.heap.size w W1) := A0 (by
  have q := Br w1 #[.int .i64 0, .int .i64 0, .slice none 0 0, .slice none 0 0, .slice none 0 0] #[.int .i64 0, .int .i64 0, .slice none 0 0, .slice none 0 0, .slice none 0 0] 25
  rw [hW1] at q
  have s := HD.out.2.2.2.2
  have d2 := H1.out.trans (q.1.mono H1.out.size)
  exact ⟨A3 HD.out.2.2.2.1 d2, by have := d2.size; omega, HD.out.1.trans (d2.mono HD.out.1.size)⟩)
 rw [hW1]
 clear hW1 H1
 have F4 := HW.out.1
 obtain ⟨o0, o1, o2, o3, o4⟩ := An F4 rfl rfl rfl rfl rfl
 have fz0 : W1.frozen? ⟨w.heap.size + 1 + 1, 0, none⟩ = false := A4 F4
 have fz1 : W1.frozen? ⟨w.heap.size + 1 + 1, 1, none⟩ = false := A4 F4
 have fz2 : W1.frozen? ⟨w.heap.size + 1 + 1, 2, none⟩ = false := A4 F4
 have fz3 : W1.frozen? ⟨w.heap.size + 1 + 1, 3, none⟩ = false := A4 F4
 have fz4 : W1.frozen? ⟨w.heap.size + 1 + 1, 4, none⟩ = false := A4 F4
 have O6 := A0 (And.intro (AT W1 (w.heap.size + 1 + 1) _ _ _ _ _ (.int .i64 0) (.int .i64 0) (.slice none 0 0) (.slice none 0 0) (.slice none 0 0) 25 F4) (AF W1 (w.heap.size + 1 + 1) (.int .i64 0) (.int .i64 0) (.slice none 0 0) (.slice none 0 0) (.slice none 0 0)))
 clear F4
 go_wp2_with fail
 refine bodyPost_ret (As (p := 8) (q := 9) (r := 10) (ty := 25) rfl _ _ (w.heap.size + 1 + 1) 25 _ (0, 0) _ _ _ rfl rfl rfl O6.out.1 underlying25 rfl (by kernel_rfl)) rfl ?_
 have s2 := HW.out.2.1
 exact AX rfl rfl (HW.out.2.2.trans (O6.out.2.toBelow (by omega) (fun k hk => by omega)))
theorem Jj (w : World) (n m n' m' bud0 : Int) (a1 a2 a3 b1 b2 b3 : Option Addr) (c1 c2 c3 d1 d2 d3 : Nat) (Sa Fa Sb Fb : List Int) (Ea Eb : List Aa) (hA : Hid (AP w a1 a2 a3 Sa Fa Ea)) (hB : Hid (AP w b1 b2 b3 Sb Fb Eb)) (h1 : Sa.length ≤ 2000000) (h2 : Fa.length ≤ 2000000) (h3 : Ea.length ≤ 2000000) (h4 : Sb.length ≤ 2000000) (h5 : Fb.length ≤ 2000000) (h6 : Eb.length ≤ 2000000) (em : AC n m Sa Fa Ea = false) :
 Calls prog 21 #[.agg #[.int .i64 n, .int .i64 m, .slice a1 Sa.length c1, .slice a2 Fa.length c2, .slice a3 Ea.length c3], .agg #[.int .i64 n', .int .i64 m', .slice b1 Sb.length d1, .slice b2 Fb.length d2, .slice b3 Eb.length d3], .int .i64 bud0, .func (.func 51) #[] #[]] w (DR w (B7 2)) := by
 obtain ⟨W0, hW0⟩ : ∃ W0, ((w.alloc (.cells #[.int .i64 n, .int .i64 m, .slice a1 Sa.length c1, .slice a2 Fa.length c2, .slice a3 Ea.length c3] 25)).alloc (.cells #[.int .i64 n', .int .i64 m', .slice b1 Sb.length d1, .slice b2 Fb.length d2, .slice b3 Eb.length d3] 25)).alloc (.cells #[.int .i64 0, .int .i64 0, .slice none 0 0, .slice none 0 0, .slice none 0 0] 25) = W0 := ⟨_, rfl⟩
 have HD := A0 (BH w #[.int .i64 n, .int .i64 m, .slice a1 Sa.length c1, .slice a2 Fa.length c2, .slice a3 Ea.length c3] #[.int .i64 n', .int .i64 m', .slice b1 Sb.length d1, .slice b2 Fb.length d2, .slice b3 Eb.length d3] #[.int .i64 0, .int .i64 0, .slice none 0 0, .slice none 0 0, .slice none 0 0] 25)
 rw [hW0] at HD
 have TB := Mo W0 n m n' m' a1 a2 a3 b1 b2 b3 c1 c2 c3 d1 d2 d3 Sa Fa Sb Fb Ea Eb (A0 (hA.out.on HD.out.1)) (A0 (hB.out.on HD.out.1)) (by omega) (by omega) (by omega) (by omega) (by omega) (by omega) em
 obtain ⟨y0, y1, y2, y3, y4⟩ := An HD.out.2.1 rfl rfl rfl rfl rfl
 obtain ⟨x0, x1, x2, x3, x4⟩ := An HD.out.2.2.1 rfl rfl rfl rfl rfl
 go_enter func21, ntmps21
 go_upto_region 3 with (go_at_call 31; refine TB.mono ?_; rintro e w1 ⟨rfl, D1⟩; have H1 := A0 D1; clear D1)
 clear TB y0 x0 y1 x1 y2 x2 y3 x3 y4 x4
 obtain ⟨W1, hW1⟩ : ∃ W1, (w1.alloc (.cells #[.int .i64 0, .int .i64 0, .slice none 0 0, .slice none 0 0, .slice none 0 0] 25)).alloc (.cells #[.int .i64 0, .int .i64 0, .slice none 0 0, .slice none 0 0, .slice none 0 0] 25) = W1 := ⟨_, rfl⟩
 have HW : Hid (W1.heap[w.heap.size + 1 + 1]? = some (.cells #[.int .i64 0, .int .i64 0, .slice none 0 0, .slice none 0 0, .slice none 0 0] 25 (0, 0)) ∧ w.heap.size + 3 ≤ W1.heap.size ∧ Below w.heap.size w W1) := A0 (by
  have q := Br w1 #[.int .i64 0, .int .i64 0, .slice none 0 0, .slice none 0 0, .slice none 0 0] #[.int .i64 0, .int .i64 0, .slice none 0 0, .slice none 0 0, .slice none 0 0] 25
  rw [hW1] at q
  have s := HD.out.2.2.2.2
  have d2 := H1.out.trans (q.1.mono H1.out.size)
  exact ⟨A3 HD.out.2.2.2.1 d2, by have := d2.size; omega, HD.out.1.trans (d2.mono HD.out.1.size)⟩)
 rw [hW1]
 clear hW1 H1
 have F4 := HW.out.1
 obtain ⟨o0, o1, o2, o3, o4⟩ := An F4 rfl rfl rfl rfl rfl
 have fz0 : W1.frozen? ⟨w.heap.size + 1 + 1, 0, none⟩ = false := A4 F4
 have fz1 : W1.frozen? ⟨w.heap.size + 1 + 1, 1, none⟩ = false := A4 F4
 have fz2 : W1.frozen? ⟨w.heap.size + 1 + 1, 2, none⟩ = false := A4 F4
 have fz3 : W1.frozen? ⟨w.heap.size + 1 + 1, 3, none⟩ = false := A4 F4
 have fz4 : W1.frozen? ⟨w.heap.size + 1 + 1, 4, none⟩ = false := A4 F4
 have O6 := A0 (And.intro (AT W1 (w.heap.size + 1 + 1) _ _ _ _ _ (.int .i64 0) (.int .i64 0) (.slice none 0 0) (.slice none 0 0) (.slice none 0 0) 25 F4) (AF W1 (w.heap.size + 1 + 1) (.int .i64 0) (.int .i64 0) (.slice none 0 0) (.slice none 0 0) (.slice none 0 0)))
 clear F4
 go_wp2_with fail
 refine bodyPost_ret (As (p := 8) (q := 9) (r := 10) (ty := 25) rfl _ _ (w.heap.size + 1 + 1) 25 _ (0, 0) _ _ _ rfl rfl rfl O6.out.1 underlying25 rfl (by kernel_rfl)) rfl ?_
 have s2 := HW.out.2.1
 exact AX rfl rfl (HW.out.2.2.trans (O6.out.2.toBelow (by omega) (fun k hk => by omega)))
theorem Ja (w : World) (n m n' m' bud0 : Int) (a1 a2 a3 b1 b2 b3 : Option Addr) (c1 c2 c3 d1 d2 d3 : Nat) (Sa Fa Sb Fb : List Int) (Ea Eb : List Aa) (hA : Hid (AP w a1 a2 a3 Sa Fa Ea)) (hB : Hid (AP w b1 b2 b3 Sb Fb Eb)) (h1 : Sa.length ≤ 2000000) (h2 : Fa.length ≤ 2000000) (h3 : Ea.length ≤ 2000000) (h4 : Sb.length ≤ 2000000) (h5 : Fb.length ≤ 2000000) (h6 : Eb.length ≤ 2000000) (em : AC n m Sa Fa Ea = true) (em' : AC n' m' Sb Fb Eb = false) :
 Calls prog 21 #[.agg #[.int .i64 n, .int .i64 m, .slice a1 Sa.length c1, .slice a2 Fa.length c2, .slice a3 Ea.length c3], .agg #[.int .i64 n', .int .i64 m', .slice b1 Sb.length d1, .slice b2 Fb.length d2, .slice b3 Eb.length d3], .int .i64 bud0, .func (.func 51) #[] #[]] w (DR w (B7 2)) := by
 obtain ⟨W0, hW0⟩ : ∃ W0, ((w.alloc (.cells #[.int .i64 n, .int .i64 m, .slice a1 Sa.length c1, .slice a2 Fa.length c2, .slice a3 Ea.length c3] 25)).alloc (.cells #[.int .i64 n', .int .i64 m', .slice b1 Sb.length d1, .slice b2 Fb.length d2, .slice b3 Eb.length d3] 25)).alloc (.cells #[.int .i64 0, .int .i64 0, .slice none 0 0, .slice none 0 0, .slice none 0 0] 25) = W0 := ⟨_, rfl⟩
 have HD := A0 (BH w #[.int .i64 n, .int .i64 m, .slice a1 Sa.length c1, .slice a2 Fa.length c2, .slice a3 Ea.length c3] #[.int .i64 n', .int .i64 m', .slice b1 Sb.length d1, .slice b2 Fb.length d2, .slice b3 Eb.length d3] #[.int .i64 0, .int .i64 0, .slice none 0 0, .slice none 0 0, .slice none 0 0] 25)
 rw [hW0] at HD
 have TB := Mb W0 n m n' m' a1 a2 a3 b1 b2 b3 c1 c2 c3 d1 d2 d3 Sa Fa Sb Fb Ea Eb (A0 (hA.out.on HD.out.1)) (A0 (hB.out.on HD.out.1)) (by omega) (by omega) (by omega) (by omega) (by omega) (by omega) em em'
 obtain ⟨y0, y1, y2, y3, y4⟩ := An HD.out.2.1 rfl rfl rfl rfl rfl
 obtain ⟨x0, x1, x2, x3, x4⟩ := An HD.out.2.2.1 rfl rfl rfl rfl rfl
 go_enter func21, ntmps21
 go_upto_region 3 with (go_at_call 31; refine TB.mono ?_; rintro e w1 ⟨rfl, D1⟩; have H1 := A0 D1; clear D1)
 clear TB y0 x0 y1 x1 y2 x2 y3 x3 y4 x4
 obtain ⟨W1, hW1⟩ : ∃ W1, (w1.alloc (.cells #[.int .i64 0, .int .i64 0, .slice none 0 0, .slice none 0 0, .slice none 0 0] 25)).alloc (.cells #[.int .i64 0, .int .i64 0, .slice none 0 0, .slice none 0 0, .slice none 0 0] 25) = W1 := ⟨_, rfl⟩
 have HW : Hid (W1.heap[w.heap.size + 1 + 1]? = some (.cells #[.int .i64 0, .int .i64 0, .slice none 0 0, .slice none 0 0, .slice none 0 0] 25 (0, 0)) ∧ w.heap.size + 3 ≤ W1.heap.size ∧ Below w.heap.size w W1) := A0 (by
  have q := Br w1 #[.int .i64 0, .int .i64 0, .slice none 0 0, .slice none 0 0, .slice none 0 0] #[.int .i64 0, .int .i64 0, .slice none 0 0, .slice none 0 0, .slice none 0 0] 25
  rw [hW1] at q
  have s := HD.out.2.2.2.2
  have d2 := H1.out.trans (q.1.mono H1.out.size)
  exact ⟨A3 HD.out.2.2.2.1 d2, by have := d2.size; omega, HD.out.1.trans (d2.mono HD.out.1.size)⟩)
 rw [hW1]
 clear hW1 H1
 have F4 := HW.out.1
 obtain ⟨o0, o1, o2, o3, o4⟩ := An F4 rfl rfl rfl rfl rfl
 have fz0 : W1.frozen? ⟨w.heap.size + 1 + 1, 0, none⟩ = false := A4 F4
 have fz1 : W1.frozen? ⟨w.heap.size + 1 + 1, 1, none⟩ = false := A4 F4
 have fz2 : W1.frozen? ⟨w.heap.size + 1 + 1, 2, none⟩ = false := A4 F4
 have fz3 : W1.frozen? ⟨w.heap.size + 1 + 1, 3, none⟩ = false := A4 F4
 have fz4 : W1.frozen? ⟨w.heap.size + 1 + 1, 4, none⟩ = false := A4 F4
 have O6 := A0 (And.intro (AT W1 (w.heap.size + 1 + 1) _ _ _ _ _ (.int .i64 0) (.int .i64 0) (.slice none 0 0) (.slice none 0 0) (.slice none 0 0) 25 F4) (AF W1 (w.heap.size + 1 + 1) (.int .i64 0) (.int .i64 0) (.slice none 0 0) (.slice none 0 0) (.slice none 0 0)))
 clear F4
 go_wp2_with fail
 refine bodyPost_ret (As (p := 8) (q := 9) (r := 10) (ty := 25) rfl _ _ (w.heap.size + 1 + 1) 25 _ (0, 0) _ _ _ rfl rfl rfl O6.out.1 underlying25 rfl (by kernel_rfl)) rfl ?_
 have s2 := HW.out.2.1
 exact AX rfl rfl (HW.out.2.2.trans (O6.out.2.toBelow (by omega) (fun k hk => by omega)))
theorem J4 (w : World) (n m n' m' bud0 : Int) (a1 a2 a3 b1 b2 b3 : Option Addr) (c1 c2 c3 d1 d2 d3 : Nat) (Sa Fa Sb Fb : List Int) (Ea Eb : List Aa) (hA : Hid (AP w a1 a2 a3 Sa Fa Ea)) (hB : Hid (AP w b1 b2 b3 Sb Fb Eb)) (h1 : Sa.length ≤ 2000000) (h2 : Fa.length ≤ 2000000) (h3 : Ea.length ≤ 2000000) (h4 : Sb.length ≤ 2000000) (h5 : Fb.length ≤ 2000000) (h6 : Eb.length ≤ 2000000) (em : AC n m Sa Fa Ea = true) (em' : AC n' m' Sb Fb Eb = true) (hm : m ≠ m') :
 Calls prog 21 #[.agg #[.int .i64 n, .int .i64 m, .slice a1 Sa.length c1, .slice a2 Fa.length c2, .slice a3 Ea.length c3], .agg #[.int .i64 n', .int .i64 m', .slice b1 Sb.length d1, .slice b2 Fb.length d2, .slice b3 Eb.length d3], .int .i64 bud0, .func (.func 51) #[] #[]] w (DR w (B7 6)) := by
 obtain ⟨W0, hW0⟩ : ∃ W0, ((w.alloc (.cells #[.int .i64 n, .int .i64 m, .slice a1 Sa.length c1, .slice a2 Fa.length c2, .slice a3 Ea.length c3] 25)).alloc (.cells #[.int .i64 n', .int .i64 m', .slice b1 Sb.length d1, .slice b2 Fb.length d2, .slice b3 Eb.length d3] 25)).alloc (.cells #[.int .i64 0, .int .i64 0, .slice none 0 0, .slice none 0 0, .slice none 0 0] 25) = W0 := ⟨_, rfl⟩
 have HD := A0 (BH w #[.int .i64 n, .int .i64 m, .slice a1 Sa.length c1, .slice a2 Fa.length c2, .slice a3 Ea.length c3] #[.int .i64 n', .int .i64 m', .slice b1 Sb.length d1, .slice b2 Fb.length d2, .slice b3 Eb.length d3] #[.int .i64 0, .int .i64 0, .slice none 0 0, .slice none 0 0, .slice none 0 0] 25)
 rw [hW0] at HD
 have TB := LL W0 n m n' m' a1 a2 a3 b1 b2 b3 c1 c2 c3 d1 d2 d3 Sa Fa Sb Fb Ea Eb (A0 (hA.out.on HD.out.1)) (A0 (hB.out.on HD.out.1)) (by omega) (by omega) (by omega) (by omega) (by omega) (by omega) em em' hm
 obtain ⟨y0, y1, y2, y3, y4⟩ := An HD.out.2.1 rfl rfl rfl rfl rfl
 obtain ⟨x0, x1, x2, x3, x4⟩ := An HD.out.2.2.1 rfl rfl rfl rfl rfl
 go_enter func21, ntmps21
 go_upto_region 3 with (go_at_call 31; refine TB.mono ?_; rintro e w1 ⟨rfl, D1⟩; have H1 := A0 D1; clear D1)
 clear TB y0 x0 y1 x1 y2 x2 y3 x3 y4 x4
 obtain ⟨W1, hW1⟩ : ∃ W1, (w1.alloc (.cells #[.int .i64 0, .int .i64 0, .slice none 0 0, .slice none 0 0, .slice none 0 0] 25)).alloc (.cells #[.int .i64 0, .int .i64 0, .slice none 0 0, .slice none 0 0, .slice none 0 0] 25) = W1 := ⟨_, rfl⟩
 have HW : Hid (W1.heap[w.heap.size + 1 + 1]? = some (.cells #[.int .i64 0, .int .i64 0, .slice none 0 0, .slice none 0 0, .slice none 0 0] 25 (0, 0)) ∧ w.heap.size + 3 ≤ W1.heap.size ∧ Below w.heap.size w W1) := A0 (by
  have q := Br w1 #[.int .i64 0, .int .i64 0, .slice none 0 0, .slice none 0 0, .slice none 0 0] #[.int .i64 0, .int .i64 0, .slice none 0 0, .slice none 0 0, .slice none 0 0] 25
  rw [hW1] at q
  have s := HD.out.2.2.2.2
  have d2 := H1.out.trans (q.1.mono H1.out.size)
  exact ⟨A3 HD.out.2.2.2.1 d2, by have := d2.size; omega, HD.out.1.trans (d2.mono HD.out.1.size)⟩)
 rw [hW1]
 clear hW1 H1
 have F4 := HW.out.1
 obtain ⟨o0, o1, o2, o3, o4⟩ := An F4 rfl rfl rfl rfl rfl
 have fz0 : W1.frozen? ⟨w.heap.size + 1 + 1, 0, none⟩ = false := A4 F4
 have fz1 : W1.frozen? ⟨w.heap.size + 1 + 1, 1, none⟩ = false := A4 F4
 have fz2 : W1.frozen? ⟨w.heap.size + 1 + 1, 2, none⟩ = false := A4 F4
 have fz3 : W1.frozen? ⟨w.heap.size + 1 + 1, 3, none⟩ = false := A4 F4
 have fz4 : W1.frozen? ⟨w.heap.size + 1 + 1, 4, none⟩ = false := A4 F4
 have O6 := A0 (And.intro (AT W1 (w.heap.size + 1 + 1) _ _ _ _ _ (.int .i64 0) (.int .i64 0) (.slice none 0 0) (.slice none 0 0) (.slice none 0 0) 25 F4) (AF W1 (w.heap.size + 1 + 1) (.int .i64 0) (.int .i64 0) (.slice none 0 0) (.slice none 0 0) (.slice none 0 0)))
 clear F4
 go_wp2_with fail
 refine bodyPost_ret (As (p := 8) (q := 9) (r := 10) (ty := 25) rfl _ _ (w.heap.size + 1 + 1) 25 _ (0, 0) _ _ _ rfl rfl rfl O6.out.1 underlying25 rfl (by kernel_rfl)) rfl ?_
 have s2 := HW.out.2.1
 exact AX rfl rfl (HW.out.2.2.trans (O6.out.2.toBelow (by omega) (fun k hk => by omega)))
theorem Mp (w : World) (lay : Bool) (n m n' m' bud0 : Int) (a1 a2 a3 b1 b2 b3 : Option Addr) (c1 c2 c3 d1 d2 d3 : Nat) (Sa Fa Sb Fb : List Int) (Ea Eb : List Aa) (hA : Hid (AP w a1 a2 a3 Sa Fa Ea)) (hB : Hid (AP w b1 b2 b3 Sb Fb Eb)) (h1 : Sa.length ≤ 2000000) (h2 : Fa.length ≤ 2000000) (h3 : Ea.length ≤ 2000000) (h4 : Sb.length ≤ 2000000) (h5 : Fb.length ≤ 2000000) (h6 : Eb.length ≤ 2000000) (hc : Ea.length ≤ c3) (hc' : Eb.length ≤ d3) (em : AC n m Sa Fa Ea = false) :
 Calls prog 24 #[.agg #[.int .i64 n, .int .i64 m, .slice a1 Sa.length c1, .slice a2 Fa.length c2, .slice a3 Ea.length c3], .agg #[.int .i64 n', .int .i64 m', .slice b1 Sb.length d1, .slice b2 Fb.length d2, .slice b3 Eb.length d3], .int .i64 bud0, .bool lay] w (DR w (B7 2)) := by
 obtain ⟨W0, hW0⟩ : ∃ W0, ((w.alloc (.cells #[.int .i64 n, .int .i64 m, .slice a1 Sa.length c1, .slice a2 Fa.length c2, .slice a3 Ea.length c3] 25)).alloc (.cells #[.int .i64 n', .int .i64 m', .slice b1 Sb.length d1, .slice b2 Fb.length d2, .slice b3 Eb.length d3] 25)).alloc (.cells #[.int .i64 0, .int .i64 0, .slice none 0 0, .slice none 0 0, .slice none 0 0] 25) = W0 := ⟨_, rfl⟩
 have HD := A0 (BH w #[.int .i64 n, .int .i64 m, .slice a1 Sa.length c1, .slice a2 Fa.length c2, .slice a3 Ea.length c3] #[.int .i64 n', .int .i64 m', .slice b1 Sb.length d1, .slice b2 Fb.length d2, .slice b3 Eb.length d3] #[.int .i64 0, .int .i64 0, .slice none 0 0, .slice none 0 0, .slice none 0 0] 25)
 rw [hW0] at HD
 have TB := O9 W0 n m n' m' a1 a2 a3 b1 b2 b3 c1 c2 c3 d1 d2 d3 Sa Fa Sb Fb Ea Eb (A0 (hA.out.on HD.out.1)) (A0 (hB.out.on HD.out.1)) (by omega) (by omega) (by omega) (by omega) (by omega) (by omega) hc hc' em
 obtain ⟨y0, y1, y2, y3, y4⟩ := An HD.out.2.1 rfl rfl rfl rfl rfl
 obtain ⟨x0, x1, x2, x3, x4⟩ := An HD.out.2.2.1 rfl rfl rfl rfl rfl
 go_enter func24, ntmps24
 go_upto_region 3 with (go_at_call 44; refine TB.mono ?_; rintro e w1 ⟨rfl, D1⟩; have H1 := A0 D1; clear D1)
 clear TB y0 x0 y1 x1 y2 x2 y3 x3 y4 x4
 obtain ⟨W1, hW1⟩ : ∃ W1, (w1.alloc (.cells #[.int .i64 0, .int .i64 0, .slice none 0 0, .slice none 0 0, .slice none 0 0] 25)).alloc (.cells #[.int .i64 0, .int .i64 0, .slice none 0 0, .slice none 0 0, .slice none 0 0] 25) = W1 := ⟨_, rfl⟩
 have HW : Hid (W1.heap[w.heap.size + 1 + 1]? = some (.cells #[.int .i64 0, .int .i64 0, .slice none 0 0, .slice none 0 0, .slice none 0 0] 25 (0, 0)) ∧ w.heap.size + 3 ≤ W1.heap.size ∧ Below w.heap.size w W1) := A0 (by
  have q := Br w1 #[.int .i64 0, .int .i64 0, .slice none 0 0, .slice none 0 0, .slice none 0 0] #[.int .i64 0, .int .i64 0, .slice none 0 0, .slice none 0 0, .slice none 0 0] 25
  rw [hW1] at q
  have s := HD.out.2.2.2.2
  have d2 := H1.out.trans (q.1.mono H1.out.size)
  exact ⟨A3 HD.out.2.2.2.1 d2, by have := d2.size; omega, HD.out.1.trans (d2.mono HD.out.1.size)⟩)
 rw [hW1]
 clear hW1 H1
 have F4 := HW.out.1
 obtain ⟨o0, o1, o2, o3, o4⟩ := An F4 rfl rfl rfl rfl rfl
 have fz0 : W1.frozen? ⟨w.heap.size + 1 + 1, 0, none⟩ = false := A4 F4
 have fz1 : W1.frozen? ⟨w.heap.size + 1 + 1, 1, none⟩ = false := A4 F4
 have fz2 : W1.frozen? ⟨w.heap.size + 1 + 1, 2, none⟩ = false := A4 F4
 have fz3 : W1.frozen? ⟨w.heap.size + 1 + 1, 3, none⟩ = false := A4 F4
 have fz4 : W1.frozen? ⟨w.heap.size + 1 + 1, 4, none⟩ = false := A4 F4
 have O6 := A0 (And.intro (AT W1 (w.heap.size + 1 + 1) _ _ _ _ _ (.int .i64 0) (.int .i64 0) (.slice none 0 0) (.slice none 0 0) (.slice none 0 0) 25 F4) (AF W1 (w.heap.size + 1 + 1) (.int .i64 0) (.int .i64 0) (.slice none 0 0) (.slice none 0 0) (.slice none 0 0)))
 clear F4
 go_wp2_with fail
 refine bodyPost_ret (As (p := 8) (q := 9) (r := 10) (ty := 25) rfl _ _ (w.heap.size + 1 + 1) 25 _ (0, 0) _ _ _ rfl rfl rfl O6.out.1 underlying25 rfl (by kernel_rfl)) rfl ?_
 have s2 := HW.out.2.1
 exact AX rfl rfl (HW.out.2.2.trans (O6.out.2.toBelow (by omega) (fun k hk => by omega)))
theorem KY (w : World) (lay : Bool) (n m n' m' bud0 : Int) (a1 a2 a3 b1 b2 b3 : Option Addr) (c1 c2 c3 d1 d2 d3 : Nat) (Sa Fa Sb Fb : List Int) (Ea Eb : List Aa) (hA : Hid (AP w a1 a2 a3 Sa Fa Ea)) (hB : Hid (AP w b1 b2 b3 Sb Fb Eb)) (h1 : Sa.length ≤ 2000000) (h2 : Fa.length ≤ 2000000) (h3 : Ea.length ≤ 2000000) (h4 : Sb.length ≤ 2000000) (h5 : Fb.length ≤ 2000000) (h6 : Eb.length ≤ 2000000) (hc : Ea.length ≤ c3) (hc' : Eb.length ≤ d3) (em : AC n m Sa Fa Ea = true) (em' : AC n' m' Sb Fb Eb = false) :
 Calls prog 24 #[.agg #[.int .i64 n, .int .i64 m, .slice a1 Sa.length c1, .slice a2 Fa.length c2, .slice a3 Ea.length c3], .agg #[.int .i64 n', .int .i64 m', .slice b1 Sb.length d1, .slice b2 Fb.length d2, .slice b3 Eb.length d3], .int .i64 bud0, .bool lay] w (DR w (B7 2)) := by
 obtain ⟨W0, hW0⟩ : ∃ W0, ((w.alloc (.cells #[.int .i64 n, .int .i64 m, .slice a1 Sa.length c1, .slice a2 Fa.length c2, .slice a3 Ea.length c3] 25)).alloc (.cells #[.int .i64 n', .int .i64 m', .slice b1 Sb.length d1, .slice b2 Fb.length d2, .slice b3 Eb.length d3] 25)).alloc (.cells #[.int .i64 0, .int .i64 0, .slice none 0 0, .slice none 0 0, .slice none 0 0] 25) = W0 := ⟨_, rfl⟩
 have HD := A0 (BH w #[.int .i64 n, .int .i64 m, .slice a1 Sa.length c1, .slice a2 Fa.length c2, .slice a3 Ea.length c3] #[.int .i64 n', .int .i64 m', .slice b1 Sb.length d1, .slice b2 Fb.length d2, .slice b3 Eb.length d3] #[.int .i64 0, .int .i64 0, .slice none 0 0, .slice none 0 0, .slice none 0 0] 25)
 rw [hW0] at HD
 have TB := On W0 n m n' m' a1 a2 a3 b1 b2 b3 c1 c2 c3 d1 d2 d3 Sa Fa Sb Fb Ea Eb (A0 (hA.out.on HD.out.1)) (A0 (hB.out.on HD.out.1)) (by omega) (by omega) (by omega) (by omega) (by omega) (by omega) hc hc' em em'
 obtain ⟨y0, y1, y2, y3, y4⟩ := An HD.out.2.1 rfl rfl rfl rfl rfl
 obtain ⟨x0, x1, x2, x3, x4⟩ := An HD.out.2.2.1 rfl rfl rfl rfl rfl
 go_enter func24, ntmps24
 go_upto_region 3 with (go_at_call 44; refine TB.mono ?_; rintro e w1 ⟨rfl, D1⟩; have H1 := A0 D1; clear D1)
 clear TB y0 x0 y1 x1 y2 x2 y3 x3 y4 x4
 obtain ⟨W1, hW1⟩ : ∃ W1, (w1.alloc (.cells #[.int .i64 0, .int .i64 0, .slice none 0 0, .slice none 0 0, .slice none 0 0] 25)).alloc (.cells #[.int .i64 0, .int .i64 0, .slice none 0 0, .slice none 0 0, .slice none 0 0] 25) = W1 := ⟨_, rfl⟩
 have HW : Hid (W1.heap[w.heap.size + 1 + 1]? = some (.cells #[.int .i64 0, .int .i64 0, .slice none 0 0, .slice none 0 0, .slice none 0 0] 25 (0, 0)) ∧ w.heap.size + 3 ≤ W1.heap.size ∧ Below w.heap.size w W1) := A0 (by
  have q := Br w1 #[.int .i64 0, .int .i64 0, .slice none 0 0, .slice none 0 0, .slice none 0 0] #[.int .i64 0, .int .i64 0, .slice none 0 0, .slice none 0 0, .slice none 0 0] 25
  rw [hW1] at q
  have s := HD.out.2.2.2.2
  have d2 := H1.out.trans (q.1.mono H1.out.size)
  exact ⟨A3 HD.out.2.2.2.1 d2, by have := d2.size; omega, HD.out.1.trans (d2.mono HD.out.1.size)⟩)
 rw [hW1]
 clear hW1 H1
 have F4 := HW.out.1
 obtain ⟨o0, o1, o2, o3, o4⟩ := An F4 rfl rfl rfl rfl rfl
 have fz0 : W1.frozen? ⟨w.heap.size + 1 + 1, 0, none⟩ = false := A4 F4
 have fz1 : W1.frozen? ⟨w.heap.size + 1 + 1, 1, none⟩ = false := A4 F4
 have fz2 : W1.frozen? ⟨w.heap.size + 1 + 1, 2, none⟩ = false := A4 F4
 have fz3 : W1.frozen? ⟨w.heap.size + 1 + 1, 3, none⟩ = false := A4 F4
 have fz4 : W1.frozen? ⟨w.heap.size + 1 + 1, 4, none⟩ = false := A4 F4
 have O6 := A0 (And.intro (AT W1 (w.heap.size + 1 + 1) _ _ _ _ _ (.int .i64 0) (.int .i64 0) (.slice none 0 0) (.slice none 0 0) (.slice none 0 0) 25 F4) (AF W1 (w.heap.size + 1 + 1) (.int .i64 0) (.int .i64 0) (.slice none 0 0) (.slice none 0 0) (.slice none 0 0)))
 clear F4
 go_wp2_with fail
 refine bodyPost_ret (As (p := 8) (q := 9) (r := 10) (ty := 25) rfl _ _ (w.heap.size + 1 + 1) 25 _ (0, 0) _ _ _ rfl rfl rfl O6.out.1 underlying25 rfl (by kernel_rfl)) rfl ?_
 have s2 := HW.out.2.1
 exact AX rfl rfl (HW.out.2.2.trans (O6.out.2.toBelow (by omega) (fun k hk => by omega)))
theorem L9 (w : World) (lay : Bool) (n m n' m' bud0 : Int) (a1 a2 a3 b1 b2 b3 : Option Addr) (c1 c2 c3 d1 d2 d3 : Nat) (Sa Fa Sb Fb : List Int) (Ea Eb : List Aa) (hA : Hid (AP w a1 a2 a3 Sa Fa Ea)) (hB : Hid (AP w b1 b2 b3 Sb Fb Eb)) (h1 : Sa.length ≤ 2000000) (h2 : Fa.length ≤ 2000000) (h3 : Ea.length ≤ 2000000) (h4 : Sb.length ≤ 2000000) (h5 : Fb.length ≤ 2000000) (h6 : Eb.length ≤ 2000000) (hc : Ea.length ≤ c3) (hc' : Eb.length ≤ d3) (em : AC n m Sa Fa Ea = true) (em' : AC n' m' Sb Fb Eb = true) (hm : m ≠ m') :
 Calls prog 24 #[.agg #[.int .i64 n, .int .i64 m, .slice a1 Sa.length c1, .slice a2 Fa.length c2, .slice a3 Ea.length c3], .agg #[.int .i64 n', .int .i64 m', .slice b1 Sb.length d1, .slice b2 Fb.length d2, .slice b3 Eb.length d3], .int .i64 bud0, .bool lay] w (DR w (B7 6)) := by
 obtain ⟨W0, hW0⟩ : ∃ W0, ((w.alloc (.cells #[.int .i64 n, .int .i64 m, .slice a1 Sa.length c1, .slice a2 Fa.length c2, .slice a3 Ea.length c3] 25)).alloc (.cells #[.int .i64 n', .int .i64 m', .slice b1 Sb.length d1, .slice b2 Fb.length d2, .slice b3 Eb.length d3] 25)).alloc (.cells #[.int .i64 0, .int .i64 0, .slice none 0 0, .slice none 0 0, .slice none 0 0] 25) = W0 := ⟨_, rfl⟩
 have HD := A0 (BH w #[.int .i64 n, .int .i64 m, .slice a1 Sa.length c1, .slice a2 Fa.length c2, .slice a3 Ea.length c3] #[.int .i64 n', .int .i64 m', .slice b1 Sb.length d1, .slice b2 Fb.length d2, .slice b3 Eb.length d3] #[.int .i64 0, .int .i64 0, .slice none 0 0, .slice none 0 0, .slice none 0 0] 25)
 rw [hW0] at HD
 have TB := OQ W0 n m n' m' a1 a2 a3 b1 b2 b3 c1 c2 c3 d1 d2 d3 Sa Fa Sb Fb Ea Eb (A0 (hA.out.on HD.out.1)) (A0 (hB.out.on HD.out.1)) (by omega) (by omega) (by omega) (by omega) (by omega) (by omega) hc hc' em em' (by simpa using hm)
 obtain ⟨y0, y1, y2, y3, y4⟩ := An HD.out.2.1 rfl rfl rfl rfl rfl
 obtain ⟨x0, x1, x2, x3, x4⟩ := An HD.out.2.2.1 rfl rfl rfl rfl rfl
 go_enter func24, ntmps24
 go_upto_region 3 with (go_at_call 44; refine TB.mono ?_; rintro e w1 ⟨rfl, D1⟩; have H1 := A0 D1; clear D1)
 clear TB y0 x0 y1 x1 y2 x2 y3 x3 y4 x4
 obtain ⟨W1, hW1⟩ : ∃ W1, (w1.alloc (.cells #[.int .i64 0, .int .i64 0, .slice none 0 0, .slice none 0 0, .slice none 0 0] 25)).alloc (.cells #[.int .i64 0, .int .i64 0, .slice none 0 0, .slice none 0 0, .slice none 0 0] 25) = W1 := ⟨_, rfl⟩
 have HW : Hid (W1.heap[w.heap.size + 1 + 1]? = some (.cells #[.int .i64 0, .int .i64 0, .slice none 0 0, .slice none 0 0, .slice none 0 0] 25 (0, 0)) ∧ w.heap.size + 3 ≤ W1.heap.size ∧ Below w.heap.size w W1) := A0 (by
  have q := Br w1 #[.int .i64 0, .int .i64 0, .slice none 0 0, .slice none 0 0, .slice none 0 0] #[.int .i64 0, .int .i64 0, .slice none 0 0, .slice none 0 0, .slice none 0 0] 25
  rw [hW1] at q
  have s := HD.out.2.2.2.2
  have d2 := H1.out.trans (q.1.mono H1.out.size)
  exact ⟨A3 HD.out.2.2.2.1 d2, by have := d2.size; omega, HD.out.1.trans (d2.mono HD.out.1.size)⟩)
 rw [hW1]
 clear hW1 H1
 have F4 := HW.out.1
 obtain ⟨o0, o1, o2, o3, o4⟩ := An F4 rfl rfl rfl rfl rfl
 have fz0 : W1.frozen? ⟨w.heap.size + 1 + 1, 0, none⟩ = false := A4 F4
 have fz1 : W1.frozen? ⟨w.heap.size + 1 + 1, 1, none⟩ = false := A4 F4
 have fz2 : W1.frozen? ⟨w.heap.size + 1 + 1, 2, none⟩ = false := A4 F4
 have fz3 : W1.frozen? ⟨w.heap.size + 1 + 1, 3, none⟩ = false := A4 F4
 have fz4 : W1.frozen? ⟨w.heap.size + 1 + 1, 4, none⟩ = false := A4 F4
 have O6 := A0 (And.intro (AT W1 (w.heap.size + 1 + 1) _ _ _ _ _ (.int .i64 0) (.int .i64 0) (.slice none 0 0) (.slice none 0 0) (.slice none 0 0) 25 F4) (AF W1 (w.heap.size + 1 + 1) (.int .i64 0) (.int .i64 0) (.slice none 0 0) (.slice none 0 0) (.slice none 0 0)))
 clear F4
 go_wp2_with fail
 refine bodyPost_ret (As (p := 8) (q := 9) (r := 10) (ty := 25) rfl _ _ (w.heap.size + 1 + 1) 25 _ (0, 0) _ _ _ rfl rfl rfl O6.out.1 underlying25 rfl (by kernel_rfl)) rfl ?_
 have s2 := HW.out.2.1
 exact AX rfl rfl (HW.out.2.2.trans (O6.out.2.toBelow (by omega) (fun k hk => by omega)))
theorem MS {T : List Aq} {i : Nat} (h : T.Nodup) (hi : i < T.length) : T[i] ∉ T.take i := fun hm => by
 have e : T.take i ++ T[i] :: T.drop (i + 1) = T := by rw [← List.drop_eq_getElem_cons hi, List.take_append_drop]
 have h' : (T.take i ++ T[i] :: T.drop (i + 1)).Nodup := by rw [e]; exact h
 exact (List.nodup_append.1 h').2.2 _ hm _ List.mem_cons_self rfl
theorem MI (w : World) (lay : Bool) (N M m : Nat) (bud0 : Int) (a1 a2 a3 o1 o2 o3 : Option Addr) (c1 c2 c3 d1 d2 d3 : Nat) (Sa Fa Sb Fb : List Int) (Ea Eb : List Aa) (hA : Hid (AP w a1 a2 a3 Sa Fa Ea)) (hB : Hid (AP w o1 o2 o3 Sb Fb Eb)) (h1 : Sa.length ≤ 2000000) (h2 : Fa.length ≤ 2000000) (h3 : Ea.length ≤ 2000000) (h4 : Sb.length ≤ 2000000) (h5 : Fb.length ≤ 2000000) (h6 : Eb.length ≤ 2000000) (hc : Ea.length ≤ c3) (hc' : Eb.length ≤ d3) (em : AC (N : Int) (m : Int) Sa Fa Ea = true) (em' : AC (M : Int) (m : Int) Sb Fb Eb = true) :
 Calls prog 24 #[.agg #[.int .i64 (N : Int), .int .i64 (m : Int), .slice a1 Sa.length c1, .slice a2 Fa.length c2, .slice a3 Ea.length c3], .agg #[.int .i64 (M : Int), .int .i64 (m : Int), .slice o1 Sb.length d1, .slice o2 Fb.length d2, .slice o3 Eb.length d3], .int .i64 bud0, .bool lay] w (DR w (Bi (AR lay) (BF bud0) m (A5 Sa) (A5 Fa) (A7 Ea) (A5 Sb) (A5 Fb) (A7 Eb))) := by
 obtain ⟨M4, hM4⟩ : ∃ M : Nat, 4096 ≤ M := ⟨4096, Nat.le_refl _⟩
 obtain ⟨W0, hW0⟩ : ∃ W0, ((w.alloc (.cells #[.int .i64 (N : Int), .int .i64 (m : Int), .slice a1 Sa.length c1, .slice a2 Fa.length c2, .slice a3 Ea.length c3] 25)).alloc (.cells #[.int .i64 (M : Int), .int .i64 (m : Int), .slice o1 Sb.length d1, .slice o2 Fb.length d2, .slice o3 Eb.length d3] 25)).alloc (.cells #[.int .i64 0, .int .i64 0, .slice none 0 0, .slice none 0 0, .slice none 0 0] 25) = W0 := ⟨_, rfl⟩
 have HD := A0 (BH w #[.int .i64 (N : Int), .int .i64 (m : Int), .slice a1 Sa.length c1, .slice a2 Fa.length c2, .slice a3 Ea.length c3] #[.int .i64 (M : Int), .int .i64 (m : Int), .slice o1 Sb.length d1, .slice o2 Fb.length d2, .slice o3 Eb.length d3] #[.int .i64 0, .int .i64 0, .slice none 0 0, .slice none 0 0, .slice none 0 0] 25)
 rw [hW0] at HD
 have TB := MF W0 (N : Int) (m : Int) (M : Int) (m : Int) a1 a2 a3 o1 o2 o3 c1 c2 c3 d1 d2 d3 Sa Fa Sb Fb Ea Eb (A0 (hA.out.on HD.out.1)) (A0 (hB.out.on HD.out.1)) (by omega) (by omega) (by omega) (by omega) (by omega) (by omega) hc hc' em em' (by simp)
 have hm : m ≤ 128 := by have := (Ag em).2.1; omega
 have hNM : N ≤ 4096 ∧ M ≤ 4096 := by have := (Ag em).1; have := (Ag em').1; omega
 have Hin : Hid ((∀ x ∈ A5 Sa, ∃ q : Nat, q < N ∧ x = (q : Int)) ∧ (∀ x ∈ A5 Fa, ∃ q : Nat, q < N ∧ x = (q : Int)) ∧ (∀ x ∈ A5 Sb, ∃ q : Nat, q < M ∧ x = (q : Int)) ∧ (∀ x ∈ A5 Fb, ∃ q : Nat, q < M ∧ x = (q : Int))) := A0 ⟨C5 (Bf (AD em)).1, C5 (Bf (AD em)).2, C5 (Bf (AD em')).1, C5 (Bf (AD em')).2⟩
 have hl : Hid ((A5 Sa).length ≤ 4096 ∧ (A5 Fa).length ≤ 2000000 ∧ (A7 Ea).length ≤ 2000000 ∧ (A5 Sb).length ≤ 4096 ∧ (A5 Fb).length ≤ 2000000 ∧ (A7 Eb).length ≤ 2000000) := A0 ⟨Nat.le_trans (CH (Bf em).1).len hNM.1, Nat.le_trans (B9 Fa) h2, Nat.le_trans (By Ea) h3, Nat.le_trans (CH (Bf em').1).len hNM.2, Nat.le_trans (B9 Fb) h5, Nat.le_trans (By Eb) h6⟩
 have HND : Hid ((Az (A5 Sa) (A5 Sb)).Nodup) := A0 (Fq (ET (Ba Sa)) (ET (Ba Sb)))
 have HQ : Hid (EY N m (A7 Ea) ∧ EY M m (A7 Eb)) := A0 ⟨⟨AZ Ea, fun e he => ((Ag (AD em)).2.2.2.2.2 e he).2.1, fun e he => ((Ag (AD em)).2.2.2.2.2 e he).2.2, hNM.1, hm, by have := hl.out; omega⟩, ⟨AZ Eb, fun e he => ((Ag (AD em')).2.2.2.2.2 e he).2.1, fun e he => ((Ag (AD em')).2.2.2.2.2 e he).2.2, hNM.2, hm, by have := hl.out; omega⟩⟩
 clear em em'
 generalize A5 Sa = S1 at *
 generalize A5 Fa = F1 at *
 generalize A7 Ea = E1 at *
 generalize A5 Sb = S2 at *
 generalize A5 Fb = F2 at *
 generalize A7 Eb = E2 at *
 obtain ⟨cy0, cy1, cy2, cy3, cy4⟩ := An HD.out.2.1 rfl rfl rfl rfl rfl
 obtain ⟨cx0, cx1, cx2, cx3, cx4⟩ := An HD.out.2.2.1 rfl rfl rfl rfl rfl
 go_enter func24, ntmps24
 go_upto_region 4 with (go_at_call 44; refine TB.mono ?_; rintro e w1 ⟨x1, k1, x2, k2, x3, k3, y1, j1, y2, j2, y3, j3, rfl, H1⟩)
 clear TB cy0 cx0 cy1 cx1 cy2 cx2 cy3 cx3 cy4 cx4
 obtain ⟨W1, hW1⟩ : ∃ W1, (w1.alloc (.cells #[.int .i64 (N : Int), .int .i64 (m : Int), .slice x1 S1.length k1, .slice x2 F1.length k2, .slice x3 E1.length k3] 25)).alloc (.cells #[.int .i64 (M : Int), .int .i64 (m : Int), .slice y1 S2.length j1, .slice y2 F2.length j2, .slice y3 E2.length j3] 25) = W1 := ⟨_, rfl⟩
 have HW : Hid (W1.heap[w1.heap.size]? = some (.cells #[.int .i64 (N : Int), .int .i64 (m : Int), .slice x1 S1.length k1, .slice x2 F1.length k2, .slice x3 E1.length k3] 25 (0, 0)) ∧ W1.heap[w1.heap.size + 1]? = some (.cells #[.int .i64 (M : Int), .int .i64 (m : Int), .slice y1 S2.length j1, .slice y2 F2.length j2, .slice y3 E2.length j3] 25 (0, 0)) ∧ W1.heap[w.heap.size + 1 + 1]? = some (.cells #[.int .i64 0, .int .i64 0, .slice none 0 0, .slice none 0 0, .slice none 0 0] 25 (0, 0)) ∧ w.heap.size + 3 ≤ W1.heap.size ∧ Below w.heap.size w W1) := A0 (by
  have q := Br w1 #[.int .i64 (N : Int), .int .i64 (m : Int), .slice x1 S1.length k1, .slice x2 F1.length k2, .slice x3 E1.length k3] #[.int .i64 (M : Int), .int .i64 (m : Int), .slice y1 S2.length j1, .slice y2 F2.length j2, .slice y3 E2.length j3] 25
  rw [hW1] at q
  have s := HD.out.2.2.2.2
  have d2 := H1.out.2.2.trans (q.1.mono H1.out.2.2.size)
  exact ⟨q.2.1, q.2.2.1, A3 HD.out.2.2.2.1 d2, by have := d2.size; omega, HD.out.1.trans (d2.mono HD.out.1.size)⟩)
 have HRD : Hid (AP W1 x1 x2 x3 S1 F1 E1 ∧ AP W1 y1 y2 y3 S2 F2 E2) := A0 (by
  have q := Br w1 #[.int .i64 (N : Int), .int .i64 (m : Int), .slice x1 S1.length k1, .slice x2 F1.length k2, .slice x3 E1.length k3] #[.int .i64 (M : Int), .int .i64 (m : Int), .slice y1 S2.length j1, .slice y2 F2.length j2, .slice y3 E2.length j3] 25
  rw [hW1] at q
  exact ⟨H1.out.1.on q.1, H1.out.2.1.on q.1⟩)
 rw [hW1]
 clear hW1 H1 HD hW0
 obtain ⟨bud, HBU⟩ : ∃ bud, Hid (BF bud0 = bud) := ⟨_, A0 rfl⟩
 have cm1 : W1.cell? ⟨w1.heap.size, 1, none⟩ = some (.int .i64 (m : Int)) := A1 HW.out.1 rfl
 go_upto_region 6 with fail
 clear cm1
 obtain ⟨W2, hW2⟩ : ∃ V, W1.alloc (.cells #[.int .i64 0, .int .i64 (m : Int), .slice none 0 0, .slice none 0 0, .slice none 0 0] 25) = V := ⟨_, rfl⟩
 have HI2 : Hid (DG W1 W2 W1.heap.size 0 (m : Int) (.slice none 0 0) (.slice none 0 0) (.slice none 0 0) (.slice none 0 0) [] [] [] []) := A0 (by
  have z := World.alloc_heap_new W1 (.cells #[.int .i64 0, .int .i64 (m : Int), .slice none 0 0, .slice none 0 0, .slice none 0 0] 25)
  rw [hW2] at z
  refine ⟨z, Nat.le_refl _, ⟨rfl, .inl ⟨rfl, rfl⟩⟩, ⟨rfl, .inl ⟨rfl, rfl⟩⟩, ⟨rfl, .inl ⟨rfl, rfl⟩⟩, ⟨rfl, .inl ⟨rfl, rfl⟩⟩, fun k h => (by cases h), ?_⟩
  rw [← hW2]
  exact (Below.refl _ _).alloc (Nat.le_refl _) _)
 rw [hW2]
 clear hW2
 have cs2 : W2.cell? ⟨w1.heap.size, 2, none⟩ = some (.slice x1 S1.length k1) := A1 (A3 HW.out.1 HI2.out.be) rfl
 have ct2 : W2.cell? ⟨w1.heap.size + 1, 2, none⟩ = some (.slice y1 S2.length j1) := A1 (A3 HW.out.2.1 HI2.out.be) rfl
 have T6 := CW W2 x1 y1 k1 j1 S1 S2 (A0 (HRD.out.1.on HI2.out.be).s) (A0 (HRD.out.2.on HI2.out.be).s) (by have := hl.out; omega) (by have := hl.out; omega)
 have HOK := A0 (Hf Hin.out.1 Hin.out.2.2.1)
 obtain ⟨T0, hT0⟩ : ∃ T, Az S1 S2 = T := ⟨_, rfl⟩
 have HT0 := A0 hT0
 rw [hT0] at T6 HND HOK
 clear hT0
 obtain ⟨L0, hL0⟩ : ∃ L, T0.take 4097 = L := ⟨_, rfl⟩
 rw [hL0] at T6
 have HL0 := A0 hL0
 clear hL0
 obtain ⟨l0, hl0⟩ : ∃ l, L0.length = l := ⟨_, rfl⟩
 rw [hl0] at T6
 have HLL0 : Hid (L0.length = l0) := A0 hl0
 have hb0 : l0 ≤ 4097 := by rw [← hl0, ← HL0.out, List.length_take]; omega
 clear hl0
 go_upto_region 7 with (go_at_call 45; refine T6.mono ?_; rintro e w4 ⟨ef, cf, rfl, HFi, D4⟩; have HD4 := A0 D4; clear D4)
 clear T6 cs2 ct2
 go_wp2_with fail
 go_loopw [15, 17] (fun mv iv wr => ∃ (i : Nat) (am : Option Addr) (cm : Nat), i ≤ l0 ∧ mv = .slice am i cm ∧ iv = .int .i64 (i : Int) ∧ Hid (i ≤ 4096 ∧ (∃ aS cS, DG W1 wr W1.heap.size 0 (m : Int) (.slice aS i cS) (.slice none 0 0) (.slice none 0 0) (.slice am i cm) (Bl i) [] [] (T0.take i)) ∧ GR wr W2.heap.size w4.heap.size ef l0 cf L0 (.slice am i cm) ∧ Af bud false [] T0 [] = Af bud false (T0.take i) (T0.drop i) (Bl i))) (fun _ iv _ => l0 - (intOf iv).toNat)
 case atStart => exact ⟨0, none, 0, Nat.zero_le _, rfl, rfl, A0 ⟨by omega, ⟨none, 0, HI2.out.on HD4.out⟩, ⟨HLL0.out, HFi.out, fun k hk => (HFi.out.lt k hk).2, (fun k hk => by cases hk), Nat.le_refl _⟩, rfl⟩⟩
 case round =>
  rename World => wo
  obtain ⟨i, am, cm, hi, rfl, rfl, HR1⟩ := hrel
  by_cases hil : i < l0
  · have ii1 : (i : Int) < (l0 : Int) := by omega
    have ii0 : (0 : Int) ≤ (i : Int) := by omega
    obtain ⟨u0, ⟨aS, cS, u1⟩, u2, u3⟩ := HR1.out
    have HS1 := A0 (And.intro u1 (And.intro u2 u3))
    have hiL : i < L0.length := by rw [HLL0.out]; exact hil
    have hiT : i < T0.length := by have e := HL0.out; rw [← e, List.length_take] at hiL; omega
    have HTI : Hid (L0[i] = T0[i]) := A0 (by
     have e : L0[i]? = T0[i]? := by rw [← HL0.out, List.getElem?_take, if_pos (by omega)]
     rw [List.getElem?_eq_getElem hiL, List.getElem?_eq_getElem hiT] at e
     exact Option.some.inj e)
    have HNI : Hid (T0[i] ∉ T0.take i) := A0 (MS HND.out hiT)
    have HMI : Hid (Af bud false [] T0 [] = if bud ≤ (i : Int) then (9, T0.take i, Bl i) else if 4096 ≤ i then (8, T0.take i, Bl i) else Af bud false (T0.take (i + 1)) (T0.drop (i + 1)) (Bl (i + 1))) := A0 (by
     have hli : (T0.take i).length = i := by rw [List.length_take]; omega
     rw [u3, List.drop_eq_getElem_cons hiT, Fu HNI.out, hli, Dz hiT, Gn])
    have hi4 : i ≤ 4096 := u0
    clear u0 u1 u2 u3 HR1
    have TFu := GQ wo (i : Int) bud0
    rw [Ju (by omega), HBU.out] at TFu
    by_cases hb1 : bud ≤ (i : Int)
    · rw [if_pos hb1] at TFu HMI
      have HRQ : Hid (Bi (AR lay) (BF bud0) m S1 F1 E1 S2 F2 E2 = B7 9) := A0 (by rw [HBU.out]; exact E3 (by decide) (by rw [HT0.out, HMI.out]))
      clear hb1
      go_upto_region 12 with (go_at_call 46; refine TFu.mono ?_; rintro e w8 ⟨rfl, hw8⟩; obtain rfl := hw8.symm; clear hw8)
      have F4 := A3 HW.out.2.2.1 HS1.out.1.be
      obtain ⟨o0', o1', o2', o3', o4'⟩ := An F4 rfl rfl rfl rfl rfl
      have fz0' : wo.frozen? ⟨w.heap.size + 1 + 1, 0, none⟩ = false := A4 F4
      have fz1' : wo.frozen? ⟨w.heap.size + 1 + 1, 1, none⟩ = false := A4 F4
      have fz2' : wo.frozen? ⟨w.heap.size + 1 + 1, 2, none⟩ = false := A4 F4
      have fz3' : wo.frozen? ⟨w.heap.size + 1 + 1, 3, none⟩ = false := A4 F4
      have fz4' : wo.frozen? ⟨w.heap.size + 1 + 1, 4, none⟩ = false := A4 F4
      have O6 := A0 (And.intro (AT wo (w.heap.size + 1 + 1) _ _ _ _ _ (.int .i64 0) (.int .i64 0) (.slice none 0 0) (.slice none 0 0) (.slice none 0 0) 25 F4) (AF wo (w.heap.size + 1 + 1) (.int .i64 0) (.int .i64 0) (.slice none 0 0) (.slice none 0 0) (.slice none 0 0)))
      clear F4
      go_wp2_with fail
      refine bodyPost_ret (As (p := 8) (q := 9) (r := 10) (ty := 25) rfl _ _ (w.heap.size + 1 + 1) 25 _ (0, 0) _ _ _ rfl rfl rfl O6.out.1 underlying25 rfl (by kernel_rfl)) rfl ?_
      have s2 := HW.out.2.2.2.1
      have db := HW.out.2.2.2.2.trans ((HS1.out.1.be).mono HW.out.2.2.2.2.size)
      have s3 := db.size
      exact AX HRQ.out rfl (db.trans (O6.out.2.toBelow (by omega) (fun k hk => by omega)))
    · rw [if_neg hb1] at TFu HMI
      by_cases hb2 : 4096 ≤ i
      · rw [if_pos hb2] at TFu HMI
        have HRQ : Hid (Bi (AR lay) (BF bud0) m S1 F1 E1 S2 F2 E2 = B7 8) := A0 (by rw [HBU.out]; exact E3 (by decide) (by rw [HT0.out, HMI.out]))
        clear hb1 hb2
        go_upto_region 12 with (go_at_call 46; refine TFu.mono ?_; rintro e w8 ⟨rfl, hw8⟩; obtain rfl := hw8.symm; clear hw8)
        have F4 := A3 HW.out.2.2.1 HS1.out.1.be
        obtain ⟨o0', o1', o2', o3', o4'⟩ := An F4 rfl rfl rfl rfl rfl
        have fz0' : wo.frozen? ⟨w.heap.size + 1 + 1, 0, none⟩ = false := A4 F4
        have fz1' : wo.frozen? ⟨w.heap.size + 1 + 1, 1, none⟩ = false := A4 F4
        have fz2' : wo.frozen? ⟨w.heap.size + 1 + 1, 2, none⟩ = false := A4 F4
        have fz3' : wo.frozen? ⟨w.heap.size + 1 + 1, 3, none⟩ = false := A4 F4
        have fz4' : wo.frozen? ⟨w.heap.size + 1 + 1, 4, none⟩ = false := A4 F4
        have O6 := A0 (And.intro (AT wo (w.heap.size + 1 + 1) _ _ _ _ _ (.int .i64 0) (.int .i64 0) (.slice none 0 0) (.slice none 0 0) (.slice none 0 0) 25 F4) (AF wo (w.heap.size + 1 + 1) (.int .i64 0) (.int .i64 0) (.slice none 0 0) (.slice none 0 0) (.slice none 0 0)))
        clear F4
        go_wp2_with fail
        refine bodyPost_ret (As (p := 8) (q := 9) (r := 10) (ty := 25) rfl _ _ (w.heap.size + 1 + 1) 25 _ (0, 0) _ _ _ rfl rfl rfl O6.out.1 underlying25 rfl (by kernel_rfl)) rfl ?_
        have s2 := HW.out.2.2.2.1
        have db := HW.out.2.2.2.2.trans ((HS1.out.1.be).mono HW.out.2.2.2.2.size)
        have s3 := db.size
        exact AX HRQ.out rfl (db.trans (O6.out.2.toBelow (by omega) (fun k hk => by omega)))
      · rw [if_neg hb2] at TFu HMI
        clear hb1
        have cS2 : wo.cell? ⟨W1.heap.size, 2, none⟩ = some (.slice aS i cS) := A1 HS1.out.1.bx rfl
        go_upto_region 13 with (go_at_call 46; refine TFu.mono ?_; rintro e w8 ⟨rfl, hw8⟩; obtain rfl := hw8.symm; clear hw8)
        clear TFu
        go_upto_region 14 with (at_builtin; refine Gp rfl _ _ rfl W1.heap.size (.slice aS i cS) (Bl i) rfl (by have q := A6 HS1.out.1.rs ((Below.refl _ _).alloc (Nat.le_refl _) (.cells #[.int .i64 (i : Int)] 3)); exact q) wo.heap.size (i : Int) rfl (World.alloc_heap_new _ _) (by rw [CY]; omega) (by rw [World.size_alloc]; have := HS1.out.1.be.size; omega) ?_; intro v5 w5 HO5 HG5 HV5; obtain ⟨z5, d5, e5⟩ := A8 HO5.out; have E5 : v5 = .slice z5 (i + 1) d5 := (by rw [e5, List.length_append, CY]; rfl); clear e5; subst E5; have bw : w5.heap[W1.heap.size]? = _ := HG5.out.cellK (HS1.out.1.on ((Below.refl _ _).alloc (Nat.le_refl _) (.cells #[.int .i64 (i : Int)] 3))).bx (C8 (HS1.out.1.on ((Below.refl _ _).alloc (Nat.le_refl _) (.cells #[.int .i64 (i : Int)] 3))).rs (HS1.out.1.on ((Below.refl _ _).alloc (Nat.le_refl _) (.cells #[.int .i64 (i : Int)] 3))).bx (by decide)); have cw2 : w5.cell? ⟨W1.heap.size, 2, none⟩ = some (.slice aS i cS) := A1 bw rfl; have fw2 : w5.frozen? ⟨W1.heap.size, 2, none⟩ = false := A4 bw; clear bw)
        clear cS2 cw2 fw2
        obtain ⟨W6, hW6⟩ : ∃ V, w5.setCell ⟨W1.heap.size, 2, none⟩ (.slice z5 (i + 1) d5) = V := ⟨_, rfl⟩
        have HS6 : Hid (DG W1 W6 W1.heap.size 0 (m : Int) (.slice z5 (i + 1) d5) (.slice none 0 0) (.slice none 0 0) (.slice am i cm) (Bl (i + 1)) [] [] (T0.take i) ∧ GR W6 W2.heap.size w4.heap.size ef l0 cf L0 (.slice am i cm)) := A0 (by
         have da : Below wo.heap.size wo (wo.alloc (.cells #[.int .i64 (i : Int)] 3)) := (Below.refl _ _).alloc (Nat.le_refl _) _
         rw [← hW6, Gn]
         exact ⟨Q9 HS1.out.1 da HO5.out HG5.out HV5.out, PT HS1.out.2.1 HS1.out.1 da HS1.out.1.rs (by decide) HG5.out⟩)
        rw [hW6]
        clear hW6 HO5 HG5 HV5
        obtain ⟨g, o, ea, q0, q1⟩ := Bc HS6.out.2.ll HS6.out.2.lr i hiL
        rw [HTI.out] at q0 q1
        have HTN := A0 (Dz hiT)
        generalize T0[i] = t at q0 q1 HTN
        obtain ⟨t1, t2⟩ := t
        simp only at q0 q1
        subst ea
        have hli : Hid ((T0.take i).length = i) := A0 (by rw [List.length_take]; omega)
        go_wp2_with (at_builtin; refine DD rfl _ _ rfl W1.heap.size (.slice am i cm) (T0.take i) rfl (A6 HS6.out.1.rm ((Below.refl _ _).alloc (Nat.le_refl _) _)) W6.heap.size (t1, t2) rfl (World.alloc_heap_new _ _) (by rw [hli.out]; omega) (by rw [World.size_alloc]; have := HS6.out.1.be.size; omega) ?_; intro v5 w5 HO5 HG5 HV5; obtain ⟨z6, d6, e5⟩ := A8 HO5.out; have E5 : v5 = .slice z6 (i + 1) d6 := (by rw [e5, List.length_append, hli.out]; rfl); clear e5; subst E5)
        have HNX : Hid (i + 1 ≤ 4096 ∧ (∃ aS cS, DG W1 w5 W1.heap.size 0 (m : Int) (.slice aS (i + 1) cS) (.slice none 0 0) (.slice none 0 0) (.slice z6 (i + 1) d6) (Bl (i + 1)) [] [] (T0.take (i + 1))) ∧ GR w5 W2.heap.size w4.heap.size (some ⟨g, o, none⟩) l0 cf L0 (.slice z6 (i + 1) d6) ∧ Af bud false [] T0 [] = Af bud false (T0.take (i + 1)) (T0.drop (i + 1)) (Bl (i + 1))) := A0 (by
         have da : Below W6.heap.size W6 (W6.alloc (.cells #[.int .i64 t1, .int .i64 t2] 57)) := (Below.refl _ _).alloc (Nat.le_refl _) _
         exact ⟨by omega, ⟨z5, d5, by rw [HTN.out]; exact Q3 HS6.out.1 da HO5.out HG5.out⟩, Q0 HS6.out.2 da HG5.out HV5.out, HMI.out⟩)
        clear HO5 HG5 HV5 HTN q0 q1
        go_roundw
        case rel => exact ⟨i + 1, z6, d6, by omega, rfl, by go_num, HNX⟩
        case measure => simp [intOf]; omega
  · have ii1 : ¬ (i : Int) < (l0 : Int) := by omega
    obtain ⟨u0, ⟨aS, cS, u1⟩, u2, u3⟩ := HR1.out
    have hiT : i = T0.length := by
     have e := HLL0.out
     rw [← HL0.out, List.length_take] at e
     omega
    rw [show T0.take i = T0 by rw [hiT, List.take_length]] at u1 u3
    rw [show T0.drop i = [] by rw [hiT, List.drop_length]] at u3
    have HG0 : Hid (Af bud false [] (Az S1 S2) [] = (0, T0, Bl i)) := A0 (by rw [HT0.out, u3]; rfl)
    obtain ⟨s0, hs0⟩ : ∃ s, s = i := ⟨_, rfl⟩
    obtain ⟨amz, hamz⟩ : ∃ x, x = am := ⟨_, rfl⟩
    obtain ⟨cmz, hcmz⟩ : ∃ x, x = cm := ⟨_, rfl⟩
    subst hs0 hamz hcmz
    have HT2 : Hid (∃ aF lF cF aE lE cE ps raw, ps.length = s0 ∧ DG W1 wo W1.heap.size 0 (m : Int) (.slice aS s0 cS) (.slice aF lF cF) (.slice aE lE cE) (.slice amz s0 cmz) (Bl s0) (Cj (Ay F1) (Ay F2) ps 0) (raw.take 131073) ps ∧ (Cj (Ay F1) (Ay F2) ps 0).length = lF ∧ (raw.take 131073).length = lE ∧ DJ bud (AR lay E1 E2) m N M T0 ps raw 0 0) := A0 ⟨none, 0, 0, none, 0, 0, T0, [], hiT.symm, u1, rfl, rfl, DJ.start HND.out (by omega) HOK.out⟩
    clear u0 u1 u2 u3 HR1 hiT
    go_wp2_with fail
    go_loopw [15, 18] (fun mv nv wr => ∃ (i lm : Nat) (am : Option Addr) (cm : Nat), i ≤ lm ∧ mv = .slice am lm cm ∧ nv = .int .i64 (i : Int) ∧ Hid (∃ aF lF cF aE lE cE ps raw, ps.length = lm ∧ DG W1 wr W1.heap.size 0 (m : Int) (.slice aS s0 cS) (.slice aF lF cF) (.slice aE lE cE) (.slice am lm cm) (Bl s0) (Cj (Ay F1) (Ay F2) ps i) (raw.take 131073) ps ∧ (Cj (Ay F1) (Ay F2) ps i).length = lF ∧ (raw.take 131073).length = lE ∧ DJ bud (AR lay E1 E2) m N M T0 ps raw i 0)) (fun _ nv _ => M4 - (intOf nv).toNat)
    case atStart => exact ⟨0, s0, amz, cmz, Nat.zero_le _, rfl, rfl, HT2⟩
    case round =>
     clear HT2
     rename World => wn
     obtain ⟨i, lm, am, cm, hi, rfl, rfl, HR2⟩ := hrel
     by_cases hil : i < lm
     · have ii1 : (i : Int) < (lm : Int) := by omega
       have ii0 : (0 : Int) ≤ (i : Int) := by omega
       obtain ⟨aF, lF, cF, aE, lE, cE, psi, raw, v1, v2, v3, v4, v5⟩ := HR2.out
       have hip : i < psi.length := by omega
       obtain ⟨p, q, hpq, hpN, hqM⟩ := v5.bd _ (List.getElem_mem hip)
       have HPI : Hid (∃ h : i < psi.length, psi[i] = ((p : Int), (q : Int))) := A0 ⟨hip, hpq⟩
       have HPB : Hid (p < N ∧ q < M) := A0 ⟨hpN, hqM⟩
       obtain ⟨g, o, ea, q0, q1⟩ := Bc v1 (by have z := v2.rm; rw [v1] at z; exact z) i hip
       rw [hpq] at q0 q1
       simp only at q0 q1
       subst ea
       have HS2 : Hid (psi.length = lm ∧ DG W1 wn W1.heap.size 0 (m : Int) (.slice aS s0 cS) (.slice aF lF cF) (.slice aE lE cE) (.slice (some ⟨g, o, none⟩) lm cm) (Bl s0) (Cj (Ay F1) (Ay F2) psi i) (raw.take 131073) psi ∧ (Cj (Ay F1) (Ay F2) psi i).length = lF ∧ (raw.take 131073).length = lE ∧ DJ bud (AR lay E1 E2) m N M T0 psi raw i 0) := A0 ⟨v1, v2, v3, v4, v5⟩
       have KC : Hid (∀ W, Below wn.heap.size wn W → W.cell? ⟨w1.heap.size, 3, none⟩ = some (.slice x2 F1.length k2) ∧ W.cell? ⟨w1.heap.size + 1, 3, none⟩ = some (.slice y2 F2.length j2) ∧ W.cell? ⟨g, o + i * 2, none⟩ = some (.int .i64 (p : Int)) ∧ W.cell? ⟨g, o + i * 2 + 1, none⟩ = some (.int .i64 (q : Int))) := A0 (fun W d => ⟨A1 (A3 (A3 HW.out.1 v2.be) d) rfl, A1 (A3 (A3 HW.out.2.1 v2.be) d) rfl, (d.cell (p := ⟨g, o + i * 2, none⟩) (World.block_lt_of_cell? wn _ q0)).trans q0, (d.cell (p := ⟨g, o + i * 2 + 1, none⟩) (World.block_lt_of_cell? wn _ q1)).trans q1⟩)
       clear v1 v2 v3 v4 v5 hpN hqM q0 q1 hpq HR2 hip
       have T18 : Hid (∀ W, Below wn.heap.size wn W → Calls prog 47 #[.slice x2 F1.length k2, .int .i64 (p : Int)] W fun e w' => e = .returned (.bool (decide ((p : Int) ∈ F1))) ∧ Below W.heap.size W w') := A0 (fun W d => Ik W x2 k2 F1 (p : Int) (A0 (((HRD.out.1.on HS2.out.2.1.be).on d).f)) (by have := hl.out; omega))
       have T19 : Hid (∀ W, Below wn.heap.size wn W → Calls prog 47 #[.slice y2 F2.length j2, .int .i64 (q : Int)] W fun e w' => e = .returned (.bool (decide ((q : Int) ∈ F2))) ∧ Below W.heap.size W w') := A0 (fun W d => Ik W y2 j2 F2 (q : Int) (A0 (((HRD.out.2.on HS2.out.2.1.be).on d).f)) (by have := hl.out; omega))
       obtain ⟨b1, hb1⟩ : ∃ b, decide ((p : Int) ∈ F1) = b := ⟨_, rfl⟩
       obtain ⟨b2, hb2⟩ : ∃ b, decide ((q : Int) ∈ F2) = b := ⟨_, rfl⟩
       rw [hb1] at T18
       rw [hb2] at T19
       have HFE : Hid (Cj (Ay F1) (Ay F2) psi (i + 1) = Cj (Ay F1) (Ay F2) psi i ++ if (b1 && b2) = true then [(i : Int)] else []) := A0 (by
        obtain ⟨hip, hpq⟩ := HPI.out
        rw [I3 _ _ _ _ hip, hpq]
        have e : OZ (Ay F1) (Ay F2) ((p : Int), (q : Int)) = (b1 && b2) := by rw [← hb1, ← hb2]; rfl
        rw [e])
       clear hb1 hb2
       go_upto_region 18 with fail
       go_cut [19] from 80 to 87 (fun v19 W => v19 = .bool b1 ∧ Hid (Below wn.heap.size wn W))
       case first =>
        have hmo : AJ 0 [vI 0 (.pointer (some ⟨w1.heap.size, 3, none⟩)), vI 1 (.slice x2 F1.length k2), vI 2 (.slice (some ⟨g, o, none⟩) lm cm), vI 3 (.int .i64 (i : Int)), vI 4 (.pointer (some ⟨g, o + i * 2, none⟩)), vI 5 (.pointer (some ⟨g, o + i * 2, none⟩)), vI 6 (.int .i64 (p : Int))] := ⟨A2 _ _, A2 _ _, A2 _ _, A2 _ _, A2 _ _, A2 _ _, A2 _ _, trivial⟩
        refine Aj _ (by kernel_rfl) (by kernel_rfl) (by kernel_rfl) (by kernel_rfl) hmo ⟨?o0, ?o1, ?o2, ?o3, ?o4, ?o5, ?o6, trivial⟩ ?fin
        case o0 =>
         intro At yy W hy hb d hd K hK
         obtain ⟨s11, s11'⟩ := AG (hb 11 rfl : _ = .pointer (some ⟨w1.heap.size, 0, none⟩))
         clear hd hy hb
         go_simp
         exact Ak hK hmo d (if_pos rfl)
        case o1 =>
         intro At yy W hy hb d hd K hK
         obtain ⟨s80, s80'⟩ := Ao 0 80 .data hy hd rfl
         clear hd hy hb
         obtain ⟨kx, ky, kp, kq⟩ := KC.out W d
         go_simp
         exact Ak hK hmo d (if_pos rfl)
        case o2 =>
         intro At yy W hy hb d hd K hK
         obtain ⟨s15, s15'⟩ := AG (hb 15 rfl : _ = .slice (some ⟨g, o, none⟩) lm cm)
         clear hd hy hb
         go_simp
         exact Ak hK hmo d (if_pos rfl)
        case o3 =>
         intro At yy W hy hb d hd K hK
         obtain ⟨s18, s18'⟩ := AG (hb 18 rfl : _ = .int .i64 (i : Int))
         clear hd hy hb
         go_simp
         exact Ak hK hmo d (if_pos rfl)
        case o4 =>
         intro At yy W hy hb d hd K hK
         obtain ⟨s82, s82'⟩ := Ao 2 82 .data hy hd rfl
         obtain ⟨s83, s83'⟩ := Ao 3 83 .data hy hd rfl
         clear hd hy hb
         go_simp
         exact Ak hK hmo d (if_pos rfl)
        case o5 =>
         intro At yy W hy hb d hd K hK
         obtain ⟨s84, s84'⟩ := Ao 4 84 .data hy hd rfl
         clear hd hy hb
         go_simp
         exact Ak hK hmo d (if_pos rfl)
        case o6 =>
         intro At yy W hy hb d hd K hK
         obtain ⟨s85, s85'⟩ := Ao 5 85 .data hy hd rfl
         clear hd hy hb
         obtain ⟨kx, ky, kp, kq⟩ := KC.out W d
         go_simp
         exact Ak hK hmo d (if_pos rfl)
        case fin =>
         intro yy lo hi W hM
         show wpList _ _ _ [_, _] _ _
         have e0 := hM.v 0 (by simp) rfl rfl rfl
         have e1 := hM.v 1 (by simp) rfl rfl rfl
         have e2 := hM.v 2 (by simp) rfl rfl rfl
         have e3 := hM.v 3 (by simp) rfl rfl rfl
         have e4 := hM.v 4 (by simp) rfl rfl rfl
         have e5 := hM.v 5 (by simp) rfl rfl rfl
         have e6 := hM.v 6 (by simp) rfl rfl rfl
         have HDD := A0 hM.d
         simp only [Aw, Act.put, List.take, List.length, List.setIfInBounds_toArray, List.set_cons_zero, List.set_cons_succ, e0, e1, e2, e3, e4, e5, e6]
         clear hM hmo e0 e1 e2 e3 e4 e5 e6
         go_wp2_with (go_at_call 47; refine (T18.out _ HDD.out).mono ?_; rintro e wa ⟨rfl, da⟩)
         go_meet
         exact ⟨rfl, A0 (HDD.out.trans (da.mono HDD.out.size))⟩
       case rest =>
        rename World => wa
        obtain ⟨rfl, HD18⟩ := hcut
        go_upto_region 19 with fail
        go_cut [20] from 88 to 95 (fun v20 W => v20 = .bool b2 ∧ Hid (Below wn.heap.size wn W))
        case first =>
         have T19' : Hid (∀ W, Below wa.heap.size wa W → Calls prog 47 #[.slice y2 F2.length j2, .int .i64 (q : Int)] W fun e w' => e = .returned (.bool b2) ∧ Below W.heap.size W w') := A0 (fun W d => T19.out W (HD18.out.trans (d.mono HD18.out.size)))
         have hmo : AJ 0 [vI 0 (.pointer (some ⟨w1.heap.size + 1, 3, none⟩)), vI 1 (.slice y2 F2.length j2), vI 2 (.slice (some ⟨g, o, none⟩) lm cm), vI 3 (.int .i64 (i : Int)), vI 4 (.pointer (some ⟨g, o + i * 2, none⟩)), vI 5 (.pointer (some ⟨g, o + i * 2 + 1, none⟩)), vI 6 (.int .i64 (q : Int))] := ⟨A2 _ _, A2 _ _, A2 _ _, A2 _ _, A2 _ _, A2 _ _, A2 _ _, trivial⟩
         refine Aj _ (by kernel_rfl) (by kernel_rfl) (by kernel_rfl) (by kernel_rfl) hmo ⟨?o0, ?o1, ?o2, ?o3, ?o4, ?o5, ?o6, trivial⟩ ?fin
         case o0 =>
          intro At yy W hy hb d hd K hK
          obtain ⟨s12, s12'⟩ := AG (hb 12 rfl : _ = .pointer (some ⟨w1.heap.size + 1, 0, none⟩))
          clear hd hy hb
          go_simp
          exact Ak hK hmo d (if_pos rfl)
         case o1 =>
          intro At yy W hy hb d hd K hK
          obtain ⟨s88, s88'⟩ := Ao 0 88 .data hy hd rfl
          clear hd hy hb
          obtain ⟨kx, ky, kp, kq⟩ := KC.out W (HD18.out.trans ((d).mono HD18.out.size))
          go_simp
          exact Ak hK hmo d (if_pos rfl)
         case o2 =>
          intro At yy W hy hb d hd K hK
          obtain ⟨s15, s15'⟩ := AG (hb 15 rfl : _ = .slice (some ⟨g, o, none⟩) lm cm)
          clear hd hy hb
          go_simp
          exact Ak hK hmo d (if_pos rfl)
         case o3 =>
          intro At yy W hy hb d hd K hK
          obtain ⟨s18, s18'⟩ := AG (hb 18 rfl : _ = .int .i64 (i : Int))
          clear hd hy hb
          go_simp
          exact Ak hK hmo d (if_pos rfl)
         case o4 =>
          intro At yy W hy hb d hd K hK
          obtain ⟨s90, s90'⟩ := Ao 2 90 .data hy hd rfl
          obtain ⟨s91, s91'⟩ := Ao 3 91 .data hy hd rfl
          clear hd hy hb
          go_simp
          exact Ak hK hmo d (if_pos rfl)
         case o5 =>
          intro At yy W hy hb d hd K hK
          obtain ⟨s92, s92'⟩ := Ao 4 92 .data hy hd rfl
          clear hd hy hb
          go_simp
          exact Ak hK hmo d (if_pos rfl)
         case o6 =>
          intro At yy W hy hb d hd K hK
          obtain ⟨s93, s93'⟩ := Ao 5 93 .data hy hd rfl
          clear hd hy hb
          obtain ⟨kx, ky, kp, kq⟩ := KC.out W (HD18.out.trans ((d).mono HD18.out.size))
          go_simp
          exact Ak hK hmo d (if_pos rfl)
         case fin =>
          intro yy lo hi W hM
          show wpList _ _ _ [_, _] _ _
          have e0 := hM.v 0 (by simp) rfl rfl rfl
          have e1 := hM.v 1 (by simp) rfl rfl rfl
          have e2 := hM.v 2 (by simp) rfl rfl rfl
          have e3 := hM.v 3 (by simp) rfl rfl rfl
          have e4 := hM.v 4 (by simp) rfl rfl rfl
          have e5 := hM.v 5 (by simp) rfl rfl rfl
          have e6 := hM.v 6 (by simp) rfl rfl rfl
          have HDD := A0 hM.d
          simp only [Aw, Act.put, List.take, List.length, List.setIfInBounds_toArray, List.set_cons_zero, List.set_cons_succ, e0, e1, e2, e3, e4, e5, e6]
          clear hM hmo e0 e1 e2 e3 e4 e5 e6
          go_wp2_with (go_at_call 47; refine (T19'.out _ HDD.out).mono ?_; rintro e wa ⟨rfl, da⟩)
          go_meet
          exact ⟨rfl, A0 (HD18.out.trans ((HDD.out.trans (da.mono HDD.out.size)).mono HD18.out.size))⟩
        case rest =>
         rename World => wb
         obtain ⟨rfl, HD19⟩ := hcut
         clear T18 T19 HD18
         go_upto_region 20 with fail
         go_cut [99] from 96 to 98 (fun v99 W => v99 = .bool (b1 && b2) ∧ W = wb)
         case first =>
          cases b1 <;> cases b2
          all_goals
           go_wp2_with fail
           go_meet
           exact ⟨rfl, rfl⟩
         case rest =>
         rename World => wb2
         obtain ⟨rfl, hwb⟩ := hcut
         obtain rfl := hwb.symm
         clear hwb
         generalize (b1 && b2) = bb at HFE ⊢
         go_upto_if 99 with fail
         go_cut [18] from 99 to 105 (fun v18 W => v18 = .int .i64 (i : Int) ∧ Hid (∃ aF lF cF, DG W1 W W1.heap.size 0 (m : Int) (.slice aS s0 cS) (.slice aF lF cF) (.slice aE lE cE) (.slice (some ⟨g, o, none⟩) lm cm) (Bl s0) (Cj (Ay F1) (Ay F2) psi (i + 1)) (raw.take 131073) psi ∧ (Cj (Ay F1) (Ay F2) psi (i + 1)).length = lF))
         case first =>
          cases bb with
          | false =>
           go_wp2_with fail
           go_meet
           refine ⟨rfl, A0 ⟨aF, lF, cF, ?_, ?_⟩⟩
           · rw [HFE.out]; simp only [Bool.false_eq_true, if_false, List.append_nil]; exact HS2.out.2.1.on HD19.out
           · rw [HFE.out]; simp only [Bool.false_eq_true, if_false, List.append_nil]; exact HS2.out.2.2.1
          | true =>
           have HB := A0 (HS2.out.2.1.on HD19.out)
           have cf3 : wb.cell? ⟨W1.heap.size, 3, none⟩ = some (.slice aF lF cF) := A1 HB.out.bx rfl
           have hFl : (Cj (Ay F1) (Ay F2) psi i).length ≤ 4096 := Nat.le_trans (Fg _ _ _ _) (by have := HS2.out.1; have := HS2.out.2.2.2.2.pl; omega)
           go_wp2_with (at_builtin; refine Gp rfl _ _ rfl W1.heap.size (.slice aF lF cF) (Cj (Ay F1) (Ay F2) psi i) rfl (A6 HB.out.rf ((Below.refl _ _).alloc (Nat.le_refl _) _)) wb.heap.size (i : Int) rfl (World.alloc_heap_new _ _) (by omega) (by rw [World.size_alloc]; have := HB.out.be.size; omega) ?_; intro v5 w5 HO5 HG5 HV5; obtain ⟨z5, d5, e5⟩ := A8 HO5.out; have E5 : v5 = .slice z5 (lF + 1) d5 := (by rw [e5, List.length_append, HS2.out.2.2.1]; rfl); clear e5; subst E5; have bw : w5.heap[W1.heap.size]? = _ := HG5.out.cellK (HB.out.on ((Below.refl _ _).alloc (Nat.le_refl _) (.cells #[.int .i64 (i : Int)] 3))).bx (C8 (HB.out.on ((Below.refl _ _).alloc (Nat.le_refl _) (.cells #[.int .i64 (i : Int)] 3))).rf (HB.out.on ((Below.refl _ _).alloc (Nat.le_refl _) (.cells #[.int .i64 (i : Int)] 3))).bx (by decide)); have cw3 : w5.cell? ⟨W1.heap.size, 3, none⟩ = some (.slice aF lF cF) := A1 bw rfl; have fw3 : w5.frozen? ⟨W1.heap.size, 3, none⟩ = false := A4 bw; clear bw)
           go_meet
           refine ⟨rfl, A0 ⟨z5, lF + 1, d5, ?_, ?_⟩⟩
           · rw [HFE.out]; simp only [if_true]; exact Q7 HB.out ((Below.refl _ _).alloc (Nat.le_refl _) _) HO5.out HG5.out HV5.out
           · rw [HFE.out]; simp only [if_true]; rw [List.length_append, HS2.out.2.2.1]; rfl
         case rest =>
          rename World => wf
          obtain ⟨rfl, HC18⟩ := hcut
          obtain ⟨aF, lF, cF, u1, u2⟩ := HC18.out
          obtain ⟨Fx, hFx⟩ : ∃ F, Cj (Ay F1) (Ay F2) psi (i + 1) = F := ⟨_, rfl⟩
          rw [hFx] at u1 u2
          have HFX : Hid (Cj (Ay F1) (Ay F2) psi (i + 1) = Fx ∧ Fx.length = lF) := A0 ⟨hFx, u2⟩
          have HT3 : Hid (∃ aE lE cE ps raw, ps.length = lm ∧ DG W1 wf W1.heap.size 0 (m : Int) (.slice aS s0 cS) (.slice aF lF cF) (.slice aE lE cE) (.slice (some ⟨g, o, none⟩) lm cm) (Bl s0) Fx (raw.take 131073) ps ∧ (raw.take 131073).length = lE ∧ DJ bud (AR lay E1 E2) m N M T0 ps raw i 0 ∧ (∃ x, ps = psi ++ x) ∧ i < lm) := A0 ⟨aE, lE, cE, psi, raw, HS2.out.1, u1, HS2.out.2.2.2.1, HS2.out.2.2.2.2, ⟨[], by simp⟩, hil⟩
          clear u1 u2 hFx HC18 HFE KC HS2 HD19 ii0 ii1
          go_wp2_with fail
          go_loopw [15, 21] (fun mv kv wr => ∃ (k lm : Nat) (am : Option Addr) (cm : Nat), k ≤ m ∧ mv = .slice am lm cm ∧ kv = .int .i64 (k : Int) ∧ Hid (∃ aE lE cE ps raw, ps.length = lm ∧ DG W1 wr W1.heap.size 0 (m : Int) (.slice aS s0 cS) (.slice aF lF cF) (.slice aE lE cE) (.slice am lm cm) (Bl s0) Fx (raw.take 131073) ps ∧ (raw.take 131073).length = lE ∧ DJ bud (AR lay E1 E2) m N M T0 ps raw i k ∧ (∃ x, ps = psi ++ x) ∧ i < lm)) (fun _ kv _ => m - (intOf kv).toNat)
          case atStart => exact ⟨0, lm, some ⟨g, o, none⟩, cm, Nat.zero_le _, rfl, rfl, HT3⟩
          case round =>
           clear HT3
           rename World => wk
           obtain ⟨k, lm, am, cm, hk, rfl, rfl, HR3⟩ := hrel
           have cxm : wk.cell? ⟨w1.heap.size, 1, none⟩ = some (.int .i64 (m : Int)) := by obtain ⟨_, _, _, _, _, _, u, _⟩ := HR3.out; exact A1 (A3 HW.out.1 u.be) rfl
           by_cases hkl : k < m
           · have kk1 : (k : Int) < (m : Int) := by omega
             obtain ⟨aE, lE, cE, ps, raw, v1, v2, v3, v4, v5, v6⟩ := HR3.out
             have HS3 : Hid (ps.length = lm ∧ DG W1 wk W1.heap.size 0 (m : Int) (.slice aS s0 cS) (.slice aF lF cF) (.slice aE lE cE) (.slice am lm cm) (Bl s0) Fx (raw.take 131073) ps ∧ (raw.take 131073).length = lE ∧ DJ bud (AR lay E1 E2) m N M T0 ps raw i k) := A0 ⟨v1, v2, v3, v4⟩
             have HI3 : Hid (i < lm ∧ ∃ x, ps = psi ++ x) := A0 ⟨v6, v5⟩
             have hip : i < ps.length := by omega
             have HXY : Hid (ps[i] = ((p : Int), (q : Int))) := A0 (by
              obtain ⟨x, hx⟩ := v5
              have e : ps[i]? = psi[i]? := by rw [hx, List.getElem?_append_left HPI.out.1]
              rw [List.getElem?_eq_getElem hip, List.getElem?_eq_getElem HPI.out.1] at e
              rw [Option.some.inj e]
              exact HPI.out.2)
             clear v1 v2 v3 v4 v5 v6 HR3
             obtain ⟨g, o, ea, q0, q1⟩ := Bc HS3.out.1 (by have q := HS3.out.2.1.rm; rw [HS3.out.1] at q; exact q) i hip
             rw [HXY.out] at q0 q1
             simp only at q0 q1
             subst ea
             have HLM : Hid ((i : Int) < (lm : Int)) := A0 (by have := HI3.out.1; omega)
             have KD : Hid (∀ W, Below wk.heap.size wk W → W.heap[w1.heap.size]? = some (.cells #[.int .i64 (N : Int), .int .i64 (m : Int), .slice x1 S1.length k1, .slice x2 F1.length k2, .slice x3 E1.length k3] 25 (0, 0)) ∧ W.heap[w1.heap.size + 1]? = some (.cells #[.int .i64 (M : Int), .int .i64 (m : Int), .slice y1 S2.length j1, .slice y2 F2.length j2, .slice y3 E2.length j3] 25 (0, 0)) ∧ W.cell? ⟨g, o + i * 2, none⟩ = some (.int .i64 (p : Int)) ∧ W.cell? ⟨g, o + i * 2 + 1, none⟩ = some (.int .i64 (q : Int))) := A0 (fun W d => ⟨A3 (A3 HW.out.1 HS3.out.2.1.be) d, A3 (A3 HW.out.2.1 HS3.out.2.1.be) d, (d.cell (p := ⟨g, o + i * 2, none⟩) (World.block_lt_of_cell? wk _ q0)).trans q0, (d.cell (p := ⟨g, o + i * 2 + 1, none⟩) (World.block_lt_of_cell? wk _ q1)).trans q1⟩)
             clear q0 q1
             have TB : Hid (∀ W, Below wk.heap.size wk W → Calls prog 48 #[.agg #[.int .i64 (N : Int), .int .i64 (m : Int), .slice x1 S1.length k1, .slice x2 F1.length k2, .slice x3 E1.length k3], .agg #[.int .i64 (M : Int), .int .i64 (m : Int), .slice y1 S2.length j1, .slice y2 F2.length j2, .slice y3 E2.length j3], .agg #[.int .i64 (p : Int), .int .i64 (q : Int)], .int .i64 (k : Int), .bool lay] W fun e w' => ∃ b c, e = .returned (.slice b (Ck lay E1 E2 ((p : Int), (q : Int)) (k : Int)).length c) ∧ Hid (w'.ownsRow W.heap.size 57 2 (.slice b (Ck lay E1 E2 ((p : Int), (q : Int)) (k : Int)).length c) (Ck lay E1 E2 ((p : Int), (q : Int)) (k : Int)).length ((Ck lay E1 E2 ((p : Int), (q : Int)) (k : Int)).flatMap Bn)) ∧ Below W.heap.size W w') := A0 (fun W d => by
              have r := (HRD.out.1.on HS3.out.2.1.be).on d
              have r' := (HRD.out.2.on HS3.out.2.1.be).on d
              cases lay with
              | false => exact OC W (N : Int) (m : Int) (M : Int) (m : Int) x1 x2 x3 y1 y2 y3 S1.length F1.length S2.length F2.length k1 k2 k3 j1 j2 j3 E1 E2 (p : Int) (q : Int) (k : Int) (A0 r.e) (A0 r'.e) hl.out.2.2.1 hl.out.2.2.2.2.2
              | true => exact ON W (N : Int) (m : Int) (M : Int) (m : Int) x1 x2 x3 y1 y2 y3 S1.length F1.length S2.length F2.length k1 k2 k3 j1 j2 j3 E1 E2 (p : Int) (q : Int) (k : Int) (A0 r.e) (A0 r'.e) hl.out.2.2.1 hl.out.2.2.2.2.2)
             have HBM : Hid (Af bud false ps (Ck lay E1 E2 ((p : Int), (q : Int)) (k : Int)) [] = Af bud false ps (AR lay E1 E2 ((p : Int), (q : Int)) k) []) := A0 (Ns HQ.out.1 HQ.out.2 HS3.out.2.2.2.nd HS3.out.2.2.2.pl p q k)
             have HLB : Hid (∀ t ∈ AR lay E1 E2 ((p : Int), (q : Int)) k, ∃ p q : Nat, t = ((p : Int), (q : Int)) ∧ p < N ∧ q < M) := A0 (by
              cases lay with
              | false => exact LG (p := p) (q := q) (s := k) HQ.out.1 HQ.out.2
              | true => exact Lg (s := k) HQ.out.1 HQ.out.2 HPB.out.1 HPB.out.2)
             have HBL : Hid ((Ck lay E1 E2 ((p : Int), (q : Int)) (k : Int)).length ≤ 8194) := A0 Oz
             generalize Ck lay E1 E2 ((p : Int), (q : Int)) (k : Int) = L at TB HBM HBL
             have HMB : Hid (∀ k, (Value.slice (some ⟨g, o, none⟩) lm cm).ownBlock = some k → k < wk.heap.size) := A0 (fun k hk => (HS3.out.2.1.rm.lt k hk).2)
             have ii0 : (0 : Int) ≤ (i : Int) := by omega
             have ii1 : (i : Int) < (lm : Int) := HLM.out
             go_upto_region 25 with fail
             clear cxm
             go_cut [22] from 112 to 120 (fun v22 W => ∃ al cl l, v22 = .slice al l cl ∧ Hid (∃ lo hi, GR W lo hi al l cl L (.slice (some ⟨g, o, none⟩) lm cm) ∧ Below wk.heap.size wk W))
             case first =>
              have hmo : AJ 0 [vI 0 (.agg #[.int .i64 (N : Int), .int .i64 (m : Int), .slice x1 S1.length k1, .slice x2 F1.length k2, .slice x3 E1.length k3]), vI 1 (.agg #[.int .i64 (M : Int), .int .i64 (m : Int), .slice y1 S2.length j1, .slice y2 F2.length j2, .slice y3 E2.length j3]), vI 2 (.slice (some ⟨g, o, none⟩) lm cm), vI 3 (.int .i64 (i : Int)), vI 4 (.pointer (some ⟨g, o + i * 2, none⟩)), vI 5 (.agg #[.int .i64 (p : Int), .int .i64 (q : Int)]), vI 6 (.int .i64 (k : Int)), vI 7 (.bool lay)] := ⟨A2 _ _, A2 _ _, A2 _ _, A2 _ _, A2 _ _, A2 _ _, A2 _ _, A2 _ _, trivial⟩
              refine Aj _ (by kernel_rfl) (by kernel_rfl) (by kernel_rfl) (by kernel_rfl) hmo ⟨?o0, ?o1, ?o2, ?o3, ?o4, ?o5, ?o6, ?o7, trivial⟩ ?fin
              case o0 =>
               intro At yy W hy hb d hd K hK
               obtain ⟨s11, s11'⟩ := AG (hb 11 rfl : _ = .pointer (some ⟨w1.heap.size, 0, none⟩))
               clear hd hy hb
               obtain ⟨ux, uy, up⟩ := KD.out W d
               obtain ⟨x0', x1', x2', x3', x4'⟩ := An ux rfl rfl rfl rfl rfl
               obtain ⟨y0', y1', y2', y3', y4'⟩ := An uy rfl rfl rfl rfl rfl
               have p0' := up.1
               have p1' := up.2
               go_simp
               exact Ak hK hmo d (if_pos rfl)
              case o1 =>
               intro At yy W hy hb d hd K hK
               obtain ⟨s12, s12'⟩ := AG (hb 12 rfl : _ = .pointer (some ⟨w1.heap.size + 1, 0, none⟩))
               clear hd hy hb
               obtain ⟨ux, uy, up⟩ := KD.out W d
               obtain ⟨x0', x1', x2', x3', x4'⟩ := An ux rfl rfl rfl rfl rfl
               obtain ⟨y0', y1', y2', y3', y4'⟩ := An uy rfl rfl rfl rfl rfl
               have p0' := up.1
               have p1' := up.2
               go_simp
               exact Ak hK hmo d (if_pos rfl)
              case o2 =>
               intro At yy W hy hb d hd K hK
               obtain ⟨s15, s15'⟩ := AG (hb 15 rfl : _ = .slice (some ⟨g, o, none⟩) lm cm)
               clear hd hy hb
               go_simp
               exact Ak hK hmo d (if_pos rfl)
              case o3 =>
               intro At yy W hy hb d hd K hK
               obtain ⟨s18, s18'⟩ := AG (hb 18 rfl : _ = .int .i64 (i : Int))
               clear hd hy hb
               go_simp
               exact Ak hK hmo d (if_pos rfl)
              case o4 =>
               intro At yy W hy hb d hd K hK
               obtain ⟨s114, s114'⟩ := Ao 2 114 .data hy hd rfl
               obtain ⟨s115, s115'⟩ := Ao 3 115 .data hy hd rfl
               clear hd hy hb
               go_simp
               exact Ak hK hmo d (if_pos rfl)
              case o5 =>
               intro At yy W hy hb d hd K hK
               obtain ⟨s116, s116'⟩ := Ao 4 116 .data hy hd rfl
               clear hd hy hb
               obtain ⟨ux, uy, up⟩ := KD.out W d
               obtain ⟨x0', x1', x2', x3', x4'⟩ := An ux rfl rfl rfl rfl rfl
               obtain ⟨y0', y1', y2', y3', y4'⟩ := An uy rfl rfl rfl rfl rfl
               have p0' := up.1
               have p1' := up.2
               go_simp
               exact Ak hK hmo d (if_pos rfl)
              case o6 =>
               intro At yy W hy hb d hd K hK
               obtain ⟨s21, s21'⟩ := AG (hb 21 rfl : _ = .int .i64 (k : Int))
               clear hd hy hb
               go_simp
               exact Ak hK hmo d (if_pos rfl)
              case o7 =>
               intro At yy W hy hb d hd K hK
               obtain ⟨s3, s3'⟩ := AG (hb 3 rfl : _ = .bool lay)
               clear hd hy hb
               go_simp
               exact Ak hK hmo d (if_pos rfl)
              case fin =>
               intro yy lo hi W hM
               show wpList _ _ _ [_, _] _ _
               have e0 := hM.v 0 (by simp) rfl rfl rfl
               have e1 := hM.v 1 (by simp) rfl rfl rfl
               have e2 := hM.v 2 (by simp) rfl rfl rfl
               have e3 := hM.v 3 (by simp) rfl rfl rfl
               have e4 := hM.v 4 (by simp) rfl rfl rfl
               have e5 := hM.v 5 (by simp) rfl rfl rfl
               have e6 := hM.v 6 (by simp) rfl rfl rfl
               have e7 := hM.v 7 (by simp) rfl rfl rfl
               have HDD := A0 hM.d
               simp only [Aw, Act.put, List.take, List.length, List.setIfInBounds_toArray, List.set_cons_zero, List.set_cons_succ, e0, e1, e2, e3, e4, e5, e6, e7]
               clear hM hmo e0 e1 e2 e3 e4 e5 e6 e7
               go_wp2_with (go_at_call 48; refine (TB.out _ HDD.out).mono ?_; rintro e wa ⟨al, cl, rfl, Ha, da⟩)
               go_meet
               have hd := HDD.out.trans (da.mono HDD.out.size)
               exact ⟨al, cl, _, rfl, A0 ⟨_, _, ⟨rfl, Ha.out, fun k hk => (Ha.out.lt k hk).2, fun k hk => .inl (by have := (HMB.out k hk); have := HDD.out.size; omega), Nat.le_refl _⟩, hd⟩⟩
             case rest =>
              rename World => wl
              obtain ⟨al, cl, l, rfl, HC25⟩ := hcut
              obtain ⟨lo, hi, dl, db⟩ := HC25.out
              have HL4 : Hid (DG W1 wl W1.heap.size 0 (m : Int) (.slice aS s0 cS) (.slice aF lF cF) (.slice aE lE cE) (.slice (some ⟨g, o, none⟩) lm cm) (Bl s0) Fx (raw.take 131073) ps ∧ GR wl lo hi al l cl L (.slice (some ⟨g, o, none⟩) lm cm)) := A0 ⟨HS3.out.2.1.on db, dl⟩
              have hll : l ≤ 8194 := by have := HBL.out; have := dl.ll; omega
              clear dl db HC25 TB KD HMB
              obtain ⟨am, ham⟩ : ∃ am : Option Addr, some ⟨g, o, none⟩ = am := ⟨_, rfl⟩
              rw [ham] at HL4 HS3 ⊢
              clear ham ii0 ii1
              go_wp2_with fail
              go_loopw [15, 23] (fun mv jv wr => ∃ (j lm' : Nat) (am' : Option Addr) (cm' : Nat), j ≤ l ∧ mv = .slice am' lm' cm' ∧ jv = .int .i64 (j : Int) ∧ Hid (∃ aE lE cE ps' ns, ps'.length = lm' ∧ DG W1 wr W1.heap.size 0 (m : Int) (.slice aS s0 cS) (.slice aF lF cF) (.slice aE lE cE) (.slice am' lm' cm') (Bl s0) Fx ((raw ++ Bp i k ns).take 131073) ps' ∧ ((raw ++ Bp i k ns).take 131073).length = lE ∧ GR wr lo hi al l cl L (.slice am' lm' cm') ∧ Af bud false ps L [] = Af bud false ps' (L.drop j) ns ∧ ps'.length ≤ 4096)) (fun _ jv _ => l - (intOf jv).toNat)
              case atStart => exact ⟨0, lm, am, cm, Nat.zero_le _, rfl, rfl, A0 ⟨aE, lE, cE, ps, [], HS3.out.1, by rw [show Bp i k [] = [] from rfl, List.append_nil]; exact HL4.out.1, by rw [show Bp i k [] = [] from rfl, List.append_nil]; exact HS3.out.2.2.1, HL4.out.2, by rw [List.drop_zero], HS3.out.2.2.2.pl⟩⟩
              case round =>
               rename World => wq
               obtain ⟨j, lm', am', cm', hj, rfl, rfl, HR4⟩ := hrel
               by_cases hjl : j < l
               · have jj1 : (j : Int) < (l : Int) := by omega
                 have jj0 : (0 : Int) ≤ (j : Int) := by omega
                 obtain ⟨aE, lE, cE, ps', ns, H4a⟩ := HR4.out
                 have H4 := A0 H4a
                 clear H4a HR4
                 have hjL : j < L.length := by rw [H4.out.2.2.2.1.ll]; exact hjl
                 obtain ⟨g, o, ea, q0, q1⟩ := Bc H4.out.2.2.2.1.ll H4.out.2.2.2.1.lr j hjL
                 subst ea
                 have HLj := A0 (List.drop_eq_getElem_cons hjL)
                 generalize L[j] = t at q0 q1 HLj
                 obtain ⟨t1, t2⟩ := t
                 simp only at q0 q1
                 have TP := J7 wq am' cm' ps' t1 t2 (A0 (Bc H4.out.1 (by have q := H4.out.2.1.rm; rw [H4.out.1] at q; exact q))) (by have := H4.out.2.2.2.2.2; omega)
                 rw [H4.out.1] at TP
                 obtain ⟨pl, hpl⟩ : ∃ x, Id ps' (t1, t2) = x := ⟨_, rfl⟩
                 rw [hpl] at TP
                 have HPL := A0 hpl
                 clear hpl
                 go_upto_if 134 with (go_at_call 49; refine TP.mono ?_; rintro e wp ⟨rfl, dp⟩; have HDp := A0 dp; clear dp)
                 clear TP q0 q1
                 go_cut [15, 24] from 134 to 151 (fun v15 v24 W => ∃ (am2 : Option Addr) (lm2 cm2 num : Nat), v15 = .slice am2 lm2 cm2 ∧ v24 = .int .i64 (num : Int) ∧ Hid (∃ ps2, ps2.length = lm2 ∧ DG W1 W W1.heap.size 0 (m : Int) (.slice aS s0 cS) (.slice aF lF cF) (.slice aE lE cE) (.slice am2 lm2 cm2) (Bl s0) Fx ((raw ++ Bp i k ns).take 131073) ps2 ∧ GR W lo hi (some ⟨g, o, none⟩) l cl L (.slice am2 lm2 cm2) ∧ Af bud false ps L [] = Af bud false ps2 (L.drop (j + 1)) (ns ++ [(num : Int)]) ∧ ps2.length ≤ 4096))
                 case first =>
                  have hlm : lm' ≤ 4096 := by have := H4.out.1; have := H4.out.2.2.2.2.2; omega
                  by_cases hmem : (t1, t2) ∈ ps'
                  · have hp0 : ¬ pl < 0 := by rw [← HPL.out]; unfold Id; rw [if_pos hmem]; omega
                    have HNum : Hid (pl = ((ps'.idxOf (t1, t2) : Nat) : Int)) := A0 (by rw [← HPL.out]; unfold Id; rw [if_pos hmem])
                    have HM2 : Hid (Af bud false ps L [] = Af bud false ps' (L.drop (j + 1)) (ns ++ [((ps'.idxOf (t1, t2) : Nat) : Int)])) := A0 (by rw [H4.out.2.2.2.2.1, HLj.out, Hc hmem])
                    clear hmem
                    go_wp2_with fail
                    go_meet
                    exact ⟨am', lm', cm', _, rfl, by rw [HNum.out], A0 ⟨ps', H4.out.1, H4.out.2.1.on HDp.out, H4.out.2.2.2.1.on HDp.out, HM2.out, H4.out.2.2.2.2.2⟩⟩
                  · have hp0 : pl < 0 := by rw [← HPL.out]; unfold Id; rw [if_neg hmem]; omega
                    have HMN : Hid (Af bud false ps L [] = if bud ≤ (lm' : Int) then (9, ps', ns) else if 4096 ≤ lm' then (8, ps', ns) else Af bud false (ps' ++ [(t1, t2)]) (L.drop (j + 1)) (ns ++ [(lm' : Int)])) := A0 (by rw [H4.out.2.2.2.2.1, HLj.out, Fu hmem, H4.out.1])
                    clear hmem
                    have TFu := GQ wp (lm' : Int) bud0
                    rw [Ju (by omega), HBU.out] at TFu
                    by_cases hb1 : bud ≤ (lm' : Int)
                    · rw [if_pos hb1] at TFu HMN
                      have HRQ : Hid (Bi (AR lay) (BF bud0) m S1 F1 E1 S2 F2 E2 = B7 9) := A0 (by rw [HBU.out]; exact CB (by decide) HG0.out (HS3.out.2.2.2.err (by have := HS3.out.1; have := HS3.out.2.2.2.pl; omega) hkl (by decide) (by rw [HXY.out, ← HBM.out]; exact HMN.out)))
                      clear hb1
                      go_upto_region 32 with (go_at_call 46; refine TFu.mono ?_; rintro e w8 ⟨rfl, hw8⟩; obtain rfl := hw8.symm; clear hw8)
                      have F4 := A3 HW.out.2.2.1 ((H4.out.2.1.on HDp.out).be)
                      obtain ⟨o0', o1', o2', o3', o4'⟩ := An F4 rfl rfl rfl rfl rfl
                      have fz0' : wp.frozen? ⟨w.heap.size + 1 + 1, 0, none⟩ = false := A4 F4
                      have fz1' : wp.frozen? ⟨w.heap.size + 1 + 1, 1, none⟩ = false := A4 F4
                      have fz2' : wp.frozen? ⟨w.heap.size + 1 + 1, 2, none⟩ = false := A4 F4
                      have fz3' : wp.frozen? ⟨w.heap.size + 1 + 1, 3, none⟩ = false := A4 F4
                      have fz4' : wp.frozen? ⟨w.heap.size + 1 + 1, 4, none⟩ = false := A4 F4
                      have O6 := A0 (And.intro (AT wp (w.heap.size + 1 + 1) _ _ _ _ _ (.int .i64 0) (.int .i64 0) (.slice none 0 0) (.slice none 0 0) (.slice none 0 0) 25 F4) (AF wp (w.heap.size + 1 + 1) (.int .i64 0) (.int .i64 0) (.slice none 0 0) (.slice none 0 0) (.slice none 0 0)))
                      clear F4
                      go_wp2_with fail
                      refine bodyPost_ret (As (p := 8) (q := 9) (r := 10) (ty := 25) rfl _ _ (w.heap.size + 1 + 1) 25 _ (0, 0) _ _ _ rfl rfl rfl O6.out.1 underlying25 rfl (by kernel_rfl)) rfl ?_
                      have s2 := HW.out.2.2.2.1
                      have db := HW.out.2.2.2.2.trans ((((H4.out.2.1.on HDp.out).be)).mono HW.out.2.2.2.2.size)
                      have s3 := db.size
                      exact AX HRQ.out rfl (db.trans (O6.out.2.toBelow (by omega) (fun k hk => by omega)))
                    · rw [if_neg hb1] at TFu HMN
                      by_cases hb2 : 4096 ≤ lm'
                      · rw [if_pos hb2] at TFu HMN
                        have HRQ : Hid (Bi (AR lay) (BF bud0) m S1 F1 E1 S2 F2 E2 = B7 8) := A0 (by rw [HBU.out]; exact CB (by decide) HG0.out (HS3.out.2.2.2.err (by have := HS3.out.1; have := HS3.out.2.2.2.pl; omega) hkl (by decide) (by rw [HXY.out, ← HBM.out]; exact HMN.out)))
                        clear hb1 hb2
                        go_upto_region 32 with (go_at_call 46; refine TFu.mono ?_; rintro e w8 ⟨rfl, hw8⟩; obtain rfl := hw8.symm; clear hw8)
                        have F4 := A3 HW.out.2.2.1 ((H4.out.2.1.on HDp.out).be)
                        obtain ⟨o0', o1', o2', o3', o4'⟩ := An F4 rfl rfl rfl rfl rfl
                        have fz0' : wp.frozen? ⟨w.heap.size + 1 + 1, 0, none⟩ = false := A4 F4
                        have fz1' : wp.frozen? ⟨w.heap.size + 1 + 1, 1, none⟩ = false := A4 F4
                        have fz2' : wp.frozen? ⟨w.heap.size + 1 + 1, 2, none⟩ = false := A4 F4
                        have fz3' : wp.frozen? ⟨w.heap.size + 1 + 1, 3, none⟩ = false := A4 F4
                        have fz4' : wp.frozen? ⟨w.heap.size + 1 + 1, 4, none⟩ = false := A4 F4
                        have O6 := A0 (And.intro (AT wp (w.heap.size + 1 + 1) _ _ _ _ _ (.int .i64 0) (.int .i64 0) (.slice none 0 0) (.slice none 0 0) (.slice none 0 0) 25 F4) (AF wp (w.heap.size + 1 + 1) (.int .i64 0) (.int .i64 0) (.slice none 0 0) (.slice none 0 0) (.slice none 0 0)))
                        clear F4
                        go_wp2_with fail
                        refine bodyPost_ret (As (p := 8) (q := 9) (r := 10) (ty := 25) rfl _ _ (w.heap.size + 1 + 1) 25 _ (0, 0) _ _ _ rfl rfl rfl O6.out.1 underlying25 rfl (by kernel_rfl)) rfl ?_
                        have s2 := HW.out.2.2.2.1
                        have db := HW.out.2.2.2.2.trans ((((H4.out.2.1.on HDp.out).be)).mono HW.out.2.2.2.2.size)
                        have s3 := db.size
                        exact AX HRQ.out rfl (db.trans (O6.out.2.toBelow (by omega) (fun k hk => by omega)))
                      · rw [if_neg hb2] at TFu HMN
                        clear hb1
                        go_upto_region 35 with (go_at_call 46; refine TFu.mono ?_; rintro e w8 ⟨rfl, hw8⟩; obtain rfl := hw8.symm; clear hw8)
                        clear TFu
                        obtain ⟨g', o', ea', q0, q1⟩ := Bc H4.out.2.2.2.1.ll (H4.out.2.2.2.1.on HDp.out).lr j hjL
                        cases ea'
                        have q01 : wp.cell? ⟨g, o + j * 2, none⟩ = some (.int .i64 t1) := by
                         have e := HLj.out
                         rw [List.drop_eq_getElem_cons hjL] at e
                         rw [q0, (List.cons.inj e).1]
                        have q11 : wp.cell? ⟨g, o + j * 2 + 1, none⟩ = some (.int .i64 t2) := by
                         have e := HLj.out
                         rw [List.drop_eq_getElem_cons hjL] at e
                         rw [q1, (List.cons.inj e).1]
                        clear q0 q1
                        go_wp2_with (at_builtin; refine DD rfl _ _ rfl W1.heap.size (.slice am' lm' cm') ps' rfl (by have q := A6 (H4.out.2.1.on HDp.out).rm ((Below.refl _ _).alloc (Nat.le_refl _) (.cells #[.int .i64 t1, .int .i64 t2] 57)); exact q) wp.heap.size (t1, t2) rfl (World.alloc_heap_new _ _) (by have := H4.out.2.2.2.2.2; omega) (by rw [World.size_alloc]; have := (H4.out.2.1.on HDp.out).be.size; omega) ?_; intro v5 w5 HO5 HG5 HV5; obtain ⟨z5, d5, e5⟩ := A8 HO5.out; have E5 : v5 = .slice z5 (lm' + 1) d5 := (by rw [e5, List.length_append, H4.out.1]; rfl); clear e5; subst E5)
                        go_meet
                        have da : Below wp.heap.size wp (wp.alloc (.cells #[.int .i64 t1, .int .i64 t2] 57)) := (Below.refl _ _).alloc (Nat.le_refl _) _
                        exact ⟨z5, lm' + 1, d5, lm', rfl, rfl, A0 ⟨ps' ++ [(t1, t2)], by rw [List.length_append, H4.out.1]; rfl, Q3 (H4.out.2.1.on HDp.out) da HO5.out HG5.out, Q0 (H4.out.2.2.2.1.on HDp.out) da HG5.out HV5.out, HMN.out, by rw [List.length_append, H4.out.1]; simp only [List.length_cons, List.length_nil]; omega⟩⟩
                 case rest =>
                  rename World => wc
                  obtain ⟨am2, lm2, cm2, num, rfl, rfl, HC⟩ := hcut
                  have bxc : wc.heap[W1.heap.size]? = some (.cells #[.int .i64 0, .int .i64 (m : Int), .slice aS s0 cS, .slice aF lF cF, .slice aE lE cE] 25 (0, 0)) := by obtain ⟨_, _, q, _⟩ := HC.out; exact q.bx
                  have ce4 : wc.cell? ⟨W1.heap.size, 4, none⟩ = some (.slice aE lE cE) := A1 bxc rfl
                  clear bxc
                  have HGN : Hid ((raw ++ Bp i k ns).length < 131073 → (raw ++ Bp i k (ns ++ [(num : Int)])).take 131073 = (raw ++ Bp i k ns).take 131073 ++ [((i : Int), (k : Int), (num : Int))]) := A0 (fun hh => by
                   have e : raw ++ Bp i k (ns ++ [(num : Int)]) = (raw ++ Bp i k ns) ++ [((i : Int), (k : Int), (num : Int))] := by unfold Bp; rw [List.map_append, List.append_assoc]; rfl
                   rw [e, List.take_of_length_le (by rw [List.length_append]; simp only [List.length_cons, List.length_nil]; omega), List.take_of_length_le (by omega)])
                  have HGO : Hid (¬ (raw ++ Bp i k ns).length < 131073 → (raw ++ Bp i k (ns ++ [(num : Int)])).take 131073 = (raw ++ Bp i k ns).take 131073) := A0 (fun hh => by
                   have e : raw ++ Bp i k (ns ++ [(num : Int)]) = (raw ++ Bp i k ns) ++ [((i : Int), (k : Int), (num : Int))] := by unfold Bp; rw [List.map_append, List.append_assoc]; rfl
                   rw [e, List.take_append_of_le_length (by omega)])
                  have hLE : lE ≤ 131073 := by have := H4.out.2.2.1; rw [← this, List.length_take]; omega
                  by_cases hle : lE ≤ 131072
                  · have le1 : (lE : Int) ≤ 131072 := by omega
                    have HLT : Hid ((raw ++ Bp i k ns).length < 131073) := A0 (by have := H4.out.2.2.1; rw [List.length_take] at this; omega)
                    have f4 : ∀ V : World, V.heap[W1.heap.size]? = wc.heap[W1.heap.size]? → V.frozen? ⟨W1.heap.size, 4, none⟩ = false := fun V hV => by obtain ⟨_, _, q, _⟩ := HC.out; exact A4 (hV.trans q.bx)
                    have HFV := A0 f4
                    clear f4
                    go_wp2_with (at_builtin; refine F0 rfl _ _ rfl W1.heap.size (.slice aE lE cE) ((raw ++ Bp i k ns).take 131073) rfl (by obtain ⟨_, _, q, _⟩ := HC.out; exact A6 q.re ((Below.refl _ _).alloc (Nat.le_refl _) _)) wc.heap.size ((i : Int), (k : Int), (num : Int)) rfl (World.alloc_heap_new _ _) (by have := H4.out.2.2.1; omega) (by obtain ⟨_, _, q, _⟩ := HC.out; rw [World.size_alloc]; have := q.be.size; omega) ?_; intro v5 w5 HO5 HG5 HV5; obtain ⟨z5, d5, e5⟩ := A8 HO5.out; have E5 : v5 = .slice z5 (lE + 1) d5 := (by rw [e5, List.length_append, H4.out.2.2.1]; rfl); clear e5; subst E5; have cw4 : w5.cell? ⟨W1.heap.size, 4, none⟩ = some (.slice aE lE cE) := (by obtain ⟨_, _, q, _⟩ := HC.out; have da : Below wc.heap.size wc (wc.alloc (.cells #[.int .i64 (i : Int), .int .i64 (k : Int), .int .i64 (num : Int)] 50)) := (Below.refl _ _).alloc (Nat.le_refl _) _; exact A1 (HG5.out.cellK (q.on da).bx (C8 (q.on da).re (q.on da).bx (by decide))) rfl); have fw4 : w5.frozen? ⟨W1.heap.size, 4, none⟩ = false := (by obtain ⟨_, _, q, _⟩ := HC.out; have da : Below wc.heap.size wc (wc.alloc (.cells #[.int .i64 (i : Int), .int .i64 (k : Int), .int .i64 (num : Int)] 50)) := (Below.refl _ _).alloc (Nat.le_refl _) _; exact A4 (HG5.out.cellK (q.on da).bx (C8 (q.on da).re (q.on da).bx (by decide)))))
                    have HNX : Hid (∃ aE' lE' cE' ps' ns', ps'.length = lm2 ∧ DG W1 (w5.setCell ⟨W1.heap.size, 4, none⟩ (.slice z5 (lE + 1) d5)) W1.heap.size 0 (m : Int) (.slice aS s0 cS) (.slice aF lF cF) (.slice aE' lE' cE') (.slice am2 lm2 cm2) (Bl s0) Fx ((raw ++ Bp i k ns').take 131073) ps' ∧ ((raw ++ Bp i k ns').take 131073).length = lE' ∧ GR (w5.setCell ⟨W1.heap.size, 4, none⟩ (.slice z5 (lE + 1) d5)) lo hi (some ⟨g, o, none⟩) l cl L (.slice am2 lm2 cm2) ∧ Af bud false ps L [] = Af bud false ps' (L.drop (j + 1)) ns' ∧ ps'.length ≤ 4096) := A0 (by
                     obtain ⟨ps2, u1, u2, u3, u4, u5⟩ := HC.out
                     have da : Below wc.heap.size wc (wc.alloc (.cells #[.int .i64 (i : Int), .int .i64 (k : Int), .int .i64 (num : Int)] 50)) := (Below.refl _ _).alloc (Nat.le_refl _) _
                     refine ⟨z5, lE + 1, d5, ps2, ns ++ [(num : Int)], u1, ?_, ?_, PT u3 u2 da u2.re (by decide) HG5.out, u4, u5⟩
                     · rw [HGN.out HLT.out]; exact Qa u2 da HO5.out HG5.out
                     · rw [HGN.out HLT.out, List.length_append, H4.out.2.2.1]; rfl)
                    clear HO5 HG5 HV5 HFV cw4 fw4
                    go_roundw
                    case rel => exact ⟨j + 1, lm2, am2, cm2, by omega, rfl, by go_num, HNX⟩
                    case measure => simp [intOf]; omega
                  · have le1 : ¬ (lE : Int) ≤ 131072 := by omega
                    have HLT : Hid (¬ (raw ++ Bp i k ns).length < 131073) := A0 (by have := H4.out.2.2.1; rw [List.length_take] at this; omega)
                    have HNX : Hid (∃ aE' lE' cE' ps' ns', ps'.length = lm2 ∧ DG W1 wc W1.heap.size 0 (m : Int) (.slice aS s0 cS) (.slice aF lF cF) (.slice aE' lE' cE') (.slice am2 lm2 cm2) (Bl s0) Fx ((raw ++ Bp i k ns').take 131073) ps' ∧ ((raw ++ Bp i k ns').take 131073).length = lE' ∧ GR wc lo hi (some ⟨g, o, none⟩) l cl L (.slice am2 lm2 cm2) ∧ Af bud false ps L [] = Af bud false ps' (L.drop (j + 1)) ns' ∧ ps'.length ≤ 4096) := A0 (by
                     obtain ⟨ps2, u1, u2, u3, u4, u5⟩ := HC.out
                     refine ⟨aE, lE, cE, ps2, ns ++ [(num : Int)], u1, ?_, ?_, u3, u4, u5⟩
                     · rw [HGO.out HLT.out]; exact u2
                     · rw [HGO.out HLT.out]; exact H4.out.2.2.1)
                    go_wp2_with fail
                    go_roundw
                    case rel => exact ⟨j + 1, lm2, am2, cm2, by omega, rfl, by go_num, HNX⟩
                    case measure => simp [intOf]; omega
               · have jj1 : ¬ (j : Int) < (l : Int) := by omega
                 have HNX : Hid (∃ aE lE cE ps2 raw2, ps2.length = lm' ∧ DG W1 wq W1.heap.size 0 (m : Int) (.slice aS s0 cS) (.slice aF lF cF) (.slice aE lE cE) (.slice am' lm' cm') (Bl s0) Fx (raw2.take 131073) ps2 ∧ (raw2.take 131073).length = lE ∧ DJ bud (AR lay E1 E2) m N M T0 ps2 raw2 i (k + 1) ∧ (∃ x, ps2 = psi ++ x) ∧ i < lm') := A0 (by
                  obtain ⟨aE, lE, cE, ps', ns, u1, u2, u3, u4, u5, u6⟩ := HR4.out
                  have e : Af bud false ps L [] = (0, ps', ns) := by
                   rw [u5, List.drop_of_length_le (by rw [u4.ll]; omega)]
                   rfl
                  rw [HBM.out, ← HXY.out] at e
                  have hil : i < ps.length := by have := HS3.out.1; have := HI3.out.1; omega
                  have dj := HS3.out.2.2.2.sym hil hkl (by rw [HXY.out]; exact HLB.out) (fun t => KJ HQ.out.1.ss HQ.out.2.ss _ _ t) e
                  obtain ⟨⟨y, hy⟩, _⟩ := AQ _ _ _ _ _ _ _ _ e HS3.out.2.2.2.nd
                  obtain ⟨x, hx⟩ := HI3.out.2
                  exact ⟨aE, lE, cE, ps', raw ++ Bp i k ns, u1, u2, u3, dj, ⟨x ++ y, by rw [hy, hx, List.append_assoc]⟩, by rw [← u1, hy, List.length_append]; omega⟩)
                 go_wp2_with fail
                 exact ⟨⟨k + 1, lm', am', cm', hkl, rfl, by go_num, HNX⟩, by simp [intOf]; omega⟩
           · have kk1 : ¬ (k : Int) < (m : Int) := by omega
             have HNX : Hid (∃ aF lF cF aE lE cE ps raw, ps.length = lm ∧ DG W1 wk W1.heap.size 0 (m : Int) (.slice aS s0 cS) (.slice aF lF cF) (.slice aE lE cE) (.slice am lm cm) (Bl s0) (Cj (Ay F1) (Ay F2) ps (i + 1)) (raw.take 131073) ps ∧ (Cj (Ay F1) (Ay F2) ps (i + 1)).length = lF ∧ (raw.take 131073).length = lE ∧ DJ bud (AR lay E1 E2) m N M T0 ps raw (i + 1) 0 ∧ i + 1 ≤ lm) := A0 (by
              obtain ⟨aE, lE, cE, ps, raw, v1, v2, v3, v4, ⟨x, hx⟩, v6⟩ := HR3.out
              obtain rfl : k = m := by omega
              have e : Cj (Ay F1) (Ay F2) ps (i + 1) = Fx := by rw [hx, MG HPI.out.1, HFX.out.1]
              refine ⟨aF, lF, cF, aE, lE, cE, ps, raw, v1, by rw [e]; exact v2, by rw [e]; exact HFX.out.2, v3, v4.next (by omega), v6⟩)
             have hi4 : i + 1 ≤ 4096 := by obtain ⟨_, _, _, _, _, _, ps, _, u1, _, _, _, u5, u6⟩ := HNX.out; have := u5.pl; omega
             go_wp2_with fail
             exact ⟨⟨i + 1, lm, am, cm, by obtain ⟨_, _, _, _, _, _, _, _, _, _, _, _, _, u⟩ := HNX.out; exact u, rfl, by go_num, A0 (by obtain ⟨aF, lF, cF, aE, lE, cE, ps, raw, u1, u2, u3, u4, u5, _⟩ := HNX.out; exact ⟨aF, lF, cF, aE, lE, cE, ps, raw, u1, u2, u3, u4, u5⟩)⟩, by simp [intOf]; omega⟩
     · have ii1 : ¬ (i : Int) < (lm : Int) := by omega
       obtain rfl : i = lm := by omega
       obtain ⟨aF, lF, cF, aE, lE, cE, ps, raw, v1, v2, v3, v4, v5⟩ := HR2.out
       have HS2 : Hid (ps.length = i ∧ DG W1 wn W1.heap.size 0 (m : Int) (.slice aS s0 cS) (.slice aF lF cF) (.slice aE lE cE) (.slice am i cm) (Bl s0) (Cj (Ay F1) (Ay F2) ps i) (raw.take 131073) ps ∧ (Cj (Ay F1) (Ay F2) ps i).length = lF ∧ (raw.take 131073).length = lE ∧ DJ bud (AR lay E1 E2) m N M T0 ps raw i 0) := A0 ⟨v1, v2, v3, v4, v5⟩
       clear v1 v2 v3 v4 v5 HR2
       have hi4 : i ≤ 4096 := by have := HS2.out.1; have := HS2.out.2.2.2.2.pl; omega
       have HC := A0 (Qc (n' := (i : Int)) HS2.out.2.1)
       have cc0 : wn.cell? ⟨W1.heap.size, 0, none⟩ = some (.int .i64 0) := A1 HS2.out.2.1.bx rfl
       have fc0 : wn.frozen? ⟨W1.heap.size, 0, none⟩ = false := A4 HS2.out.2.1.bx
       go_upto_region 39 with fail
       clear cc0 fc0
       obtain ⟨Wd, hWd⟩ : ∃ V, wn.setCell ⟨W1.heap.size, 0, none⟩ (.int .i64 (i : Int)) = V := ⟨_, rfl⟩
       rw [hWd] at HC ⊢
       clear hWd
       have lFE : lF ≤ 4096 ∧ lE ≤ 131073 := by
        have q1 := HS2.out.2.2.1
        have q2 := HS2.out.2.2.2.1
        have q3 := Fg (Ay F1) (Ay F2) ps i
        rw [List.length_take] at q2
        omega
       have TD := Ka Wd (i : Int) (m : Int) s0 lF lE aS aF aE cS cF cE (Bl s0) (Cj (Ay F1) (Ay F2) ps i) (raw.take 131073) (A0 ⟨CY s0, HS2.out.2.2.1, HS2.out.2.2.2.1⟩) (A0 ⟨AM (by have q := HC.out.rs; rw [CY] at q ⊢; exact q), AM (by have q := HC.out.rf; rw [HS2.out.2.2.1] at q ⊢; exact q), BT (by have q := HC.out.re; rw [HS2.out.2.2.2.1] at q ⊢; exact q)⟩) (by omega) (by omega) (by omega) (by
        have q := HC.out.re
        rw [HS2.out.2.2.2.1] at q
        rcases q.2 with ⟨hv, h0⟩ | ⟨gg, cap', cur, hv, _, _, hn, _⟩
        · omega
        · cases hv; exact hn)
       have HDN : Hid (MD (i : Int) (m : Int) (Bl s0) (Cj (Ay F1) (Ay F2) ps i) (raw.take 131073) = if 65536 < (A7 (raw.take 131073)).length then I4 8 else ⟨(i : Int), (m : Int), Bl s0, Cj (Ay F1) (Ay F2) ps i, A7 (raw.take 131073), 0⟩) := A0 (by unfold MD; rw [if_neg (by omega), Hu (Ox s0), Hu (NV _ _ _ _)])
       rw [HDN.out] at TD
       have HFI := A0 (DJ.fin (by have q := HS2.out.2.2.2.2; rw [← HS2.out.1] at q; exact q))
       obtain ⟨cd0, cd1, cd2, cd3, cd4⟩ := An HC.out.bx rfl rfl rfl rfl rfl
       by_cases hbig : 65536 < (A7 (raw.take 131073)).length
       · rw [if_pos hbig] at TD HFI
         have HRQ : Hid (Bi (AR lay) (BF bud0) m S1 F1 E1 S2 F2 E2 = B7 8) := A0 (by rw [HBU.out]; exact CB (by decide) HG0.out HFI.out)
         clear hbig
         go_upto_region 41 with (go_at_call 50; refine TD.mono ?_; rintro e w9 ⟨b1, f1, b2, f2, b3, f3, rfl, HO9, D9⟩; have HD9 := A0 D9; clear D9)
         clear TD cd0 cd1 cd2 cd3 cd4
         obtain ⟨W9, hW9⟩ : ∃ V, w9.alloc (.cells #[.int .i64 0, .int .i64 0, .slice b1 0 f1, .slice b2 0 f2, .slice b3 0 f3] 25) = V := ⟨_, rfl⟩
         have HB9 : Hid (Below W1.heap.size W1 W9) := A0 (by
          have k : Below w9.heap.size w9 W9 := by rw [← hW9]; exact (Below.refl _ _).alloc (Nat.le_refl _) _
          have d := HD9.out.trans (k.mono HD9.out.size)
          exact HC.out.be.trans (d.mono HC.out.be.size))
         have HW9E := A0 hW9
         simp only [I4, List.length_nil] at *
         rw [HW9E.out]
         have F4 := A3 HW.out.2.2.1 HB9.out
         obtain ⟨o0', o1', o2', o3', o4'⟩ := An F4 rfl rfl rfl rfl rfl
         have fz0' : W9.frozen? ⟨w.heap.size + 1 + 1, 0, none⟩ = false := A4 F4
         have fz1' : W9.frozen? ⟨w.heap.size + 1 + 1, 1, none⟩ = false := A4 F4
         have fz2' : W9.frozen? ⟨w.heap.size + 1 + 1, 2, none⟩ = false := A4 F4
         have fz3' : W9.frozen? ⟨w.heap.size + 1 + 1, 3, none⟩ = false := A4 F4
         have fz4' : W9.frozen? ⟨w.heap.size + 1 + 1, 4, none⟩ = false := A4 F4
         have O6 := A0 (And.intro (AT W9 (w.heap.size + 1 + 1) _ _ _ _ _ (.int .i64 0) (.int .i64 0) (.slice none 0 0) (.slice none 0 0) (.slice none 0 0) 25 F4) (AF W9 (w.heap.size + 1 + 1) (.int .i64 0) (.int .i64 0) (.slice none 0 0) (.slice none 0 0) (.slice none 0 0)))
         clear F4
         go_wp2_with fail
         refine bodyPost_ret (As (p := 8) (q := 9) (r := 10) (ty := 25) rfl _ _ (w.heap.size + 1 + 1) 25 _ (0, 0) _ _ _ rfl rfl rfl O6.out.1 underlying25 rfl (by kernel_rfl)) rfl ?_
         have s2 := HW.out.2.2.2.1
         have db := HW.out.2.2.2.2.trans ((HB9.out).mono HW.out.2.2.2.2.size)
         have s3 := db.size
         exact AX HRQ.out rfl (db.trans (O6.out.2.toBelow (by omega) (fun k hk => by omega)))
       · rw [if_neg hbig] at TD HFI
         have HRQ : Hid (Bi (AR lay) (BF bud0) m S1 F1 E1 S2 F2 E2 = ⟨(i : Int), (m : Int), 0, ps, Bl s0, Cj (Ay F1) (Ay F2) ps i, A7 (raw.take 131073)⟩) := A0 (by
          rw [HBU.out, Hg HG0.out HFI.out, HS2.out.1])
         clear hbig
         have HCE : Hid ((Cj (Ay F1) (Ay F2) ps i).length = lF ∧ (Bl s0).length = s0) := A0 ⟨HS2.out.2.2.1, CY s0⟩
         obtain ⟨EE, hEE⟩ : ∃ E, A7 (raw.take 131073) = E := ⟨_, rfl⟩
         rw [hEE] at TD HRQ
         clear hEE HFI HDN
         obtain ⟨FF, hFF⟩ : ∃ E, Cj (Ay F1) (Ay F2) ps i = E := ⟨_, rfl⟩
         rw [hFF] at TD HRQ
         obtain ⟨SS0, hSS0⟩ : ∃ E, Bl s0 = E := ⟨_, rfl⟩
         rw [hSS0] at TD HRQ
         clear hFF hSS0
         go_upto_region 42 with (go_at_call 50; refine TD.mono ?_; rintro e w9 ⟨b1, f1, b2, f2, b3, f3, rfl, HO9, D9⟩; have HD9 := A0 D9; clear D9)
         clear TD cd0 cd1 cd2 cd3 cd4
         obtain ⟨W9, hW9⟩ : ∃ V, w9.alloc (.cells #[.int .i64 (i : Int), .int .i64 (m : Int), .slice b1 SS0.length f1, .slice b2 FF.length f2, .slice b3 EE.length f3] 25) = V := ⟨_, rfl⟩
         have HB9 : Hid (Below W1.heap.size W1 W9 ∧ W9.heap[w9.heap.size]? = some (.cells #[.int .i64 (i : Int), .int .i64 (m : Int), .slice b1 SS0.length f1, .slice b2 FF.length f2, .slice b3 EE.length f3] 25 (0, 0)) ∧ AE Wd.heap.size W9 (.slice b1 SS0.length f1) (.slice b2 FF.length f2) (.slice b3 EE.length f3) SS0 FF EE ∧ W9.ownsRow W1.heap.size 57 2 (.slice am i cm) i (ps.flatMap Bn)) := A0 (by
          have k : Below w9.heap.size w9 W9 := by rw [← hW9]; exact (Below.refl _ _).alloc (Nat.le_refl _) _
          have d := HD9.out.trans (k.mono HD9.out.size)
          have z := World.alloc_heap_new w9 (.cells #[.int .i64 (i : Int), .int .i64 (m : Int), .slice b1 SS0.length f1, .slice b2 FF.length f2, .slice b3 EE.length f3] 25)
          rw [hW9] at z
          have q := A6 HC.out.rm d
          rw [HS2.out.1] at q
          exact ⟨HC.out.be.trans (d.mono HC.out.be.size), z, HO9.out.on k, q⟩)
         rw [hW9]
         clear hW9
         have F4 := A3 HW.out.2.2.1 HB9.out.1
         obtain ⟨o0', o1', o2', o3', o4'⟩ := An F4 rfl rfl rfl rfl rfl
         have fz0' : W9.frozen? ⟨w.heap.size + 1 + 1, 0, none⟩ = false := A4 F4
         have fz1' : W9.frozen? ⟨w.heap.size + 1 + 1, 1, none⟩ = false := A4 F4
         have fz2' : W9.frozen? ⟨w.heap.size + 1 + 1, 2, none⟩ = false := A4 F4
         have fz3' : W9.frozen? ⟨w.heap.size + 1 + 1, 3, none⟩ = false := A4 F4
         have fz4' : W9.frozen? ⟨w.heap.size + 1 + 1, 4, none⟩ = false := A4 F4
         obtain ⟨u0', u1', u2', u3', u4'⟩ := An HB9.out.2.1 rfl rfl rfl rfl rfl
         have O6 := A0 (And.intro (AT W9 (w.heap.size + 1 + 1) _ _ _ _ _ (.int .i64 (i : Int)) (.int .i64 (m : Int)) (.slice b1 SS0.length f1) (.slice b2 FF.length f2) (.slice b3 EE.length f3) 25 F4) (AF W9 (w.heap.size + 1 + 1) (.int .i64 (i : Int)) (.int .i64 (m : Int)) (.slice b1 SS0.length f1) (.slice b2 FF.length f2) (.slice b3 EE.length f3)))
         have HF4 := A0 F4
         clear F4
         have hne : w9.heap.size ≠ w.heap.size + 1 + 1 := by have := HW.out.2.2.2.1; have := HD9.out.size; have := HC.out.be.size; omega
         go_wp2_with fail
         refine bodyPost_ret (As (p := 8) (q := 9) (r := 10) (ty := 25) rfl _ _ (w.heap.size + 1 + 1) 25 _ (0, 0) _ _ _ rfl rfl rfl O6.out.1 underlying25 rfl (by kernel_rfl)) rfl ?_
         have s2 := HW.out.2.2.2.1
         have db := HW.out.2.2.2.2.trans (HB9.out.1.mono HW.out.2.2.2.2.size)
         have s3 := db.size
         have s4 := HC.out.be.size
         have HR57 : Hid (∀ V, Ab W9 V (fun k => k = w.heap.size + 1 + 1) → V.ownsRow w.heap.size 57 2 (.slice am ps.length cm) ps.length (ps.flatMap Bn)) := A0 (fun V o => by
          have q1 : V.ownsRow W1.heap.size 57 2 (.slice am i cm) i (ps.flatMap Bn) := Ap HB9.out.2.2.2 HF4.out (by decide) o
          rw [HS2.out.1]
          exact Ac q1 (by have := HW.out.2.2.2.2.size; omega))
         have HOO : Hid (∀ V, Ab W9 V (fun k => k = w.heap.size + 1 + 1) → AE w.heap.size V (.slice b1 SS0.length f1) (.slice b2 FF.length f2) (.slice b3 EE.length f3) SS0 FF EE) := A0 (fun V o => (HB9.out.2.2.1.keep HF4.out o).down (by have := HW.out.2.2.2.2.size; omega))
         exact J3 HRQ.out (by rw [HS2.out.1]; rfl) ⟨HOO.out _ O6.out.2, HR57.out _ O6.out.2⟩ (db.trans (O6.out.2.toBelow (by omega) (fun k hk => by omega)))
theorem Ia (w : World) (N M m : Nat) (bud0 : Int) (a1 a2 a3 o1 o2 o3 : Option Addr) (c1 c2 c3 d1 d2 d3 : Nat) (Sa Fa Sb Fb : List Int) (Ea Eb : List Aa) (hA : Hid (AP w a1 a2 a3 Sa Fa Ea)) (hB : Hid (AP w o1 o2 o3 Sb Fb Eb)) (h1 : Sa.length ≤ 2000000) (h2 : Fa.length ≤ 2000000) (h3 : Ea.length ≤ 2000000) (h4 : Sb.length ≤ 2000000) (h5 : Fb.length ≤ 2000000) (h6 : Eb.length ≤ 2000000) (em : AC (N : Int) (m : Int) Sa Fa Ea = true) (em' : AC (M : Int) (m : Int) Sb Fb Eb = true) :
 Calls prog 21 #[.agg #[.int .i64 (N : Int), .int .i64 (m : Int), .slice a1 Sa.length c1, .slice a2 Fa.length c2, .slice a3 Ea.length c3], .agg #[.int .i64 (M : Int), .int .i64 (m : Int), .slice o1 Sb.length d1, .slice o2 Fb.length d2, .slice o3 Eb.length d3], .int .i64 bud0, .func (.func 22) #[] #[]] w (DR w (Bi Cr (BF bud0) m (A5 Sa) (A5 Fa) (A7 Ea) (A5 Sb) (A5 Fb) (A7 Eb))) := by
 obtain ⟨W0, hW0⟩ : ∃ W0, ((w.alloc (.cells #[.int .i64 (N : Int), .int .i64 (m : Int), .slice a1 Sa.length c1, .slice a2 Fa.length c2, .slice a3 Ea.length c3] 25)).alloc (.cells #[.int .i64 (M : Int), .int .i64 (m : Int), .slice o1 Sb.length d1, .slice o2 Fb.length d2, .slice o3 Eb.length d3] 25)).alloc (.cells #[.int .i64 0, .int .i64 0, .slice none 0 0, .slice none 0 0, .slice none 0 0] 25) = W0 := ⟨_, rfl⟩
 have HD := A0 (BH w #[.int .i64 (N : Int), .int .i64 (m : Int), .slice a1 Sa.length c1, .slice a2 Fa.length c2, .slice a3 Ea.length c3] #[.int .i64 (M : Int), .int .i64 (m : Int), .slice o1 Sb.length d1, .slice o2 Fb.length d2, .slice o3 Eb.length d3] #[.int .i64 0, .int .i64 0, .slice none 0 0, .slice none 0 0, .slice none 0 0] 25)
 rw [hW0] at HD
 have TB := Hp W0 (N : Int) (m : Int) (M : Int) a1 a2 a3 o1 o2 o3 c1 c2 c3 d1 d2 d3 Sa Fa Sb Fb Ea Eb (A0 (hA.out.on HD.out.1)) (A0 (hB.out.on HD.out.1)) (by omega) (by omega) (by omega) (by omega) (by omega) (by omega) em em'
 have hm : m ≤ 128 := by have := (Ag em).2.1; omega
 have hNM : N ≤ 4096 ∧ M ≤ 4096 := by have := (Ag em).1; have := (Ag em').1; omega
 have Hin : Hid ((∀ x ∈ A5 Sa, ∃ q : Nat, q < N ∧ x = (q : Int)) ∧ (∀ x ∈ A5 Fa, ∃ q : Nat, q < N ∧ x = (q : Int)) ∧ (∀ x ∈ A5 Sb, ∃ q : Nat, q < M ∧ x = (q : Int)) ∧ (∀ x ∈ A5 Fb, ∃ q : Nat, q < M ∧ x = (q : Int))) := A0 ⟨C5 (Bf (AD em)).1, C5 (Bf (AD em)).2, C5 (Bf (AD em')).1, C5 (Bf (AD em')).2⟩
 have hl : Hid ((A5 Sa).length ≤ 4096 ∧ (A5 Fa).length ≤ 2000000 ∧ (A7 Ea).length ≤ 2000000 ∧ (A5 Sb).length ≤ 4096 ∧ (A5 Fb).length ≤ 2000000 ∧ (A7 Eb).length ≤ 2000000) := A0 ⟨Nat.le_trans (CH (Bf em).1).len hNM.1, Nat.le_trans (B9 Fa) h2, Nat.le_trans (By Ea) h3, Nat.le_trans (CH (Bf em').1).len hNM.2, Nat.le_trans (B9 Fb) h5, Nat.le_trans (By Eb) h6⟩
 have HND : Hid ((Az (A5 Sa) (A5 Sb)).Nodup) := A0 (Fq (ET (Ba Sa)) (ET (Ba Sb)))
 have HQ : Hid (EY N m (A7 Ea) ∧ EY M m (A7 Eb)) := A0 ⟨⟨AZ Ea, fun e he => ((Ag (AD em)).2.2.2.2.2 e he).2.1, fun e he => ((Ag (AD em)).2.2.2.2.2 e he).2.2, hNM.1, hm, by have := hl.out; omega⟩, ⟨AZ Eb, fun e he => ((Ag (AD em')).2.2.2.2.2 e he).2.1, fun e he => ((Ag (AD em')).2.2.2.2.2 e he).2.2, hNM.2, hm, by have := hl.out; omega⟩⟩
 have HFr : Hid ((∀ e ∈ A7 Ea, (0 ≤ e.1 ∧ e.1 < (N : Int)) ∧ 0 ≤ e.2.1 ∧ e.2.1 < (m : Int)) ∧ (∀ e ∈ A7 Eb, (0 ≤ e.1 ∧ e.1 < (M : Int)) ∧ 0 ≤ e.2.1 ∧ e.2.1 < (m : Int))) := A0 ⟨fun e he => by have q := (Ag (AD em)).2.2.2.2.2 e he; exact ⟨q.1, q.2.1⟩, fun e he => by have q := (Ag (AD em')).2.2.2.2.2 e he; exact ⟨q.1, q.2.1⟩⟩
 clear em em'
 generalize A5 Sa = S1 at *
 generalize A5 Fa = F1 at *
 generalize A7 Ea = E1 at *
 generalize A5 Sb = S2 at *
 generalize A5 Fb = F2 at *
 generalize A7 Eb = E2 at *
 obtain ⟨cy0, cy1, cy2, cy3, cy4⟩ := An HD.out.2.1 rfl rfl rfl rfl rfl
 obtain ⟨cx0, cx1, cx2, cx3, cx4⟩ := An HD.out.2.2.1 rfl rfl rfl rfl rfl
 go_enter func21, ntmps21
 go_upto_if 28 with (go_at_call 31; refine TB.mono ?_; rintro e w1 ⟨g1, k1, g2, k2, g3, k3, r1, q1, r2, q2, r3, q3, rfl, H1⟩)
 clear TB cy0 cx0 cy1 cx1 cy2 cx2 cy3 cx3 cy4 cx4
 obtain ⟨W1, hW1⟩ : ∃ W1, (w1.alloc (.cells #[.int .i64 (N : Int), .int .i64 (m : Int), .slice (some ⟨g1, 0, none⟩) S1.length k1, .slice (some ⟨g2, 0, none⟩) F1.length k2, .slice (some ⟨g3, 0, none⟩) E1.length k3] 25)).alloc (.cells #[.int .i64 (M : Int), .int .i64 (m : Int), .slice (some ⟨r1, 0, none⟩) S2.length q1, .slice (some ⟨r2, 0, none⟩) F2.length q2, .slice (some ⟨r3, 0, none⟩) E2.length q3] 25) = W1 := ⟨_, rfl⟩
 have HW : Hid (W1.heap[w1.heap.size]? = some (.cells #[.int .i64 (N : Int), .int .i64 (m : Int), .slice (some ⟨g1, 0, none⟩) S1.length k1, .slice (some ⟨g2, 0, none⟩) F1.length k2, .slice (some ⟨g3, 0, none⟩) E1.length k3] 25 (0, 0)) ∧ W1.heap[w1.heap.size + 1]? = some (.cells #[.int .i64 (M : Int), .int .i64 (m : Int), .slice (some ⟨r1, 0, none⟩) S2.length q1, .slice (some ⟨r2, 0, none⟩) F2.length q2, .slice (some ⟨r3, 0, none⟩) E2.length q3] 25 (0, 0)) ∧ W1.heap[w.heap.size + 1 + 1]? = some (.cells #[.int .i64 0, .int .i64 0, .slice none 0 0, .slice none 0 0, .slice none 0 0] 25 (0, 0)) ∧ w.heap.size + 3 ≤ W1.heap.size ∧ Below w.heap.size w W1) := A0 (by
  have q := Br w1 #[.int .i64 (N : Int), .int .i64 (m : Int), .slice (some ⟨g1, 0, none⟩) S1.length k1, .slice (some ⟨g2, 0, none⟩) F1.length k2, .slice (some ⟨g3, 0, none⟩) E1.length k3] #[.int .i64 (M : Int), .int .i64 (m : Int), .slice (some ⟨r1, 0, none⟩) S2.length q1, .slice (some ⟨r2, 0, none⟩) F2.length q2, .slice (some ⟨r3, 0, none⟩) E2.length q3] 25
  rw [hW1] at q
  have s := HD.out.2.2.2.2
  have d2 := H1.out.2.2.trans (q.1.mono H1.out.2.2.size)
  exact ⟨q.2.1, q.2.2.1, A3 HD.out.2.2.2.1 d2, by have := d2.size; omega, HD.out.1.trans (d2.mono HD.out.1.size)⟩)
 have HX : Hid (AE w.heap.size W1 (.slice (some ⟨g1, 0, none⟩) S1.length k1) (.slice (some ⟨g2, 0, none⟩) F1.length k2) (.slice (some ⟨g3, 0, none⟩) E1.length k3) S1 F1 E1) := A0 (by
  have q := Br w1 #[.int .i64 (N : Int), .int .i64 (m : Int), .slice (some ⟨g1, 0, none⟩) S1.length k1, .slice (some ⟨g2, 0, none⟩) F1.length k2, .slice (some ⟨g3, 0, none⟩) E1.length k3] #[.int .i64 (M : Int), .int .i64 (m : Int), .slice (some ⟨r1, 0, none⟩) S2.length q1, .slice (some ⟨r2, 0, none⟩) F2.length q2, .slice (some ⟨r3, 0, none⟩) E2.length q3] 25
  rw [hW1] at q
  exact (H1.out.1.on q.1).down HD.out.1.size)
 have HY : Hid (AE w.heap.size W1 (.slice (some ⟨r1, 0, none⟩) S2.length q1) (.slice (some ⟨r2, 0, none⟩) F2.length q2) (.slice (some ⟨r3, 0, none⟩) E2.length q3) S2 F2 E2) := A0 (by
  have q := Br w1 #[.int .i64 (N : Int), .int .i64 (m : Int), .slice (some ⟨g1, 0, none⟩) S1.length k1, .slice (some ⟨g2, 0, none⟩) F1.length k2, .slice (some ⟨g3, 0, none⟩) E1.length k3] #[.int .i64 (M : Int), .int .i64 (m : Int), .slice (some ⟨r1, 0, none⟩) S2.length q1, .slice (some ⟨r2, 0, none⟩) F2.length q2, .slice (some ⟨r3, 0, none⟩) E2.length q3] 25
  rw [hW1] at q
  exact (H1.out.2.1.on q.1).down HD.out.1.size)
 rw [hW1]
 clear hW1 H1 HD hW0
 go_cut [2] (fun v2 W => ∃ bud : Int, v2 = .int .i64 bud ∧ W = W1 ∧ Hid (BF bud0 = bud))
 case first =>
  by_cases hb : bud0 ≤ 0
  · have HBu : Hid (BF bud0 = 9223372036854775807) := A0 (if_pos hb)
    go_wp2_with fail
    go_meet
    exact ⟨_, rfl, rfl, HBu⟩
  · have HBu : Hid (BF bud0 = bud0) := A0 (if_neg hb)
    go_wp2_with fail
    go_meet
    exact ⟨_, rfl, rfl, HBu⟩
 case rest =>
  rename World => wc
  obtain ⟨bud, rfl, hw, HBU⟩ := hcut
  obtain rfl := hw.symm
  clear hw
  have T1 := A0 (fun (W : World) (d : Below W1.heap.size W1 W) => BW W N m (some ⟨g1, 0, none⟩) (some ⟨g2, 0, none⟩) (some ⟨g3, 0, none⟩) S1.length F1.length k1 k2 k3 E1 hNM.1 hm (A0 (BT (HX.out.on d).e)) (by have := hl.out; omega) (A0 HFr.out.1))
  have T2 := A0 (fun (W : World) (d : Below W1.heap.size W1 W) => BW W M m (some ⟨r1, 0, none⟩) (some ⟨r2, 0, none⟩) (some ⟨r3, 0, none⟩) S2.length F2.length q1 q2 q3 E2 hNM.2 hm (A0 (BT (HY.out.on d).e)) (by have := hl.out; omega) (A0 HFr.out.2))
  go_upto_region 6 with fail
  go_cut [14] (fun v14 W => ∃ b bm b1 b2 aX cX gX aY cY gY, v14 = .pointer (some ⟨b, 0, none⟩) ∧ Hid (Pz W1 m (N * m) (M * m) E1 E2 bud b bm b1 b2 aX cX gX aY cY gY W))
  case first =>
   have hmo : AJ 0 [vI 0 (.func (.func 22) #[] #[]), vI 1 (.agg #[.int .i64 (N : Int), .int .i64 (m : Int), .slice (some ⟨g1, 0, none⟩) S1.length k1, .slice (some ⟨g2, 0, none⟩) F1.length k2, .slice (some ⟨g3, 0, none⟩) E1.length k3]), pI 2 (Pd W1.heap.size m (N * m) E1), vI 3 (.agg #[.int .i64 (M : Int), .int .i64 (m : Int), .slice (some ⟨r1, 0, none⟩) S2.length q1, .slice (some ⟨r2, 0, none⟩) F2.length q2, .slice (some ⟨r3, 0, none⟩) E2.length q3]), pI 4 (Pd W1.heap.size m (M * m) E2), pI 5 (PV W1.heap.size m (N * m) (M * m) E1 E2), vI 6 (.int .i64 bud), pI 7 (PN W1.heap.size), pI 8 (PY W1.heap.size m (N * m) (M * m) E1 E2 bud), pI 9 (PQ W1.heap.size)] := ⟨A2 _ _, A2 _ _, Am Ej, A2 _ _, Am Ej, Am M9, A2 _ _, Am IS, Am Mv, Am I7, trivial⟩
   refine Aj _ (by kernel_rfl) (by kernel_rfl) (by kernel_rfl) (by kernel_rfl) hmo ⟨?o0, ?o1, ?o2, ?o3, ?o4, ?o5, ?o6, ?o7, ?o8, ?o9, trivial⟩ ?fin
   case o0 =>
    intro At yy W hy hb d hd K hK
    obtain ⟨s3, s3'⟩ := AG (hb 3 rfl : _ = .func (.func 22) #[] #[])
    clear hd hy hb
    go_simp
    exact Ak hK hmo d (if_pos rfl)
   case o1 =>
    intro At yy W hy hb d hd K hK
    obtain ⟨s11, s11'⟩ := AG (hb 11 rfl : _ = .pointer (some ⟨w1.heap.size, 0, none⟩))
    clear hd hy hb
    have bxX := A3 HW.out.1 d
    have bxY := A3 HW.out.2.1 d
    obtain ⟨cx0, cx1, cx2, cx3, cx4⟩ := An bxX rfl rfl rfl rfl rfl
    obtain ⟨cy0, cy1, cy2, cy3, cy4⟩ := An bxY rfl rfl rfl rfl rfl
    clear bxX bxY
    go_simp
    exact Ak hK hmo d (if_pos rfl)
   case o2 =>
    intro At yy W hy hb d hd K hK
    obtain ⟨s30, s30'⟩ := Ao 1 30 .data hy hd rfl
    clear hd hy hb
    go_simp
    go_wp2_with (go_at_call 34; refine (T1.out _ d).mono ?_; rintro e wa ⟨aX, cX, gX, rfl, hR, dR⟩)
    exact hK.out _ wa (Av hmo d dR) ⟨aX, cX, gX, if_pos rfl, Fk hR.out d.size⟩
   case o3 =>
    intro At yy W hy hb d hd K hK
    obtain ⟨s12, s12'⟩ := AG (hb 12 rfl : _ = .pointer (some ⟨w1.heap.size + 1, 0, none⟩))
    clear hd hy hb
    have bxX := A3 HW.out.1 d
    have bxY := A3 HW.out.2.1 d
    obtain ⟨cx0, cx1, cx2, cx3, cx4⟩ := An bxX rfl rfl rfl rfl rfl
    obtain ⟨cy0, cy1, cy2, cy3, cy4⟩ := An bxY rfl rfl rfl rfl rfl
    clear bxX bxY
    go_simp
    exact Ak hK hmo d (if_pos rfl)
   case o4 =>
    intro At yy W hy hb d hd K hK
    obtain ⟨s32, s32'⟩ := Ao 3 32 .data hy hd rfl
    clear hd hy hb
    go_simp
    go_wp2_with (go_at_call 34; refine (T2.out _ d).mono ?_; rintro e wa ⟨aY, cY, gY, rfl, hR, dR⟩)
    exact hK.out _ wa (Av hmo d dR) ⟨aY, cY, gY, if_pos rfl, Fk hR.out d.size⟩
   case o5 =>
    intro At yy W hy hb d hd K hK
    have f2 := hd ⟨2, .data⟩ (by simp) rfl rfl
    have f4 := hd ⟨4, .data⟩ (by simp) rfl rfl
    obtain ⟨_, _, _, _, aX, cX, gX, e2, y2⟩ := f2
    obtain ⟨_, _, _, _, aY, cY, gY, e4, y4⟩ := f4
    have HZ := A0 (Ff W #[.int .i64 (m : Int), .slice aX E1.length cX, .slice (some ⟨gX, 0, none⟩) (N * m + 1) (N * m + 1)] #[.int .i64 (m : Int), .slice aY E2.length cY, .slice (some ⟨gY, 0, none⟩) (M * m + 1) (M * m + 1)] 67 67)
    obtain ⟨s29, s29'⟩ := Ao 0 29 .data hy hd rfl
    obtain ⟨s31, s31'⟩ := AG ((hy 2 _ 31 rfl rfl).trans e2)
    obtain ⟨s33, s33'⟩ := AG ((hy 4 _ 33 rfl rfl).trans e4)
    clear hd hy hb
    go_simp
    go_wp2_with (go_at_call 22; refine (MX _ _ _ _ _ _ _).mono ?_; rintro e wa ⟨rfl, hwa⟩; subst hwa)
    exact hK.out _ _ (Av hmo d HZ.out.1) ⟨W.heap.size, W.heap.size + 1, aX, cX, gX, aY, cY, gY, if_pos rfl, HZ.out.2.1, HZ.out.2.2.1, y2.on HZ.out.1, y4.on HZ.out.1⟩
   case o6 =>
    intro At yy W hy hb d hd K hK
    obtain ⟨s2, s2'⟩ := AG (hb 2 rfl : _ = .int .i64 bud)
    clear hd hy hb
    go_simp
    exact Ak hK hmo d (if_pos rfl)
   case o7 =>
    intro At yy W hy hb d hd K hK
    clear hd hy hb
    go_simp
    exact hK.out _ _ (Av hmo d ((Below.refl _ _).alloc (Nat.le_refl _) _)) ⟨if_pos rfl, d.size, by simp, World.ownsMap_made _ _ _ _⟩
   case o8 =>
    intro At yy W hy hb d hd K hK
    have f5 := hd ⟨5, .data⟩ (by simp) rfl rfl
    have f7 := hd ⟨7, .data⟩ (by simp) rfl rfl
    obtain ⟨_, _, _, _, b1, b2, aX, cX, gX, aY, cY, gY, e5, y5⟩ := f5
    obtain ⟨l7, _, _, _, e7, y7, _, m7⟩ := f7
    obtain ⟨s34, s34'⟩ := AG ((hy 5 _ 34 rfl rfl).trans e5)
    obtain ⟨s35, s35'⟩ := Ao 6 35 .data hy hd rfl
    obtain ⟨s36, s36'⟩ := AG ((hy 7 _ 36 rfl rfl).trans e7)
    clear hd hy hb
    go_simp
    exact Ak hK hmo d ⟨b1, b2, aX, cX, gX, aY, cY, gY, l7, if_pos rfl, y5, y7, m7⟩
   case o9 =>
    intro At yy W hy hb d hd K hK
    clear hd hy hb
    go_simp
    exact hK.out _ _ (Av hmo d ((Below.refl _ _).alloc (Nat.le_refl _) _)) ⟨if_pos rfl, d.size, by simp, World.alloc_heap_new _ _⟩
   case fin =>
    intro yy lo hi W hM
    show wpList _ _ _ [_] _ _
    have e0 := hM.v 0 (by simp) rfl rfl rfl
    have e1 := hM.v 1 (by simp) rfl rfl rfl
    have e3 := hM.v 3 (by simp) rfl rfl rfl
    have e6 := hM.v 6 (by simp) rfl rfl rfl
    obtain ⟨b1, b2, aX, cX, gX, aY, cY, gY, bm, e8, y8, l8, m8⟩ := hM.fact 8 (by simp) rfl (Ad 8 rfl)
    obtain ⟨e9, l9, _, z9⟩ := hM.fact 9 (by simp) rfl (Ad 9 rfl)
    obtain ⟨_, _, _, e2, _⟩ := hM.fact 2 (by simp) rfl (Ad 2 rfl)
    obtain ⟨_, _, _, e4, _⟩ := hM.fact 4 (by simp) rfl (Ad 4 rfl)
    obtain ⟨_, _, _, _, _, _, _, _, e5, _⟩ := hM.fact 5 (by simp) rfl (Ad 5 rfl)
    obtain ⟨e7, _⟩ := hM.fact 7 (by simp) rfl (Ad 7 rfl)
    have HDD := A0 hM.d
    simp only [Aw, Act.put, List.take, List.length, List.setIfInBounds_toArray, List.set_cons_zero, List.set_cons_succ, e0, e1, e3, e6, e2, e4, e5, e7, e8, e9]
    generalize lo 9 = b at z9 l9 ⊢
    clear hM hmo e0 e1 e3 e6 e2 e4 e5 e7 e8 e9
    have HF := A0 (Ok (bud := bud) HDD.out z9 l9 l8 y8 m8)
    obtain ⟨z0, z1, z2, z3, z4, z5⟩ := PS z9 rfl rfl rfl rfl rfl rfl
    have f0 : W.frozen? ⟨b, 0, none⟩ = false := A4 z9
    have f1 : W.frozen? ⟨b, 1, none⟩ = false := A4 z9
    have f2 : W.frozen? ⟨b, 2, none⟩ = false := A4 z9
    have f3 : W.frozen? ⟨b, 3, none⟩ = false := A4 z9
    have f4 : W.frozen? ⟨b, 4, none⟩ = false := A4 z9
    have f5 : W.frozen? ⟨b, 5, none⟩ = false := A4 z9
    clear z9 y8 m8
    go_wp2_with fail
    go_meet
    exact ⟨b, bm, b1, b2, aX, cX, gX, aY, cY, gY, rfl, HF⟩
  case rest =>
   rename World => w6
   obtain ⟨b, bm, b1, b2, aX, cX, gX, aY, cY, gY, rfl, HP⟩ := hcut
   clear T1 T2 HFr
   have bxX := A3 HW.out.1 HP.out.be
   have cx1 : w6.cell? ⟨w1.heap.size, 1, none⟩ = some (.int .i64 (m : Int)) := A1 bxX rfl
   clear bxX
   go_upto_region 8 with fail
   clear cx1
   obtain ⟨W7, hW7⟩ : ∃ W7, w6.alloc (.cells #[.int .i64 0, .int .i64 (m : Int), .slice none 0 0, .slice none 0 0, .slice none 0 0] 25) = W7 := ⟨_, rfl⟩
   have H7 : Hid (Below w6.heap.size w6 W7 ∧ W7.heap[w6.heap.size]? = some (.cells #[.int .i64 0, .int .i64 (m : Int), .slice none 0 0, .slice none 0 0, .slice none 0 0] 25 (0, 0)) ∧ W7.heap.size = w6.heap.size + 1) := A0 (by rw [← hW7]; exact ⟨(Below.refl _ _).alloc (Nat.le_refl _) _, World.alloc_heap_new _ _, by simp⟩)
   rw [hW7]
   clear hW7
   obtain ⟨D, hDe⟩ : ∃ D, W7.heap.size = D := ⟨_, rfl⟩
   have HB7 : Hid (Below W1.heap.size W1 W7) := A0 (HP.out.be.trans (H7.out.1.mono HP.out.be.size))
   have HDD : Hid (b < D ∧ bm < D ∧ D ≤ W7.heap.size ∧ w6.heap.size < D ∧ W1.heap.size ≤ w6.heap.size ∧ w6.heap.size ≠ b ∧ w6.heap.size ≠ bm ∧ W1.heap.size ≤ b ∧ W1.heap.size ≤ bm) := A0 (by
    have q1 := (Array.getElem?_eq_some_iff.1 HP.out.bx).1
    have q2 := HP.out.mo.lt
    have q3 := H7.out.2.2
    have q4 := HP.out.be.size
    have q5 := HP.out.lb
    have q6 := HP.out.lm
    omega)
   have HSS := A0 (HP.out.ss H7.out.1 D)
   have HR1 : Hid (Gd (fun k => k < w6.heap.size ∧ k ≠ b ∧ k ≠ bm) W7 b1 W1.heap.size m (N * m) E1 aX cX gX) := A0 (Hy HP.out.bx HP.out.mo H7.out.1 (Nat.le_refl _) HP.out.tw.h1 HP.out.tw.r1)
   have HR2 : Hid (Gd (fun k => k < w6.heap.size ∧ k ≠ b ∧ k ≠ bm) W7 b2 W1.heap.size m (M * m) E2 aY cY gY) := A0 (Hy HP.out.bx HP.out.mo H7.out.1 (Nat.le_refl _) HP.out.tw.h2 HP.out.tw.r2)
   have HA1 : Hid (∀ W', Bu (fun k => k < D ∧ k ≠ b ∧ k ≠ bm) W7 W' → BB W' (some ⟨g1, 0, none⟩) S1) := A0 (fun W' k => AM (FI (HX.out.on HB7.out).s k (fun i hi => by have := (HX.out.s.lt i hi).2; have := HDD.out; omega)))
   have HA2 : Hid (∀ W', Bu (fun k => k < D ∧ k ≠ b ∧ k ≠ bm) W7 W' → BB W' (some ⟨r1, 0, none⟩) S2) := A0 (fun W' k => AM (FI (HY.out.on HB7.out).s k (fun i hi => by have := (HY.out.s.lt i hi).2; have := HDD.out; omega)))
   have HOK := A0 (Hf Hin.out.1 Hin.out.2.2.1)
   have TG := GK W7 D b bm (.func (.func 39) #[] #[.pointer (some ⟨b1, 0, none⟩), .pointer (some ⟨b2, 0, none⟩)]) bud (some ⟨g1, 0, none⟩) (some ⟨r1, 0, none⟩) k1 q1 S1 S2 HSS (A0 ⟨HDD.out.1, HDD.out.2.1, HDD.out.2.2.1⟩) HA1 HA2 (A0 (fun t ht => Fl hNM.1 hNM.2 (HOK.out t ht))) hl.out.1 hl.out.2.2.2.1
   have HC8 : Hid (∀ W, Ab W7 W (fun k => k = b ∨ k = bm ∨ D ≤ k) → W.heap[w6.heap.size]? = some (.cells #[.int .i64 0, .int .i64 (m : Int), .slice none 0 0, .slice none 0 0, .slice none 0 0] 25 (0, 0))) := A0 (fun W o => o.cellK H7.out.2.1 (by have := HDD.out; omega))
   have bxX := A3 HW.out.1 HB7.out
   have bxY := A3 HW.out.2.1 HB7.out
   have cx2 : W7.cell? ⟨w1.heap.size, 2, none⟩ = some (.slice (some ⟨g1, 0, none⟩) S1.length k1) := A1 bxX rfl
   have cy2 : W7.cell? ⟨w1.heap.size + 1, 2, none⟩ = some (.slice (some ⟨r1, 0, none⟩) S2.length q1) := A1 bxY rfl
   clear bxX bxY
   go_upto_region 9 with (go_at_call 35; refine TG.mono ?_; rintro e w8 ⟨av, nv, cv, er, rfl, HB⟩; have F8 := HC8.out w8 HB.out.on; have z2 : w8.cell? ⟨w6.heap.size, 2, none⟩ = some (.slice none 0 0) := A1 F8 rfl; have f2 : w8.frozen? ⟨w6.heap.size, 2, none⟩ = false := A4 F8; clear F8)
   clear TG cx2 cy2 z2 f2
   obtain ⟨W8, hW8⟩ : ∃ W8, w8.setCell ⟨w6.heap.size, 2, none⟩ (.slice av nv cv) = W8 := ⟨_, rfl⟩
   have H8 : Hid (Below w.heap.size w W8 ∧ W8.heap[w.heap.size + 1 + 1]? = some (.cells #[.int .i64 0, .int .i64 0, .slice none 0 0, .slice none 0 0, .slice none 0 0] 25 (0, 0)) ∧ W8.heap[w1.heap.size]? = some (.cells #[.int .i64 (N : Int), .int .i64 (m : Int), .slice (some ⟨g1, 0, none⟩) S1.length k1, .slice (some ⟨g2, 0, none⟩) F1.length k2, .slice (some ⟨g3, 0, none⟩) E1.length k3] 25 (0, 0)) ∧ W8.heap[w1.heap.size + 1]? = some (.cells #[.int .i64 (M : Int), .int .i64 (m : Int), .slice (some ⟨r1, 0, none⟩) S2.length q1, .slice (some ⟨r2, 0, none⟩) F2.length q2, .slice (some ⟨r3, 0, none⟩) E2.length q3] 25 (0, 0)) ∧ W8.heap[w6.heap.size]? = some (.cells #[.int .i64 0, .int .i64 (m : Int), .slice av nv cv, .slice none 0 0, .slice none 0 0] 25 (0, 0)) ∧ Below W1.heap.size W1 W8 ∧ Ab w8 W8 (fun k => k = w6.heap.size)) := A0 (by
    have o1 := HB.out.on
    have o2 := Ah w8 w6.heap.size 2 (.slice av nv cv)
    rw [hW8] at o2
    have s := heap_setCell_same w8 w6.heap.size 2 _ 25 (.slice av nv cv) (HC8.out w8 o1)
    rw [hW8] at s
    have l := HDD.out
    have d1 : Below W1.heap.size W1 w8 := HB7.out.trans (o1.toBelow HB7.out.size (fun k e => by omega))
    have d2 := d1.trans (o2.toBelow d1.size (fun k e => by omega))
    exact ⟨HW.out.2.2.2.2.trans (d2.mono HW.out.2.2.2.2.size), A3 HW.out.2.2.1 d2, A3 HW.out.1 d2, A3 HW.out.2.1 d2, by simpa using s, d2, o2⟩)
   rw [hW8]
   clear hW8
   by_cases he : er = 0
   · subst he
     obtain ⟨vp, ps0, S0, HG0⟩ : ∃ vp ps ns, NJ W7 D b bm (.func (.func 39) #[] #[.pointer (some ⟨b1, 0, none⟩), .pointer (some ⟨b2, 0, none⟩)]) bud (Az S1 S2) (Az S1 S2).length (.slice av nv cv) vp ps ns w8 ∧ Af bud false [] (Az S1 S2) [] = (0, ps, ns) := by
      rcases HB.out with ⟨q, _, _⟩ | ⟨_, q⟩
      · exact absurd rfl q
      · exact q
     have HG := A0 HG0
     clear HG0 HB
     obtain rfl : nv = S0.length := by
      obtain ⟨_, _, q⟩ := A8 HG.out.1.ow
      cases q
      rfl
     obtain ⟨kv, HKV0⟩ := Gz (b := b) HG.out.1.ow HG.out.1.ss.po (by have := HDD.out; have := HG.out.1.on.size; omega) HDD.out.1
     have HKV := A0 HKV0
     clear HKV0
     have HS8 : Hid (Kk W8 D b bm kv (.func (.func 39) #[] #[.pointer (some ⟨b1, 0, none⟩), .pointer (some ⟨b2, 0, none⟩)]) bud (Cr E1 E2) m N M ps0 0 0 vp (.slice none 0 0) (.slice none 0 0) ps0 [] 0 [] W8) := A0 (by
      have l := HDD.out
      refine ⟨HG.out.1.ss.onlyR H8.out.2.2.2.2.2.2 (by omega) (by omega) (fun k hk e => by have := (HG.out.1.ss.po.lt k hk).1; omega) (fun k hk => by cases hk) (fun k hk => by cases hk), ⟨rfl, rfl, rfl, Nat.le_refl _, fun _ _ _ => rfl⟩, Gi.start HG.out.2 HOK.out, HG.out.1.pl, HKV.out.2.2, Fj, Fj⟩)
     have HK8 : Hid (Bu (fun k => k < w6.heap.size ∧ k ≠ b ∧ k ≠ bm) W7 W8) := A0 ((Bu.ofOnly HG.out.1.on (fun k h1 h2 => by have := HDD.out; omega)).trans (Bu.ofOnly H8.out.2.2.2.2.2.2 (fun k h1 h2 => by omega)))
     have TR := Pu W8 D b bm kv b1 b2 W1.heap.size W1.heap.size m N M E1 E2 aX aY cX cY gX gY bud vp (.slice none 0 0) (.slice none 0 0) ps0 [] 0 [] HS8 (A0 ⟨HDD.out.1, HDD.out.2.1, Nat.le_trans HDD.out.2.2.1 HK8.out.size⟩) (Nat.lt_of_lt_of_le HKV.out.1 H8.out.2.2.2.2.2.2.size) (A0 ((HR1.out.kp HK8.out).weak (fun k h => by have := HDD.out; omega))) (A0 ((HR2.out.kp HK8.out).weak (fun k h => by have := HDD.out; omega))) HQ
     have cx1 : W8.cell? ⟨w1.heap.size, 1, none⟩ = some (.int .i64 (m : Int)) := A1 H8.out.2.2.1 rfl
     go_upto_region 12 with (go_at_call 36; refine TR.mono ?_; rintro e w9 ⟨er, rfl, HR⟩)
     clear TR cx1
     have HO9 : Hid (Ab W8 w9 (fun k => k = b ∨ k = bm ∨ (D ≤ k ∧ k ≠ kv))) := A0 (by
      rcases HR.out with ⟨_, _, q⟩ | ⟨_, _, _, _, _, _, _, _, q, _⟩
      · exact q
      · exact q.on)
     have H9 : Hid (Below w.heap.size w w9 ∧ w9.heap[w.heap.size + 1 + 1]? = some (.cells #[.int .i64 0, .int .i64 0, .slice none 0 0, .slice none 0 0, .slice none 0 0] 25 (0, 0)) ∧ w9.heap[w1.heap.size]? = some (.cells #[.int .i64 (N : Int), .int .i64 (m : Int), .slice (some ⟨g1, 0, none⟩) S1.length k1, .slice (some ⟨g2, 0, none⟩) F1.length k2, .slice (some ⟨g3, 0, none⟩) E1.length k3] 25 (0, 0)) ∧ w9.heap[w1.heap.size + 1]? = some (.cells #[.int .i64 (M : Int), .int .i64 (m : Int), .slice (some ⟨r1, 0, none⟩) S2.length q1, .slice (some ⟨r2, 0, none⟩) F2.length q2, .slice (some ⟨r3, 0, none⟩) E2.length q3] 25 (0, 0)) ∧ w9.heap[w6.heap.size]? = some (.cells #[.int .i64 0, .int .i64 (m : Int), .slice av S0.length cv, .slice none 0 0, .slice none 0 0] 25 (0, 0)) ∧ Below W1.heap.size W1 w9) := A0 (by
      have l := HDD.out
      have d2 := H8.out.2.2.2.2.2.1
      have d3 : Below W1.heap.size W1 w9 := d2.trans (HO9.out.toBelow d2.size (fun k e => by omega))
      exact ⟨HW.out.2.2.2.2.trans (d3.mono HW.out.2.2.2.2.size), A3 HW.out.2.2.1 d3, A3 HW.out.1 d3, A3 HW.out.2.1 d3, HO9.out.cellK H8.out.2.2.2.2.1 (by omega), d3⟩)
     by_cases he2 : er = 0
     · subst he2
       obtain ⟨vp9, ve9, vn9, ps, es, nn, xn, HS0, hes⟩ : ∃ vp ve vn ps es nn xn, Kk W8 D b bm kv (.func (.func 39) #[] #[.pointer (some ⟨b1, 0, none⟩), .pointer (some ⟨b2, 0, none⟩)]) bud (Cr E1 E2) m N M ps0 ps.length 0 vp ve vn ps es nn xn w9 ∧ es.length ≤ 65536 := by
        rcases HR.out with ⟨q, _, _⟩ | ⟨_, q⟩
        · exact absurd rfl q
        · exact q
       clear HR
       obtain ⟨ap, cp, hvp⟩ := A8 HS0.ss.po
       obtain ⟨ae, ce, hve⟩ := A8 HS0.ss.eo
       subst hvp
       subst hve
       have HS := A0 (And.intro HS0 hes)
       clear HS0 hes
       have cc3 : w9.cell? ⟨b, 3, none⟩ = some (.slice ap ps.length cp) := A1 HS.out.1.ss.bx rfl
       have cc4 : w9.cell? ⟨b, 4, none⟩ = some (.slice ae es.length ce) := A1 HS.out.1.ss.bx rfl
       obtain ⟨z0, z1, z2, z3, z4⟩ := An H9.out.2.2.2.2.1 rfl rfl rfl rfl rfl
       have f0 : w9.frozen? ⟨w6.heap.size, 0, none⟩ = false := A4 H9.out.2.2.2.2.1
       have f1 : w9.frozen? ⟨w6.heap.size, 1, none⟩ = false := A4 H9.out.2.2.2.2.1
       have f2 : w9.frozen? ⟨w6.heap.size, 2, none⟩ = false := A4 H9.out.2.2.2.2.1
       have f3 : w9.frozen? ⟨w6.heap.size, 3, none⟩ = false := A4 H9.out.2.2.2.2.1
       have f4 : w9.frozen? ⟨w6.heap.size, 4, none⟩ = false := A4 H9.out.2.2.2.2.1
       go_upto_region 14 with fail
       go_cut [15] (fun v15 W => v15 = .pointer (some ⟨w6.heap.size, 0, none⟩) ∧ Hid (Ab w9 W (fun k => k = w6.heap.size) ∧ W.heap[w6.heap.size]? = some (.cells #[.int .i64 (ps.length : Int), .int .i64 (m : Int), .slice av S0.length cv, .slice none 0 0, .slice ae es.length ce] 25 (0, 0))))
       case first =>
        go_region_with fail
        all_goals
         first | (go_wp2_with fail; go_meet) | go_meet
         exact ⟨rfl, A0 (Ls H9.out.2.2.2.2.1)⟩
       case rest =>
        rename World => W14
        obtain ⟨rfl, H14⟩ := hcut
        clear cc3 cc4 z0 z1 z2 z3 z4 f0 f1 f2 f3 f4
        have HX14 : Hid (W14.heap[w1.heap.size]? = some (.cells #[.int .i64 (N : Int), .int .i64 (m : Int), .slice (some ⟨g1, 0, none⟩) S1.length k1, .slice (some ⟨g2, 0, none⟩) F1.length k2, .slice (some ⟨g3, 0, none⟩) E1.length k3] 25 (0, 0)) ∧ W14.heap[w1.heap.size + 1]? = some (.cells #[.int .i64 (M : Int), .int .i64 (m : Int), .slice (some ⟨r1, 0, none⟩) S2.length q1, .slice (some ⟨r2, 0, none⟩) F2.length q2, .slice (some ⟨r3, 0, none⟩) E2.length q3] 25 (0, 0))) := A0 (by
         have l := HDD.out
         have l1 := (Array.getElem?_eq_some_iff.1 HW.out.1).1
         have l2 := (Array.getElem?_eq_some_iff.1 HW.out.2.1).1
         exact ⟨H14.out.1.cellK H9.out.2.2.1 (by omega), H14.out.1.cellK H9.out.2.2.2.1 (by omega)⟩)
        have HB14 : Hid (Below W1.heap.size W1 W14) := A0 (H9.out.2.2.2.2.2.trans (H14.out.1.toBelow H9.out.2.2.2.2.2.size (fun k e => by have := HDD.out; omega)))
        have HS14 : Hid (SS D W14 b bm (.func (.func 39) #[] #[.pointer (some ⟨b1, 0, none⟩), .pointer (some ⟨b2, 0, none⟩)]) bud (.slice ap ps.length cp) (.slice ae es.length ce) vn9 ps es nn xn) := A0 (by
         have l := HDD.out
         exact HS.out.1.ss.onlyR H14.out.1 (by omega) (by omega) (fun k hk e => by have := (HS.out.1.ss.po.lt k hk).1; omega) (fun k hk e => by have := (HS.out.1.ss.eo.lt k hk).1; omega) (fun k hk e => by have := (HS.out.1.ss.no.lt k hk).1; omega))
        have HBD : Hid (∀ x ∈ ps, (0 ≤ x.1 ∧ x.1 < (N : Int)) ∧ 0 ≤ x.2 ∧ x.2 < (M : Int)) := A0 (fun x hx => by
         obtain ⟨p, q, rfl, l1, l2⟩ := HS.out.1.rn.bd x hx
         simp only
         omega)
        have T3 := A0 (fun (W : World) (d : Below W14.heap.size W14 W) => BL W N (m : Int) (some ⟨g1, 0, none⟩) (some ⟨g2, 0, none⟩) (some ⟨g3, 0, none⟩) k1 k2 k3 S1.length E1.length F1 (A0 (AM ((HX.out.on HB14.out).on d).f)) (A0 Hin.out.2.1) (by have := hl.out; omega) (by omega))
        have T4 := A0 (fun (W : World) (d : Below W14.heap.size W14 W) => BL W M (m : Int) (some ⟨r1, 0, none⟩) (some ⟨r2, 0, none⟩) (some ⟨r3, 0, none⟩) q1 q2 q3 S2.length E2.length F2 (A0 (AM ((HY.out.on HB14.out).on d).f)) (A0 Hin.out.2.2.2) (by have := hl.out; omega) (by omega))
        have T5 := A0 (fun (W : World) (d : Below W14.heap.size W14 W) (h1 h2 : Nat) (y1 : Bd W h1 4 N (fun c => .bool (Ay F1 c)) N) (y2 : Bd W h2 4 M (fun c => .bool (Ay F2 c)) M) => G9 W D b bm (.func (.func 39) #[] #[.pointer (some ⟨b1, 0, none⟩), .pointer (some ⟨b2, 0, none⟩)]) bud (.slice ap ps.length cp) (.slice ae es.length ce) vn9 ps es nn xn h1 h2 N M (Ay F1) (Ay F2) (A0 (HS14.out.on d)) (A0 y1) (A0 y2) HBD HS.out.1.pl)
        obtain ⟨Fn, hFn⟩ : ∃ Fn, Cj (Ay F1) (Ay F2) ps ps.length = Fn := ⟨_, rfl⟩
        rw [hFn] at T5
        have HFn := A0 hFn
        clear hFn
        go_upto_region 15 with fail
        go_cut [15] (fun v15 W => v15 = .pointer (some ⟨w6.heap.size, 0, none⟩) ∧ ∃ aF cF, Hid (Ab w9 W (fun k => k = w6.heap.size) ∧ W.heap[w6.heap.size]? = some (.cells #[.int .i64 (ps.length : Int), .int .i64 (m : Int), .slice av S0.length cv, .slice aF Fn.length cF, .slice ae es.length ce] 25 (0, 0)) ∧ W.ownsRow W14.heap.size 3 1 (.slice aF Fn.length cF) Fn.length (Fn.map (Value.int .i64))))
        case first =>
         have hmo : AJ 0 [vI 0 (.agg #[.int .i64 (N : Int), .int .i64 (m : Int), .slice (some ⟨g1, 0, none⟩) S1.length k1, .slice (some ⟨g2, 0, none⟩) F1.length k2, .slice (some ⟨g3, 0, none⟩) E1.length k3]), pI 1 (P9 (Ay F1) N), vI 2 (.agg #[.int .i64 (M : Int), .int .i64 (m : Int), .slice (some ⟨r1, 0, none⟩) S2.length q1, .slice (some ⟨r2, 0, none⟩) F2.length q2, .slice (some ⟨r3, 0, none⟩) E2.length q3]), pI 3 (P9 (Ay F2) M), pI 4 (PF W14.heap.size Fn)] := ⟨A2 _ _, Am E9, A2 _ _, Am E9, Am IQ, trivial⟩
         refine Aj _ (by kernel_rfl) (by kernel_rfl) (by kernel_rfl) (by kernel_rfl) hmo ⟨?o0, ?o1, ?o2, ?o3, ?o4, trivial⟩ ?fin
         case o0 =>
          intro At yy W hy hb d hd K hK
          obtain ⟨s11, s11'⟩ := AG (hb 11 rfl : _ = .pointer (some ⟨w1.heap.size, 0, none⟩))
          clear hd hy hb
          have bxX := A3 HX14.out.1 d
          have bxY := A3 HX14.out.2 d
          obtain ⟨cx0, cx1, cx2, cx3, cx4⟩ := An bxX rfl rfl rfl rfl rfl
          obtain ⟨cy0, cy1, cy2, cy3, cy4⟩ := An bxY rfl rfl rfl rfl rfl
          clear bxX bxY
          go_simp
          exact Ak hK hmo d (if_pos rfl)
         case o1 =>
          intro At yy W hy hb d hd K hK
          obtain ⟨s68, s68'⟩ := Ao 0 68 .data hy hd rfl
          clear hd hy hb
          go_simp
          go_wp2_with (go_at_call 38; refine (T3.out _ d).mono ?_; rintro e wa ⟨gf, rfl, hR, dR⟩)
          exact hK.out _ wa (Av hmo d dR) ⟨gf, if_pos rfl, hR.out.1⟩
         case o2 =>
          intro At yy W hy hb d hd K hK
          obtain ⟨s12, s12'⟩ := AG (hb 12 rfl : _ = .pointer (some ⟨w1.heap.size + 1, 0, none⟩))
          clear hd hy hb
          have bxX := A3 HX14.out.1 d
          have bxY := A3 HX14.out.2 d
          obtain ⟨cx0, cx1, cx2, cx3, cx4⟩ := An bxX rfl rfl rfl rfl rfl
          obtain ⟨cy0, cy1, cy2, cy3, cy4⟩ := An bxY rfl rfl rfl rfl rfl
          clear bxX bxY
          go_simp
          exact Ak hK hmo d (if_pos rfl)
         case o3 =>
          intro At yy W hy hb d hd K hK
          obtain ⟨s70, s70'⟩ := Ao 2 70 .data hy hd rfl
          clear hd hy hb
          go_simp
          go_wp2_with (go_at_call 38; refine (T4.out _ d).mono ?_; rintro e wa ⟨gf, rfl, hR, dR⟩)
          exact hK.out _ wa (Av hmo d dR) ⟨gf, if_pos rfl, hR.out.1⟩
         case o4 =>
          intro At yy W hy hb d hd K hK
          have f1 := hd ⟨1, .data⟩ (by simp) rfl rfl
          have f3 := hd ⟨3, .data⟩ (by simp) rfl rfl
          obtain ⟨_, _, _, _, h1, e1, y1⟩ := f1
          obtain ⟨_, _, _, _, h2, e3, y3⟩ := f3
          obtain ⟨s14, s14'⟩ := AG (hb 14 rfl : _ = .pointer (some ⟨b, 0, none⟩))
          obtain ⟨s69, s69'⟩ := AG ((hy 1 _ 69 rfl rfl).trans e1)
          obtain ⟨s71, s71'⟩ := AG ((hy 3 _ 71 rfl rfl).trans e3)
          clear hd hy hb
          go_simp
          go_wp2_with (go_at_call 37; refine (T5.out _ d h1 h2 y1 y3).mono ?_; rintro e wa ⟨v', rfl, hR⟩; obtain ⟨aF, cF, rfl⟩ := A8 hR.out.1)
          exact hK.out _ wa (Av hmo d hR.out.2) ⟨aF, cF, if_pos rfl, Ac hR.out.1 d.size⟩
         case fin =>
          intro yy lo hi W hM
          show wpList _ _ _ [_, _] _ _
          have e0 := hM.v 0 (by simp) rfl rfl rfl
          have e2 := hM.v 2 (by simp) rfl rfl rfl
          obtain ⟨aF, cF, e4, y4⟩ := hM.fact 4 (by simp) rfl (Ad 4 rfl)
          obtain ⟨_, e1, _⟩ := hM.fact 1 (by simp) rfl (Ad 1 rfl)
          obtain ⟨_, e3, _⟩ := hM.fact 3 (by simp) rfl (Ad 3 rfl)
          have HDD := A0 hM.d
          simp only [Aw, Act.put, List.take, List.length, List.setIfInBounds_toArray, List.set_cons_zero, List.set_cons_succ, e0, e2, e1, e3, e4]
          clear hM hmo e0 e2 e1 e3 e4
          have z9 := A3 H14.out.2 HDD.out
          have HF := A0 (Lx HDD.out z9 y4 H14.out.1)
          have z3 : W.cell? ⟨w6.heap.size, 3, none⟩ = some (.slice none 0 0) := A1 z9 rfl
          have f3 : W.frozen? ⟨w6.heap.size, 3, none⟩ = false := A4 z9
          clear z9 y4
          go_wp2_with fail
          go_meet
          exact ⟨rfl, aF, cF, HF⟩
        case rest =>
         rename World => W15
         obtain ⟨rfl, aF, cF, H15⟩ := hcut
         clear T3 T4 T5
         have l := HDD.out
         have s3 := HW.out.2.2.2.1
         have cc3 : W15.cell? ⟨b, 3, none⟩ = some (.slice ap ps.length cp) := A1 (H15.out.1.cellK HS.out.1.ss.bx (by omega)) rfl
         obtain ⟨z0, z1, z2, z3, z4⟩ := An H15.out.2.1 rfl rfl rfl rfl rfl
         have F4 := H15.out.1.cellK H9.out.2.1 (show ¬ w.heap.size + 1 + 1 = w6.heap.size by omega)
         obtain ⟨o0, o1, o2, o3, o4⟩ := An F4 rfl rfl rfl rfl rfl
         have fz0 : W15.frozen? ⟨w.heap.size + 1 + 1, 0, none⟩ = false := A4 F4
         have fz1 : W15.frozen? ⟨w.heap.size + 1 + 1, 1, none⟩ = false := A4 F4
         have fz2 : W15.frozen? ⟨w.heap.size + 1 + 1, 2, none⟩ = false := A4 F4
         have fz3 : W15.frozen? ⟨w.heap.size + 1 + 1, 3, none⟩ = false := A4 F4
         have fz4 : W15.frozen? ⟨w.heap.size + 1 + 1, 4, none⟩ = false := A4 F4
         have O6 := A0 (And.intro (AT W15 (w.heap.size + 1 + 1) _ _ _ _ _ (.int .i64 (ps.length : Int)) (.int .i64 (m : Int)) (.slice av S0.length cv) (.slice aF Fn.length cF) (.slice ae es.length ce) 25 F4) (AF W15 (w.heap.size + 1 + 1) (.int .i64 (ps.length : Int)) (.int .i64 (m : Int)) (.slice av S0.length cv) (.slice aF Fn.length cF) (.slice ae es.length ce)))
         have HF4 := A0 F4
         clear F4
         have HRES : Hid (Bi Cr (BF bud0) m S1 F1 E1 S2 F2 E2 = ⟨(ps.length : Int), (m : Int), 0, ps, S0, Fn, es⟩) := A0 (by
          rw [HBU.out, ← HFn.out]
          exact Hg HG.out.2 (HS.out.1.rn.fin HS.out.1.pl HS.out.2))
         have HFIN : Hid (∀ W', Ab W15 W' (fun k => k = w.heap.size + 1 + 1) → AE w.heap.size W' (.slice av S0.length cv) (.slice aF Fn.length cF) (.slice ae es.length ce) S0 Fn es ∧ W'.ownsRow w.heap.size 57 2 (.slice ap ps.length cp) ps.length (ps.flatMap Bn) ∧ Below w.heap.size w W') := A0 (fun W' o => by
          have e7 := hDe
          have e8 := HB7.out.size
          have e9 := H14.out.1.size
          have ea := HO9.out.size
          have ec := HG.out.1.on.size
          have eb := H8.out.2.2.2.2.2.2.size
          have lt1 := fun k hk => HG.out.1.ow.lt k hk
          have r1 := A9 HG.out.1.ow H8.out.2.2.2.2.2.2 (fun k hk e => by have := (lt1 k hk).1; omega)
          have r2 := A9 r1 HO9.out (fun k hk e => by have := (lt1 k hk).1; have := HKV.out.2.1 k hk; omega)
          have r3 := A9 r2 H15.out.1 (fun k hk e => by have := (lt1 k hk).1; omega)
          have r4 := A9 r3 o (fun k hk e => by have := (lt1 k hk).1; omega)
          have f4 := A9 H15.out.2.2 o (fun k hk e => by have := (H15.out.2.2.lt k hk).1; omega)
          have g3 := A9 HS.out.1.ss.eo H15.out.1 (fun k hk e => by have := (HS.out.1.ss.eo.lt k hk).1; omega)
          have g4 := A9 g3 o (fun k hk e => by have := (g3.lt k hk).1; omega)
          have p3 := A9 HS.out.1.ss.po H15.out.1 (fun k hk e => by have := (HS.out.1.ss.po.lt k hk).1; omega)
          have p4 := A9 p3 o (fun k hk e => by have := (p3.lt k hk).1; omega)
          refine ⟨⟨Ac r4 (by omega), Ac f4 (by omega), Ac g4 (by omega), fun g hg hh => ?_⟩, Ac p4 (by omega), (H9.out.1.trans (H15.out.1.toBelow H9.out.1.size (fun k e => by omega))).trans (o.toBelow (by have := H9.out.1.size; have := H15.out.1.size; omega) (fun k e => by omega))⟩
          have u1 := (HG.out.1.ow.lt g hg).2
          have u2 := (H15.out.2.2.lt g hh).1
          omega)
         go_upto_region 16 with fail
         go_region_with fail
         all_goals
          go_wp2_with fail
          refine bodyPost_ret (As (p := 8) (q := 9) (r := 10) (ty := 25) rfl _ _ (w.heap.size + 1 + 1) 25 _ (0, 0) _ _ _ rfl rfl rfl O6.out.1 underlying25 rfl (by kernel_rfl)) rfl ?_
          have q := HFIN.out _ (Gm O6.out.2)
          exact J3 HRES.out rfl ⟨q.1, q.2.1⟩ q.2.2
     · have HRQ : Hid (Bi Cr (BF bud0) m S1 F1 E1 S2 F2 E2 = B7 er) := A0 (by
        rcases HR.out with ⟨_, q, _⟩ | ⟨q, _⟩
        · rw [HBU.out]; exact CB he2 HG.out.2 q
        · exact absurd q he2)
       have F4 := H9.out.2.1
       obtain ⟨o0, o1, o2, o3, o4⟩ := An F4 rfl rfl rfl rfl rfl
       have fz0 : w9.frozen? ⟨w.heap.size + 1 + 1, 0, none⟩ = false := A4 F4
       have fz1 : w9.frozen? ⟨w.heap.size + 1 + 1, 1, none⟩ = false := A4 F4
       have fz2 : w9.frozen? ⟨w.heap.size + 1 + 1, 2, none⟩ = false := A4 F4
       have fz3 : w9.frozen? ⟨w.heap.size + 1 + 1, 3, none⟩ = false := A4 F4
       have fz4 : w9.frozen? ⟨w.heap.size + 1 + 1, 4, none⟩ = false := A4 F4
       have O6 := A0 (And.intro (AT w9 (w.heap.size + 1 + 1) _ _ _ _ _ (.int .i64 0) (.int .i64 0) (.slice none 0 0) (.slice none 0 0) (.slice none 0 0) 25 F4) (AF w9 (w.heap.size + 1 + 1) (.int .i64 0) (.int .i64 0) (.slice none 0 0) (.slice none 0 0) (.slice none 0 0)))
       clear F4
       go_wp2_with fail
       refine bodyPost_ret (As (p := 8) (q := 9) (r := 10) (ty := 25) rfl _ _ (w.heap.size + 1 + 1) 25 _ (0, 0) _ _ _ rfl rfl rfl O6.out.1 underlying25 rfl (by kernel_rfl)) rfl ?_
       have s2 := HW.out.2.2.2.1
       have s3 := H9.out.1.size
       exact AX HRQ.out rfl (H9.out.1.trans (O6.out.2.toBelow (by omega) (fun k hk => by omega)))
   · have HRQ : Hid (Bi Cr (BF bud0) m S1 F1 E1 S2 F2 E2 = B7 er) := A0 (by
      rcases HB.out with ⟨_, q, _⟩ | ⟨q, _⟩
      · rw [HBU.out]; exact E3 he q
      · exact absurd q he)
     clear HB
     have F4 := H8.out.2.1
     obtain ⟨o0, o1, o2, o3, o4⟩ := An F4 rfl rfl rfl rfl rfl
     have fz0 : W8.frozen? ⟨w.heap.size + 1 + 1, 0, none⟩ = false := A4 F4
     have fz1 : W8.frozen? ⟨w.heap.size + 1 + 1, 1, none⟩ = false := A4 F4
     have fz2 : W8.frozen? ⟨w.heap.size + 1 + 1, 2, none⟩ = false := A4 F4
     have fz3 : W8.frozen? ⟨w.heap.size + 1 + 1, 3, none⟩ = false := A4 F4
     have fz4 : W8.frozen? ⟨w.heap.size + 1 + 1, 4, none⟩ = false := A4 F4
     have O6 := A0 (And.intro (AT W8 (w.heap.size + 1 + 1) _ _ _ _ _ (.int .i64 0) (.int .i64 0) (.slice none 0 0) (.slice none 0 0) (.slice none 0 0) 25 F4) (AF W8 (w.heap.size + 1 + 1) (.int .i64 0) (.int .i64 0) (.slice none 0 0) (.slice none 0 0) (.slice none 0 0)))
     clear F4
     go_wp2_with fail
     refine bodyPost_ret (As (p := 8) (q := 9) (r := 10) (ty := 25) rfl _ _ (w.heap.size + 1 + 1) 25 _ (0, 0) _ _ _ rfl rfl rfl O6.out.1 underlying25 rfl (by kernel_rfl)) rfl ?_
     have s2 := HW.out.2.2.2.1
     have s3 := H8.out.1.size
     exact AX HRQ.out rfl (H8.out.1.trans (O6.out.2.toBelow (by omega) (fun k hk => by omega)))
theorem Hr (w : World) (n m n' m' bud0 : Int) (a1 a2 a3 b1 b2 b3 : Option Addr) (c1 c2 c3 d1 d2 d3 : Nat) (Sa Fa Sb Fb : List Int) (Ea Eb : List Aa) (hA : Hid (AP w a1 a2 a3 Sa Fa Ea)) (hB : Hid (AP w b1 b2 b3 Sb Fb Eb)) (h1 : Sa.length ≤ 2000000) (h2 : Fa.length ≤ 2000000) (h3 : Ea.length ≤ 2000000) (h4 : Sb.length ≤ 2000000) (h5 : Fb.length ≤ 2000000) (h6 : Eb.length ≤ 2000000) : Calls prog 21 #[.agg #[.int .i64 n, .int .i64 m, .slice a1 Sa.length c1, .slice a2 Fa.length c2, .slice a3 Ea.length c3], .agg #[.int .i64 n', .int .i64 m', .slice b1 Sb.length d1, .slice b2 Fb.length d2, .slice b3 Eb.length d3], .int .i64 bud0, .func (.func 22) #[] #[]] w (DR w (AO Cr n m n' m' bud0 Sa Fa Ea Sb Fb Eb)) := by
 cases em : AC n m Sa Fa Ea with
 | false =>
  have e : AO Cr n m n' m' bud0 Sa Fa Ea Sb Fb Eb = B7 2 := if_neg (fun h => by rw [em] at h; exact absurd h.1 (by decide))
  rw [e]
  exact Jk w n m n' m' bud0 a1 a2 a3 b1 b2 b3 c1 c2 c3 d1 d2 d3 Sa Fa Sb Fb Ea Eb hA hB h1 h2 h3 h4 h5 h6 em
 | true =>
  cases em' : AC n' m' Sb Fb Eb with
  | false =>
   have e : AO Cr n m n' m' bud0 Sa Fa Ea Sb Fb Eb = B7 2 := if_neg (fun h => by rw [em'] at h; exact absurd h.2 (by decide))
   rw [e]
   exact Jg w n m n' m' bud0 a1 a2 a3 b1 b2 b3 c1 c2 c3 d1 d2 d3 Sa Fa Sb Fb Ea Eb hA hB h1 h2 h3 h4 h5 h6 em em'
  | true =>
   by_cases hm : m = m'
   · subst hm
     obtain ⟨N, rfl⟩ := Int.eq_ofNat_of_zero_le (show 0 ≤ n by have := (Ag em).1; omega)
     obtain ⟨M, rfl⟩ := Int.eq_ofNat_of_zero_le (show 0 ≤ n' by have := (Ag em').1; omega)
     obtain ⟨k, rfl⟩ := Int.eq_ofNat_of_zero_le (show 0 ≤ m by have := (Ag em).2.1; omega)
     have e : AO Cr (N : Int) (k : Int) (M : Int) (k : Int) bud0 Sa Fa Ea Sb Fb Eb = Bi Cr (BF bud0) k (A5 Sa) (A5 Fa) (A7 Ea) (A5 Sb) (A5 Fb) (A7 Eb) := by
      unfold AO
      rw [if_pos ⟨em, em'⟩, if_pos rfl, Int.toNat_natCast]
     rw [e]
     exact Ia w N M k bud0 a1 a2 a3 b1 b2 b3 c1 c2 c3 d1 d2 d3 Sa Fa Sb Fb Ea Eb hA hB h1 h2 h3 h4 h5 h6 em em'
   · have e : AO Cr n m n' m' bud0 Sa Fa Ea Sb Fb Eb = B7 6 := by
      unfold AO
      rw [if_pos ⟨em, em'⟩, if_neg hm]
     rw [e]
     exact J0 w n m n' m' bud0 a1 a2 a3 b1 b2 b3 c1 c2 c3 d1 d2 d3 Sa Fa Sb Fb Ea Eb hA hB h1 h2 h3 h4 h5 h6 em em' hm
theorem OO (w : World) (n m n' m' bud0 : Int) (a1 a2 a3 b1 b2 b3 : Option Addr) (c1 c2 c3 d1 d2 d3 : Nat) (Sa Fa Sb Fb : List Int) (Ea Eb : List Aa) (hA : Hid (AP w a1 a2 a3 Sa Fa Ea)) (hB : Hid (AP w b1 b2 b3 Sb Fb Eb)) (h1 : Sa.length ≤ 2000000) (h2 : Fa.length ≤ 2000000) (h3 : Ea.length ≤ 2000000) (h4 : Sb.length ≤ 2000000) (h5 : Fb.length ≤ 2000000) (h6 : Eb.length ≤ 2000000) : Calls prog 6 #[.agg #[.int .i64 n, .int .i64 m, .slice a1 Sa.length c1, .slice a2 Fa.length c2, .slice a3 Ea.length c3], .agg #[.int .i64 n', .int .i64 m', .slice b1 Sb.length d1, .slice b2 Fb.length d2, .slice b3 Eb.length d3], .int .i64 bud0] w (DR w (AO Cr n m n' m' bud0 Sa Fa Ea Sb Fb Eb)) := by
 obtain ⟨W0, hW0⟩ : ∃ W0, ((w.alloc (.cells #[.int .i64 n, .int .i64 m, .slice a1 Sa.length c1, .slice a2 Fa.length c2, .slice a3 Ea.length c3] 25)).alloc (.cells #[.int .i64 n', .int .i64 m', .slice b1 Sb.length d1, .slice b2 Fb.length d2, .slice b3 Eb.length d3] 25)).alloc (.cells #[.int .i64 0, .int .i64 0, .slice none 0 0, .slice none 0 0, .slice none 0 0] 25) = W0 := ⟨_, rfl⟩
 have HD := A0 (BH w #[.int .i64 n, .int .i64 m, .slice a1 Sa.length c1, .slice a2 Fa.length c2, .slice a3 Ea.length c3] #[.int .i64 n', .int .i64 m', .slice b1 Sb.length d1, .slice b2 Fb.length d2, .slice b3 Eb.length d3] #[.int .i64 0, .int .i64 0, .slice none 0 0, .slice none 0 0, .slice none 0 0] 25)
 rw [hW0] at HD
 have TB := Hr W0 n m n' m' bud0 a1 a2 a3 b1 b2 b3 c1 c2 c3 d1 d2 d3 Sa Fa Sb Fb Ea Eb (A0 (hA.out.on HD.out.1)) (A0 (hB.out.on HD.out.1)) h1 h2 h3 h4 h5 h6
 have HS := A0 HD.out.2.2.2.2
 generalize AO Cr n m n' m' bud0 Sa Fa Ea Sb Fb Eb = r at *
 obtain ⟨y0, y1, y2, y3, y4⟩ := An HD.out.2.1 rfl rfl rfl rfl rfl
 obtain ⟨x0, x1, x2, x3, x4⟩ := An HD.out.2.2.1 rfl rfl rfl rfl rfl
 go_enter func6, ntmps6
 go_wp2_with (go_at_call 21; refine TB.mono ?_; rintro e w1 ⟨x1, y1, x2, y2, x3, y3, xp, yp, rfl, H1, D1⟩; have F4 := A3 HD.out.2.2.2.1 D1; have HD1 := A0 D1; obtain ⟨o0, o1, o2, o3, o4⟩ := An F4 rfl rfl rfl rfl rfl; have fz0 : w1.frozen? ⟨w.heap.size + 1 + 1, 0, none⟩ = false := A4 F4; have fz1 : w1.frozen? ⟨w.heap.size + 1 + 1, 1, none⟩ = false := A4 F4; have fz2 : w1.frozen? ⟨w.heap.size + 1 + 1, 2, none⟩ = false := A4 F4; have fz3 : w1.frozen? ⟨w.heap.size + 1 + 1, 3, none⟩ = false := A4 F4; have fz4 : w1.frozen? ⟨w.heap.size + 1 + 1, 4, none⟩ = false := A4 F4; have HF4 := A0 F4; clear F4 D1)
 have O6 := A0 (And.intro (AT w1 (w.heap.size + 1 + 1) _ _ _ _ _ (.int .i64 r.n) (.int .i64 r.m) (.slice x1 r.S.length y1) (.slice x2 r.F.length y2) (.slice x3 r.E.length y3) 25 HF4.out) (AF w1 (w.heap.size + 1 + 1) (.int .i64 r.n) (.int .i64 r.m) (.slice x1 r.S.length y1) (.slice x2 r.F.length y2) (.slice x3 r.E.length y3)))
 refine bodyPost_ret (As (p := 6) (q := 7) (r := 8) (ty := 25) rfl _ _ (w.heap.size + 1 + 1) 25 _ (0, 0) _ _ _ rfl rfl rfl O6.out.1 underlying25 rfl (by kernel_rfl)) rfl ?_
 have s := HS.out
 exact ⟨x1, y1, x2, y2, x3, y3, xp, yp, rfl, A0 ⟨(H1.out.1.keep HF4.out O6.out.2).down (by omega), Ac (Ap H1.out.2 HF4.out (by decide) O6.out.2) (by omega)⟩, (HD.out.1.trans (HD1.out.mono HD.out.1.size)).trans (O6.out.2.toBelow (by have := HD1.out.size; omega) (fun k hk => by omega))⟩
theorem LZ (w : World) (D b bm kv b1 b2 B1 B2 m R1 R2 : Nat) (E1 E2 : List Aa) (a1 a2 : Option Addr) (c1 c2 g1 g2 i p q s : Nat) (bud : Int) (vp ve vn : Value) (ps : List Aq) (es : List Aa) (nn : Nat) (xn : List Value)
 (h : Hid (SS D w b bm (.func (.func 69) #[] #[.pointer (some ⟨b1, 0, none⟩), .pointer (some ⟨b2, 0, none⟩)]) bud vp ve vn ps es nn xn)) (hD : Hid (b < D ∧ bm < D ∧ D ≤ w.heap.size)) (hi : i < ps.length) (hpq : Hid (ps[i] = ((p : Int), (q : Int)))) (hps : ps.length ≤ 4096) (hkv : Hid (kv < w.heap.size ∧ (∀ k, vp.ownBlock = some k → k ≠ kv) ∧ (∀ k, ve.ownBlock = some k → k ≠ kv) ∧ ∀ k, vn.ownBlock = some k → k ≠ kv))
 (hR1 : Hid (Gd (fun k => k < D ∧ k ≠ b ∧ k ≠ bm) w b1 B1 m R1 E1 a1 c1 g1)) (hR2 : Hid (Gd (fun k => k < D ∧ k ≠ b ∧ k ≠ bm) w b2 B2 m R2 E2 a2 c2 g2)) (q1 : Hid (My m R1 p s E1)) (q2 : Hid (My m R2 q s E2)) (hT : Hid (∀ t ∈ (Az (B5 (Ar E1 p (s : Int))) (B5 (Ar E2 q (s : Int)))), DV t)) (hN : Hid ((Az (B5 (Ar E1 p (s : Int))) (B5 (Ar E2 q (s : Int)))).Nodup)) (he : es.length ≤ 4000000) :
 Calls prog 59 #[.pointer (some ⟨b, 0, none⟩), .int .i64 (i : Int), .int .i64 (s : Int)] w fun e w' => ∃ er vp' ve' vn' ps' ns nn' xn', e = .returned (.int .i64 er) ∧ Hid (PA w D b bm kv (.func (.func 69) #[] #[.pointer (some ⟨b1, 0, none⟩), .pointer (some ⟨b2, 0, none⟩)]) bud ps es (Az (B5 (Ar E1 p (s : Int))) (B5 (Ar E2 q (s : Int)))) i s er vp' ve' vn' ps' ns nn' xn' w') := by
 obtain ⟨W0, hW0⟩ : ∃ W0, (w.alloc (.cells #[.pointer (some ⟨b, 0, none⟩)] 94)).alloc (.cells #[.int .i64 0] 30) = W0 := ⟨_, rfl⟩
 have HD : Hid (Below w.heap.size w W0 ∧ W0.heap[w.heap.size]? = some (.cells #[.pointer (some ⟨b, 0, none⟩)] 94 (0, 0)) ∧ W0.heap[w.heap.size + 1]? = some (.cells #[.int .i64 0] 30 (0, 0)) ∧ W0.heap.size = w.heap.size + 2) := A0 (by
  rw [← hW0]
  refine ⟨((Below.refl _ _).alloc (Nat.le_refl _) _).alloc (by simp) _, (Below.heap_alloc _ _ _ (by simp)).trans (World.alloc_heap_new _ _), ?_, by simp⟩
  have := World.alloc_heap_new (w.alloc (.cells #[.pointer (some ⟨b, 0, none⟩)] 94)) (.cells #[.int .i64 0] 30)
  simpa using this)
 have HS0 := A0 (h.out.on HD.out.1)
 have k0 : W0.cell? ⟨w.heap.size, 0, none⟩ = some (.pointer (some ⟨b, 0, none⟩)) := A1 HD.out.2.1 rfl
 have f5 : W0.frozen? ⟨b, 5, none⟩ = false := A4 HS0.out.bx
 refine (callsIn_wide (n := 9)).1 (callsIn_of_wp_marks func59 rfl trivial ?_ rfl)
 simp only [ntmps59, List.size_toArray, List.length_cons, List.length_nil, Nat.reduceAdd, Nat.reduceSub, Array.replicate_succ, Array.replicate_zero, List.push_toArray, List.append_toArray, List.nil_append, List.cons_append]
 refine wpIn_wide.2 ?_
 go_upto_region 1 with fail
 go_cut [3] from 10 to 17 (fun v3 W => v3 = .pointer (some ⟨w.heap.size, 0, none⟩) ∧ ∃ v, Hid (SS D W b bm (.func (.func 69) #[] #[.pointer (some ⟨b1, 0, none⟩), .pointer (some ⟨b2, 0, none⟩)]) bud vp ve v ps es 0 [] ∧ Ab W0 W (fun k => k = b) ∧ v.ownBlock = vn.ownBlock))
 case first =>
  have HR : Hid (∀ v, W0.ownsRow D 3 1 v 0 [] → v.ownBlock = vn.ownBlock → SS D ((W0.setCell ⟨b, 5, none⟩ v).drew) b bm (.func (.func 69) #[] #[.pointer (some ⟨b1, 0, none⟩), .pointer (some ⟨b2, 0, none⟩)]) bud vp ve v ps es 0 [] ∧ Ab W0 ((W0.setCell ⟨b, 5, none⟩ v).drew) (fun k => k = b)) := A0 (fun v hv _ => by
   have q := HS0.out.ends hD.out.1 (W' := W0) (v := v) (n2 := 0) (x2 := []) ⟨rfl, rfl, rfl, Nat.le_refl _, fun _ _ _ => rfl⟩ hv
   have o2 := Ah W0 b 5 v
   exact ⟨q.1.on ⟨rfl, rfl, rfl, Nat.le_refl _, fun _ _ => rfl⟩, ⟨o2.os, o2.tape, o2.output, o2.size, o2.block⟩⟩)
  rcases HS0.out.no.2 with ⟨ev, e0⟩ | ⟨gn, cn, cur, ev, r1, r2, r3, r4, r5, r6⟩
  · have k5 : W0.cell? ⟨b, 5, none⟩ = some (.slice none 0 0) := by rw [← ev]; exact A1 HS0.out.bx rfl
    have HE := A0 ev
    clear ev
    go_region
    all_goals
     go_wp2_with fail
     go_meet
     refine ⟨rfl, _, A0 ⟨(HR.out _ (World.ownsRow_nil _ _ _ _) (by rw [HE.out])).1, (HR.out _ (World.ownsRow_nil _ _ _ _) (by rw [HE.out])).2, by rw [HE.out]⟩⟩
  · have k5 : W0.cell? ⟨b, 5, none⟩ = some (.slice (some ⟨gn, 0, none⟩) nn cn) := by rw [← ev]; exact A1 HS0.out.bx rfl
    have HE := A0 ev
    have HO : Hid (W0.ownsRow D 3 1 (.slice (some ⟨gn, 0, none⟩) 0 cn) 0 []) := A0 ⟨rfl, .inr ⟨gn, cn, cur, rfl, r1, r2, Nat.zero_le _, r4, r5, by simp⟩⟩
    clear ev r1 r2 r3 r4 r5 r6
    go_region
    all_goals
     go_wp2_with fail
     go_meet
     refine ⟨rfl, _, A0 ⟨(HR.out _ HO.out (by rw [HE.out]; rfl)).1, (HR.out _ HO.out (by rw [HE.out]; rfl)).2, by rw [HE.out]; rfl⟩⟩
 case rest =>
  obtain ⟨rfl, vn1, H1⟩ := hcut
  rename World => w1
  clear k0 f5 hW0
  have HB1 : Hid (w1.heap[w.heap.size]? = some (.cells #[.pointer (some ⟨b, 0, none⟩)] 94 (0, 0)) ∧ w1.heap[w.heap.size + 1]? = some (.cells #[.int .i64 0] 30 (0, 0)) ∧ w.heap.size + 2 ≤ w1.heap.size ∧ Ab w w1 (fun k => k = b ∨ k = bm ∨ (D ≤ k ∧ k ≠ kv))) := A0 (by
   have l := hD.out
   have o := H1.out.2.1
   refine ⟨o.cellK HD.out.2.1 (by omega), o.cellK HD.out.2.2.1 (by omega), by have := o.size; have := HD.out.2.2.2; omega, (Ab.ofBelow HD.out.1).andNew o (fun k _ e => .inl e)⟩)
  obtain ⟨gp, cp, hvp⟩ : ∃ gp cp, vp = .slice (some ⟨gp, 0, none⟩) ps.length cp := by
   rcases h.out.po.2 with ⟨_, e0⟩ | ⟨g, cap, cur, e, _⟩
   · omega
   · exact ⟨g, cap, e⟩
  have HVP := A0 hvp
  have k0 : w1.cell? ⟨w.heap.size, 0, none⟩ = some (.pointer (some ⟨b, 0, none⟩)) := A1 HB1.out.1 rfl
  have k1 : w1.cell? ⟨b, 0, none⟩ = some (.func (.func 69) #[] #[.pointer (some ⟨b1, 0, none⟩), .pointer (some ⟨b2, 0, none⟩)]) := A1 H1.out.1.bx rfl
  have k2 : w1.cell? ⟨b, 3, none⟩ = some (.slice (some ⟨gp, 0, none⟩) ps.length cp) := by rw [← hvp]; exact A1 H1.out.1.bx rfl
  have HP := H1.out.1.po
  rw [hvp] at HP
  have k3 : w1.cell? ⟨gp, i * 2, none⟩ = some (.int .i64 (p : Int)) := by
   have := GO HP i hi
   rw [hpq.out] at this
   exact this.1
  have k4 : w1.cell? ⟨gp, i * 2 + 1, none⟩ = some (.int .i64 (q : Int)) := by
   have := GO HP i hi
   rw [hpq.out] at this
   exact this.2
  have i0 : (0 : Int) ≤ (i : Int) := by omega
  have i1 : (i : Int) < (ps.length : Int) := by omega
  clear HP hvp
  go_upto_region 2 with fail
  go_cut [30] from 18 to 30 (fun v30 W => v30 = .func (.func 70) #[] #[.pointer (some ⟨b1, 0, none⟩), .pointer (some ⟨w1.heap.size, 0, none⟩), .pointer (some ⟨w1.heap.size + 1, 0, none⟩), .pointer (some ⟨b2, 0, none⟩)] ∧ Hid (Below w1.heap.size w1 W ∧ W.heap[w1.heap.size]? = some (.cells #[.int .i64 (p : Int), .int .i64 (q : Int)] 57 (0, 0)) ∧ W.heap[w1.heap.size + 1]? = some (.cells #[.int .i64 (s : Int)] 3 (0, 0)) ∧ W.heap.size = w1.heap.size + 2))
  case first =>
   have HZ := A0 (Ff w1 #[.int .i64 (p : Int), .int .i64 (q : Int)] #[.int .i64 (s : Int)] 57 3)
   go_region_held3 (fun W2 => W2.cell? ⟨w.heap.size, 0, none⟩ = some (.pointer (some ⟨b, 0, none⟩)) ∧ W2.cell? ⟨b, 0, none⟩ = some (.func (.func 69) #[] #[.pointer (some ⟨b1, 0, none⟩), .pointer (some ⟨b2, 0, none⟩)]) ∧ W2.cell? ⟨b, 3, none⟩ = some (.slice (some ⟨gp, 0, none⟩) ps.length cp) ∧ W2.cell? ⟨gp, i * 2, none⟩ = some (.int .i64 (p : Int)) ∧ W2.cell? ⟨gp, i * 2 + 1, none⟩ = some (.int .i64 (q : Int)))
    (first | go_keep | assumption)
    (first | (go_at_call 69; refine (L8 (p : Int) (q : Int) (s : Int) b1 b2 _).mono ?_; rintro e w2 ⟨rfl, hw2⟩; subst hw2))
   all_goals
    go_wp2_with fail
    go_meet
    exact ⟨rfl, A0 ⟨HZ.out.1.drew, HZ.out.2.1, HZ.out.2.2.1, HZ.out.2.2.2⟩⟩
  case rest =>
   obtain ⟨rfl, H2⟩ := hcut
   rename World => w2
   obtain ⟨T, hTe⟩ : ∃ T, (Az (B5 (Ar E1 p (s : Int))) (B5 (Ar E2 q (s : Int)))) = T := ⟨_, rfl⟩
   rw [hTe] at hT hN
   obtain ⟨x, hxe⟩ : ∃ x, w1.heap.size = x := ⟨_, rfl⟩
   have hx : w.heap.size + 2 ≤ x := by have := HB1.out.2.2.1; omega
   have HX1 := A0 (show w.heap.size + 2 ≤ w1.heap.size from HB1.out.2.2.1)
   rw [hxe] at H2
   have z2 : w2.heap.size = x + 2 := H2.out.2.2.2
   have HSQ : Hid (M7 8 70 #[.pointer (some ⟨b1, 0, none⟩), .pointer (some ⟨x, 0, none⟩), .pointer (some ⟨x + 1, 0, none⟩), .pointer (some ⟨b2, 0, none⟩)] (T.map GV) (Bu (MT D b bm x)) w2) := A0 (by
    have kk : Bu (fun k => k < D ∧ k ≠ b ∧ k ≠ bm) w w2 := (Bu.ofOnly HB1.out.2.2.2 (fun k h1 h2 => by omega)).trans (Bu.ofBelow (by rw [hxe]; exact H2.out.1))
    have := Ny 8 (MT D b bm x) w2 b1 b2 x (x + 1) B1 B2 m R1 R2 E1 E2 a1 a2 c1 c2 g1 g2 p q s (A0 ⟨(hR1.out.kp kk).weak (fun k hk => .inl hk), (hR2.out.kp kk).weak (fun k hk => .inl hk), H2.out.2.1, H2.out.2.2.1, .inr (.inl rfl), .inr (.inr rfl)⟩) q1 q2
    rw [hTe] at this
    exact this)
   have HI0 : Hid (I0 w D b bm kv x (.func (.func 69) #[] #[.pointer (some ⟨b1, 0, none⟩), .pointer (some ⟨b2, 0, none⟩)]) bud p q s (decide (65536 < es.length)) ve ps es T 0 vp vn1 ps [] w2) := A0 (by
    have d : Below w1.heap.size w1 w2 := by rw [hxe]; exact H2.out.1
    refine ⟨rfl, H1.out.1.on d, A3 HB1.out.1 d, A3 HB1.out.2.1 d, H2.out.2.1, H2.out.2.2.1, HB1.out.2.2.2.trans (Ab.ofBelow d), fun k hk => ⟨.inl (h.out.po.lt k hk).2, hkv.out.2.1 k hk⟩, fun k hk => ⟨.inl (h.out.no.lt k (by rw [← H1.out.2.2]; exact hk)).2, hkv.out.2.2.2 k (by rw [← H1.out.2.2]; exact hk)⟩, fun k hk => ⟨(h.out.eo.lt k hk).2, hkv.out.2.2.1 k hk⟩, by simp, Nat.le_refl _, hps, hkv.out.1⟩)
   have hDo := hD.out
   have HNL : Hid (∀ k ps' ns', ∀ {vp' vn' : Value} {W : World}, k ≤ T.length → I0 w D b bm kv x (.func (.func 69) #[] #[.pointer (some ⟨b1, 0, none⟩), .pointer (some ⟨b2, 0, none⟩)]) bud p q s (decide (65536 < es.length)) ve ps es T k vp' vn' ps' ns' W → ns'.length ≤ 8192) := A0 (fun k ps' ns' vp' vn' W hk H => by
    have h1 : (T.take k).length ≤ ps'.length := CI (hN.out.sublist (List.take_sublist k T)) H.inn
    have h2 := H.pl
    have h3 := H.le
    rw [List.length_take] at h1
    omega)
   rw [hxe]
   have HTE := A0 hTe
   clear k0 k1 k2 k3 k4 H2 H1 HB1 HD HS0 HX1 hxe hTe
   have HZ2 := A0 z2
   clear z2
   go_wp2_with fail
   have z2 := HZ2.out
   refine (wpIn_wide (n := 9)).1 ?_
   refine DY (n := 9) (by omega) rfl (enters_of func70 (by kernel_rfl) rfl) HSQ.out Bu.trans (fun A B _ d => Bu.ofBelow d) ?kb (Below.refl _ _) (fun k W => ∃ vp' vn' ps' ns', I0 w D b bm kv x (.func (.func 69) #[] #[.pointer (some ⟨b1, 0, none⟩), .pointer (some ⟨b2, 0, none⟩)]) bud p q s (decide (65536 < es.length)) ve ps es T k vp' vn' ps' ns' W) (fun W => ∃ er vp' vn' ps' ns', OH w D b bm kv x (.func (.func 69) #[] #[.pointer (some ⟨b1, 0, none⟩), .pointer (some ⟨b2, 0, none⟩)]) bud (decide (65536 < es.length)) ve ps es T er vp' vn' ps' ns' W) ?mi ?ip ?mx ?xp ⟨_, _, _, _, HI0.out⟩ (fun v a' W => ∃ bp t, v = GV t ∧ W.heap[bp]? = some (.cells #[.int .i64 t.1, .int .i64 t.2] 57 (0, 0)) ∧ a' = { tmps := #[.pointer (some ⟨b, 0, none⟩), .int .i64 (i : Int), .int .i64 (s : Int), .pointer (some ⟨w.heap.size, 0, none⟩), undef, undef, .pointer (some ⟨w.heap.size + 1, 0, none⟩), .pointer (some ⟨bp, 0, none⟩), undef, undef, u10, u11, u12, u13, u14, u15, u16, u17, u18, u19, u20, u21, u22, u23, u24, u25, u26, u27, u28, u29, .func (.func 70) #[] #[.pointer (some ⟨b1, 0, none⟩), .pointer (some ⟨x, 0, none⟩), .pointer (some ⟨x + 1, 0, none⟩), .pointer (some ⟨b2, 0, none⟩)], .agg #[.int .i64 t.1, .int .i64 t.2], undef, undef, undef, undef, undef, undef, undef, undef, undef, undef, undef, undef, undef, undef, undef, undef, undef, undef, undef, undef, undef, undef, undef, undef, undef, undef, undef, undef, undef, undef, undef, undef, undef, undef, undef, undef], defers := [] }) ?ap ?assign ?body ?done ?stop
   case kb => exact fun W r r' hr => Bu.ofOnly (AI _ _ _) (fun k hs e => by unfold MT at hs; omega)
   case mi => rintro k A A' ⟨vp', vn', ps', ns', H⟩ d; exact ⟨_, _, _, _, H.below hx hDo d⟩
   case ip => rintro k A r r' ⟨vp', vn', ps', ns', H⟩ hr; exact ⟨_, _, _, _, H.onlyR hx hDo (AI _ _ _) (fun k e => by omega)⟩
   case mx => rintro A A' ⟨er, vp', vn', ps', ns', H⟩ d; exact ⟨_, _, _, _, _, H.onlyR hx hDo (Ab.ofBelow (R := fun _ => False) d) (fun _ e => e.elim)⟩
   case xp => rintro A r r' ⟨er, vp', vn', ps', ns', H⟩ hr; exact ⟨_, _, _, _, _, H.onlyR hx hDo (AI _ _ _) (fun k e => by omega)⟩
   case ap =>
    rintro v a' A r r' ⟨bp, t, e1, e2, e3⟩ hr
    refine ⟨bp, t, e1, ?_, e3⟩
    refine (AI _ _ _).cellK e2 (fun e => ?_)
    rw [e] at e2
    rw [e2] at hr
    cases hr
   case assign =>
    intro l v hv W K hK
    obtain ⟨t, _, rfl⟩ := List.mem_map.1 hv
    simp only [GV]
    gi_wp2
    exact hK _ _ ((Below.refl _ _).alloc (Nat.le_refl _) _) ⟨W.heap.size, t, rfl, World.alloc_heap_new _ _, rfl⟩
   case body =>
    rintro l0 k a' W hk ⟨vp', vn', ps', ns', HK0⟩ ⟨bp, t, et, hbp, rfl⟩ hd ⟨r, hr⟩
    have hkT : k < T.length := by simpa using hk
    have ett : T[k] = t := JC (by rw [List.getElem_map] at et; exact et)
    have HK := A0 HK0
    have HL := A0 (show x + 4 ≤ W.heap.size by have := (Array.getElem?_eq_some_iff.1 hr).1; omega)
    have y0 : W.cell? ⟨w.heap.size, 0, none⟩ = some (.pointer (some ⟨b, 0, none⟩)) := A1 HK0.sb rfl
    obtain ⟨y1, y2⟩ := IV hbp rfl rfl
    have HTd := A0 (show T.drop k = t :: T.drop (k + 1) by rw [List.drop_eq_getElem_cons hkT, ett])
    have HTk := A0 ett
    have TMe := Ji W D b bm (.func (.func 69) #[] #[.pointer (some ⟨b1, 0, none⟩), .pointer (some ⟨b2, 0, none⟩)]) bud (decide (65536 < es.length)) vp' ve vn' ps' es ns' ns'.length (ns'.map (Value.int .i64)) t (A0 HK0.ss) (A0 (hT.out t (by rw [← ett]; exact List.getElem_mem hkT))) (A0 ⟨hDo.1, by have := HK0.on.size; omega⟩) HK0.pl
    have NO := A0 (show ∀ y, w.heap.size ≤ y → y < x + 4 → ¬ (y = b ∨ y = bm ∨ vp'.ownBlock = some y) by
     rintro y u1 u2 (e | e | e)
     · omega
     · omega
     · have := HK0.ap y e; omega)
    clear HK0 hbp hd hr et ett hk
    have HZ3 := A0 z2
    clear z2
    gi_wp2
    refine ⟨trivial, (CallsIn.inRound l0 (callsIn_wide.2 TMe)).mono ?_⟩
    rintro e W4 (⟨num, vp2, ps2, rfl, HM⟩ | ⟨er, rfl, her, HM⟩)
    · clear TMe y0 y1 y2
      have HSB := A0 (HM.out.on.cellK HK.out.sb (NO.out _ (by omega) (by omega)))
      have y0 : W4.cell? ⟨w.heap.size, 0, none⟩ = some (.pointer (some ⟨b, 0, none⟩)) := A1 HSB.out rfl
      have TF := Cz W4 D b bm (.func (.func 69) #[] #[.pointer (some ⟨b1, 0, none⟩), .pointer (some ⟨b2, 0, none⟩)]) bud vp2 ve vn' ps2 es _ _ (A0 HM.out.ss)
      have HMo := A0 (HM.out.on.mono (R' := fun k => k = b ∨ k = bm ∨ vp'.ownBlock = some k ∨ vn'.ownBlock = some k) (fun k _ e => by
       rcases e with e | e | e
       · exact .inl e
       · exact .inr (.inl e)
       · exact .inr (.inr (.inl e))))
      by_cases hfl : 65536 < es.length
      · rw [decide_eq_true hfl] at TF
        have HFL := A0 hfl
        clear hfl
        gi_wp2
        refine ⟨trivial, (CallsIn.inRound l0 (callsIn_wide.2 TF)).mono ?_⟩
        rintro e W5 ⟨rfl, hw5⟩
        obtain rfl := hw5.symm
        clear hw5
        gi_wp2
        have st := HK.out.step hx hDo HL.out hkT HM.out.ss HMo.out HM.out.ap (fun k hk => .inl hk) (by rw [HTd.out, HM.out.eq, decide_eq_true HFL.out]; rfl) HM.out.sub (by rw [HTk.out]; exact HM.out.mem) (Nat.le_succ _) HM.out.pl
        exact ⟨⟨by rw [HZ3.out]; exact st.2.2.1, by rw [HZ3.out]; exact st.2.2.2⟩, st.2.1, _, _, _, _, st.1⟩
      · rw [decide_eq_false hfl] at TF
        have HFL := A0 hfl
        clear hfl
        gi_wp2
        refine ⟨trivial, (CallsIn.inRound l0 (callsIn_wide.2 TF)).mono ?_⟩
        rintro e W5 ⟨rfl, hw5⟩
        obtain rfl := hw5.symm
        clear hw5
        gi_wp2
        obtain ⟨i3, hi3, hz30, hz31, hz32⟩ := AA LV
        obtain ⟨an, cn, hvn⟩ := A8 HM.out.ss.no
        have HVN := A0 hvn
        have hnl : ns'.length ≤ 8192 := HNL.out k ps' ns' (Nat.le_of_lt hkT) HK.out
        have hbW : b < W4.heap.size := (Array.getElem?_eq_some_iff.1 HM.out.ss.bx).1
        have hwW : w.heap.size < W4.heap.size := (Array.getElem?_eq_some_iff.1 HSB.out).1
        have c5 : W4.cell? ⟨b, 5, none⟩ = some (.slice an ns'.length cn) := by rw [← hvn]; exact A1 HM.out.ss.bx rfl
        have HOV : Hid (W4.ownsRow D 3 1 (.slice an ns'.length cn) ns'.length (ns'.map (Value.int .i64))) := A0 (by rw [← hvn]; exact HM.out.ss.no)
        have yA : (W4.alloc (.cells #[.int .i64 num] 3)).cell? ⟨w.heap.size, 0, none⟩ = some (.pointer (some ⟨b, 0, none⟩)) := (World.cell?_of_block (a := ⟨w.heap.size, 0, none⟩) (Below.heap_alloc _ _ _ hwW)).trans y0
        have cA : (W4.alloc (.cells #[.int .i64 num] 3)).cell? ⟨b, 5, none⟩ = some (.slice an ns'.length cn) := (World.cell?_of_block (a := ⟨b, 5, none⟩) (Below.heap_alloc _ _ _ hbW)).trans c5
        have hDW : D ≤ W4.heap.size := by have := HK.out.on.size; have := HM.out.on.size; omega
        have HS6 := A0 (fun (w6 : World) (hg : (W4.alloc (.cells #[.int .i64 num] 3)).drew.grownBy w6 (Value.slice an ns'.length cn).ownBlock) => show w6.cell? ⟨w.heap.size, 0, none⟩ = some (.pointer (some ⟨b, 0, none⟩)) ∧ w6.frozen? ⟨b, 5, none⟩ = false ∧ w6.cell? ⟨b, 5, none⟩ = some (.slice an ns'.length cn) by
         rw [← hvn] at hg
         have q1 : w6.heap[b]? = some (.cells #[(.func (.func 69) #[] #[.pointer (some ⟨b1, 0, none⟩), .pointer (some ⟨b2, 0, none⟩)]), .int .i64 bud, .map (some bm), vp2, ve, vn'] 71 (0, 0)) := (hg.block b (by simp; omega) (fun e => by have := (HM.out.ss.no.lt b e.symm).1; omega)).trans ((Below.heap_alloc _ _ b hbW).trans HM.out.ss.bx)
         have q2 : w6.heap[w.heap.size]? = some (.cells #[.pointer (some ⟨b, 0, none⟩)] 94 (0, 0)) := (hg.block _ (by simp; omega) (fun e => by have := HK.out.an _ e.symm; omega)).trans ((Below.heap_alloc _ _ _ hwW).trans HSB.out)
         exact ⟨A1 q2 rfl, by simp [World.frozen?, q1], by rw [← hvn]; exact A1 q1 rfl⟩)
        have FIN := A0 (fun (gg cap2 : Nat) (w6 : World) (HF : Hid (w6.ownsRow D 3 1 (.slice (some ⟨gg, 0, none⟩) (ns'.length + 1) cap2) (ns'.length + 1) (ns'.map (Value.int .i64) ++ [Value.int .i64 num]) ∧ (W4.alloc (.cells #[.int .i64 num] 3)).drew.grownBy w6 (Value.slice an ns'.length cn).ownBlock ∧ ((Value.slice an ns'.length cn).ownBlock = some gg ∨ gg = W4.heap.size + 1))) =>
         show ((w6.setCell ⟨b, 5, none⟩ (.slice (some ⟨gg, 0, none⟩) (ns'.length + 1) cap2)).heap[w2.heap.size]? = W.heap[w2.heap.size]? ∧ (w6.setCell ⟨b, 5, none⟩ (.slice (some ⟨gg, 0, none⟩) (ns'.length + 1) cap2)).heap[w2.heap.size + 1]? = W.heap[w2.heap.size + 1]?) ∧ Bu (MT D b bm x) W (w6.setCell ⟨b, 5, none⟩ (.slice (some ⟨gg, 0, none⟩) (ns'.length + 1) cap2)) ∧ ∃ vpA vnA psA nsA, I0 w D b bm kv x (.func (.func 69) #[] #[.pointer (some ⟨b1, 0, none⟩), .pointer (some ⟨b2, 0, none⟩)]) bud p q s (decide (65536 < es.length)) ve ps es T (k + 1) vpA vnA psA nsA (w6.setCell ⟨b, 5, none⟩ (.slice (some ⟨gg, 0, none⟩) (ns'.length + 1) cap2)) by
         obtain ⟨ho, hg, hat⟩ := HF.out
         rw [← HVN.out] at hg hat
         have d : Below W4.heap.size W4 (W4.alloc (.cells #[.int .i64 num] 3)).drew := ((Below.refl _ _).alloc (Nat.le_refl _) _).drew
         obtain ⟨s7, o7⟩ := (HM.out.ss.on d).ends hDo.1 (W' := w6) (AL hg) ho
         have e2 : ns'.map (Value.int .i64) ++ [Value.int .i64 num] = (ns' ++ [num]).map (Value.int .i64) := by simp
         have e5 : ns'.length + 1 = (ns' ++ [num]).length := by simp
         have s8 : SS D (w6.setCell ⟨b, 5, none⟩ (.slice (some ⟨gg, 0, none⟩) (ns'.length + 1) cap2)) b bm (.func (.func 69) #[] #[.pointer (some ⟨b1, 0, none⟩), .pointer (some ⟨b2, 0, none⟩)]) bud vp2 ve (.slice (some ⟨gg, 0, none⟩) (ns'.length + 1) cap2) ps2 es (ns' ++ [num]).length ((ns' ++ [num]).map (Value.int .i64)) := by rw [← e2, ← e5]; exact s7
         have st := HK.out.step (ns2 := ns' ++ [num]) hx hDo HL.out hkT s8 ((HMo.out.trans (Ab.ofBelow d)).andNew o7 (fun y _ e => by
          rcases e with e | e
          · exact .inl e
          · exact .inr (.inr (.inr e)))) HM.out.ap (fun y hy => by
          have e3 : gg = y := by simpa [Value.ownBlock] using hy
          subst e3
          rcases hat with e | e
          · exact .inl e
          · right; have := HM.out.on.size; omega) (by rw [HTd.out, HM.out.eq, decide_eq_false HFL.out]; rfl) HM.out.sub (by rw [HTk.out]; exact HM.out.mem) (by simp) HM.out.pl
         exact ⟨⟨by rw [HZ3.out]; exact st.2.2.1, by rw [HZ3.out]; exact st.2.2.2⟩, st.2.1, _, _, _, _, st.1⟩)
        clear hvn
        refine Ci (by kernel_rfl) (FH (by kernel_rfl)) ?_
        refine wpAny_take (i := 5) (v := .int .i64 num) rfl (by kernel_rfl) (by kernel_rfl) (by kernel_rfl) (fun _ _ _ h => h) (Or.inl ⟨by rfl, fun _ => by go_simp⟩) ?_
        refine wpAny_ready (rs := [0, 1, 6]) (by kernel_rfl) (by simp) ?_
        refine AllReady.cons rfl (fun K hK => ?_) ?_
        · go_simp
          refine hK _ _ ?_
          clear hK K
          refine wpAny_ready (rs := [1, 6]) (by kernel_rfl) (by simp) ?_
          refine AllReady.cons rfl (fun K hK => ?_) ?_
          · go_simp
            refine hK _ _ ?_
            clear hK K
            refine wpAny_take (i := 2) (v := .pointer (some ⟨b, 0, none⟩)) rfl (by kernel_rfl) (by kernel_rfl) (by kernel_rfl) (fun _ _ _ h => h) (Or.inl ⟨by rfl, fun _ => by go_simp⟩) ?_
            refine wpAny_take (i := 3) (v := .pointer (some ⟨b, 5, none⟩)) rfl (by kernel_rfl) (by kernel_rfl) (by kernel_rfl) (fun _ _ _ h => h) (Or.inl ⟨by rfl, fun _ => by go_simp⟩) ?_
            refine wpAny_ready (rs := [4, 6]) (by kernel_rfl) (by simp) ?_
            refine AllReady.cons rfl (fun K hK => ?_) ?_
            · go_simp
              refine hK _ _ ?_
              clear hK K
              refine wpAny_ready (rs := [6]) (by kernel_rfl) (by simp) ?_
              refine AllReady.cons rfl (fun K hK => ?_) ?_
              · go_simp
                refine hK _ _ ?_
                clear hK K
                refine wpAny_ready (rs := [7]) (by kernel_rfl) (by simp) ?_
                refine AllReady.cons rfl (fun K hK => ?_) ?_
                · (refine step_append_lies _ (by rfl) _ _ _ (by rfl) D 3 i3 _ 1 8 underlying22 hi3 hz30 hz31 hz32 rfl (by omega) (.slice an ns'.length cn) ns'.length (ns'.map (Value.int .i64)) (by rfl) (by exact HOV.out.alloc _) ⟨W4.heap.size, 0, none⟩ 1 1 ([Value.int .i64 num]) (by rfl) (by rfl) (by exact AH W4 num) (by intro u hu; rw [List.mem_singleton.1 hu]; rfl) (by omega) (by unfold maxLen; omega) (by omega) (by simp; omega) (W4.heap.size + 1) (by simp) ?_; intro gg cap2 w6 hown6 hgr6 hat hlt; have S6 := (HS6.out w6 hgr6).1; have F6 := (HS6.out w6 hgr6).2.1; have C6 := (HS6.out w6 hgr6).2.2; have HF := A0 (And.intro hown6 (And.intro hgr6 hat)); clear hown6 hgr6 hat)
                  try go_simp
                  refine hK _ _ ?_
                  clear hK K
                  refine wpAny_take (i := 8) (v := .pointer (some ⟨b, 0, none⟩)) rfl (by kernel_rfl) (by kernel_rfl) (by kernel_rfl) (fun _ _ _ h => h) (Or.inl ⟨by rfl, fun _ => by go_simp⟩) ?_
                  refine wpAny_take (i := 9) (v := .pointer (some ⟨b, 5, none⟩)) rfl (by kernel_rfl) (by kernel_rfl) (by kernel_rfl) (fun _ _ _ h => h) (Or.inl ⟨by rfl, fun _ => by go_simp⟩) ?_
                  refine wpAny_ready (rs := [10]) (by kernel_rfl) (by simp) ?_
                  refine AllReady.cons rfl (fun K hK => ?_) ?_
                  · go_simp
                    refine hK _ _ ?_
                    clear hK K
                    refine wpAny_done (by kernel_rfl) ?_ _
                    exact FIN.out _ _ _ HF
                  exact AllReady.nil
                exact AllReady.nil
              exact AllReady.nil
            refine AllReady.cons rfl (fun K hK => ?_) ?_
            · go_simp
              refine hK _ _ ?_
              clear hK K
              refine wpAny_ready (rs := [4]) (by kernel_rfl) (by simp) ?_
              refine AllReady.cons rfl (fun K hK => ?_) ?_
              · go_simp
                refine hK _ _ ?_
                clear hK K
                refine wpAny_ready (rs := [7]) (by kernel_rfl) (by simp) ?_
                refine AllReady.cons rfl (fun K hK => ?_) ?_
                · (refine step_append_lies _ (by rfl) _ _ _ (by rfl) D 3 i3 _ 1 8 underlying22 hi3 hz30 hz31 hz32 rfl (by omega) (.slice an ns'.length cn) ns'.length (ns'.map (Value.int .i64)) (by rfl) (by exact HOV.out.alloc _) ⟨W4.heap.size, 0, none⟩ 1 1 ([Value.int .i64 num]) (by rfl) (by rfl) (by exact AH W4 num) (by intro u hu; rw [List.mem_singleton.1 hu]; rfl) (by omega) (by unfold maxLen; omega) (by omega) (by simp; omega) (W4.heap.size + 1) (by simp) ?_; intro gg cap2 w6 hown6 hgr6 hat hlt; have S6 := (HS6.out w6 hgr6).1; have F6 := (HS6.out w6 hgr6).2.1; have C6 := (HS6.out w6 hgr6).2.2; have HF := A0 (And.intro hown6 (And.intro hgr6 hat)); clear hown6 hgr6 hat)
                  try go_simp
                  refine hK _ _ ?_
                  clear hK K
                  refine wpAny_take (i := 8) (v := .pointer (some ⟨b, 0, none⟩)) rfl (by kernel_rfl) (by kernel_rfl) (by kernel_rfl) (fun _ _ _ h => h) (Or.inl ⟨by rfl, fun _ => by go_simp⟩) ?_
                  refine wpAny_take (i := 9) (v := .pointer (some ⟨b, 5, none⟩)) rfl (by kernel_rfl) (by kernel_rfl) (by kernel_rfl) (fun _ _ _ h => h) (Or.inl ⟨by rfl, fun _ => by go_simp⟩) ?_
                  refine wpAny_ready (rs := [10]) (by kernel_rfl) (by simp) ?_
                  refine AllReady.cons rfl (fun K hK => ?_) ?_
                  · go_simp
                    refine hK _ _ ?_
                    clear hK K
                    refine wpAny_done (by kernel_rfl) ?_ _
                    exact FIN.out _ _ _ HF
                  exact AllReady.nil
                exact AllReady.nil
              exact AllReady.nil
            exact AllReady.nil
          refine AllReady.cons rfl (fun K hK => ?_) ?_
          · go_simp
            refine hK _ _ ?_
            clear hK K
            refine wpAny_ready (rs := [1]) (by kernel_rfl) (by simp) ?_
            refine AllReady.cons rfl (fun K hK => ?_) ?_
            · go_simp
              refine hK _ _ ?_
              clear hK K
              refine wpAny_take (i := 2) (v := .pointer (some ⟨b, 0, none⟩)) rfl (by kernel_rfl) (by kernel_rfl) (by kernel_rfl) (fun _ _ _ h => h) (Or.inl ⟨by rfl, fun _ => by go_simp⟩) ?_
              refine wpAny_take (i := 3) (v := .pointer (some ⟨b, 5, none⟩)) rfl (by kernel_rfl) (by kernel_rfl) (by kernel_rfl) (fun _ _ _ h => h) (Or.inl ⟨by rfl, fun _ => by go_simp⟩) ?_
              refine wpAny_ready (rs := [4]) (by kernel_rfl) (by simp) ?_
              refine AllReady.cons rfl (fun K hK => ?_) ?_
              · go_simp
                refine hK _ _ ?_
                clear hK K
                refine wpAny_ready (rs := [7]) (by kernel_rfl) (by simp) ?_
                refine AllReady.cons rfl (fun K hK => ?_) ?_
                · (refine step_append_lies _ (by rfl) _ _ _ (by rfl) D 3 i3 _ 1 8 underlying22 hi3 hz30 hz31 hz32 rfl (by omega) (.slice an ns'.length cn) ns'.length (ns'.map (Value.int .i64)) (by rfl) (by exact HOV.out.alloc _) ⟨W4.heap.size, 0, none⟩ 1 1 ([Value.int .i64 num]) (by rfl) (by rfl) (by exact AH W4 num) (by intro u hu; rw [List.mem_singleton.1 hu]; rfl) (by omega) (by unfold maxLen; omega) (by omega) (by simp; omega) (W4.heap.size + 1) (by simp) ?_; intro gg cap2 w6 hown6 hgr6 hat hlt; have S6 := (HS6.out w6 hgr6).1; have F6 := (HS6.out w6 hgr6).2.1; have C6 := (HS6.out w6 hgr6).2.2; have HF := A0 (And.intro hown6 (And.intro hgr6 hat)); clear hown6 hgr6 hat)
                  try go_simp
                  refine hK _ _ ?_
                  clear hK K
                  refine wpAny_take (i := 8) (v := .pointer (some ⟨b, 0, none⟩)) rfl (by kernel_rfl) (by kernel_rfl) (by kernel_rfl) (fun _ _ _ h => h) (Or.inl ⟨by rfl, fun _ => by go_simp⟩) ?_
                  refine wpAny_take (i := 9) (v := .pointer (some ⟨b, 5, none⟩)) rfl (by kernel_rfl) (by kernel_rfl) (by kernel_rfl) (fun _ _ _ h => h) (Or.inl ⟨by rfl, fun _ => by go_simp⟩) ?_
                  refine wpAny_ready (rs := [10]) (by kernel_rfl) (by simp) ?_
                  refine AllReady.cons rfl (fun K hK => ?_) ?_
                  · go_simp
                    refine hK _ _ ?_
                    clear hK K
                    refine wpAny_done (by kernel_rfl) ?_ _
                    exact FIN.out _ _ _ HF
                  exact AllReady.nil
                exact AllReady.nil
              exact AllReady.nil
            exact AllReady.nil
          exact AllReady.nil
        refine AllReady.cons rfl (fun K hK => ?_) ?_
        · go_simp
          refine hK _ _ ?_
          clear hK K
          refine wpAny_take (i := 2) (v := .pointer (some ⟨b, 0, none⟩)) rfl (by kernel_rfl) (by kernel_rfl) (by kernel_rfl) (fun _ _ _ h => h) (Or.inl ⟨by rfl, fun _ => by go_simp⟩) ?_
          refine wpAny_take (i := 3) (v := .pointer (some ⟨b, 5, none⟩)) rfl (by kernel_rfl) (by kernel_rfl) (by kernel_rfl) (fun _ _ _ h => h) (Or.inl ⟨by rfl, fun _ => by go_simp⟩) ?_
          refine wpAny_ready (rs := [0, 4, 6]) (by kernel_rfl) (by simp) ?_
          refine AllReady.cons rfl (fun K hK => ?_) ?_
          · go_simp
            refine hK _ _ ?_
            clear hK K
            refine wpAny_ready (rs := [4, 6]) (by kernel_rfl) (by simp) ?_
            refine AllReady.cons rfl (fun K hK => ?_) ?_
            · go_simp
              refine hK _ _ ?_
              clear hK K
              refine wpAny_ready (rs := [6]) (by kernel_rfl) (by simp) ?_
              refine AllReady.cons rfl (fun K hK => ?_) ?_
              · go_simp
                refine hK _ _ ?_
                clear hK K
                refine wpAny_ready (rs := [7]) (by kernel_rfl) (by simp) ?_
                refine AllReady.cons rfl (fun K hK => ?_) ?_
                · (refine step_append_lies _ (by rfl) _ _ _ (by rfl) D 3 i3 _ 1 8 underlying22 hi3 hz30 hz31 hz32 rfl (by omega) (.slice an ns'.length cn) ns'.length (ns'.map (Value.int .i64)) (by rfl) (by exact HOV.out.alloc _) ⟨W4.heap.size, 0, none⟩ 1 1 ([Value.int .i64 num]) (by rfl) (by rfl) (by exact AH W4 num) (by intro u hu; rw [List.mem_singleton.1 hu]; rfl) (by omega) (by unfold maxLen; omega) (by omega) (by simp; omega) (W4.heap.size + 1) (by simp) ?_; intro gg cap2 w6 hown6 hgr6 hat hlt; have S6 := (HS6.out w6 hgr6).1; have F6 := (HS6.out w6 hgr6).2.1; have C6 := (HS6.out w6 hgr6).2.2; have HF := A0 (And.intro hown6 (And.intro hgr6 hat)); clear hown6 hgr6 hat)
                  try go_simp
                  refine hK _ _ ?_
                  clear hK K
                  refine wpAny_take (i := 8) (v := .pointer (some ⟨b, 0, none⟩)) rfl (by kernel_rfl) (by kernel_rfl) (by kernel_rfl) (fun _ _ _ h => h) (Or.inl ⟨by rfl, fun _ => by go_simp⟩) ?_
                  refine wpAny_take (i := 9) (v := .pointer (some ⟨b, 5, none⟩)) rfl (by kernel_rfl) (by kernel_rfl) (by kernel_rfl) (fun _ _ _ h => h) (Or.inl ⟨by rfl, fun _ => by go_simp⟩) ?_
                  refine wpAny_ready (rs := [10]) (by kernel_rfl) (by simp) ?_
                  refine AllReady.cons rfl (fun K hK => ?_) ?_
                  · go_simp
                    refine hK _ _ ?_
                    clear hK K
                    refine wpAny_done (by kernel_rfl) ?_ _
                    exact FIN.out _ _ _ HF
                  exact AllReady.nil
                exact AllReady.nil
              exact AllReady.nil
            refine AllReady.cons rfl (fun K hK => ?_) ?_
            · go_simp
              refine hK _ _ ?_
              clear hK K
              refine wpAny_ready (rs := [4]) (by kernel_rfl) (by simp) ?_
              refine AllReady.cons rfl (fun K hK => ?_) ?_
              · go_simp
                refine hK _ _ ?_
                clear hK K
                refine wpAny_ready (rs := [7]) (by kernel_rfl) (by simp) ?_
                refine AllReady.cons rfl (fun K hK => ?_) ?_
                · (refine step_append_lies _ (by rfl) _ _ _ (by rfl) D 3 i3 _ 1 8 underlying22 hi3 hz30 hz31 hz32 rfl (by omega) (.slice an ns'.length cn) ns'.length (ns'.map (Value.int .i64)) (by rfl) (by exact HOV.out.alloc _) ⟨W4.heap.size, 0, none⟩ 1 1 ([Value.int .i64 num]) (by rfl) (by rfl) (by exact AH W4 num) (by intro u hu; rw [List.mem_singleton.1 hu]; rfl) (by omega) (by unfold maxLen; omega) (by omega) (by simp; omega) (W4.heap.size + 1) (by simp) ?_; intro gg cap2 w6 hown6 hgr6 hat hlt; have S6 := (HS6.out w6 hgr6).1; have F6 := (HS6.out w6 hgr6).2.1; have C6 := (HS6.out w6 hgr6).2.2; have HF := A0 (And.intro hown6 (And.intro hgr6 hat)); clear hown6 hgr6 hat)
                  try go_simp
                  refine hK _ _ ?_
                  clear hK K
                  refine wpAny_take (i := 8) (v := .pointer (some ⟨b, 0, none⟩)) rfl (by kernel_rfl) (by kernel_rfl) (by kernel_rfl) (fun _ _ _ h => h) (Or.inl ⟨by rfl, fun _ => by go_simp⟩) ?_
                  refine wpAny_take (i := 9) (v := .pointer (some ⟨b, 5, none⟩)) rfl (by kernel_rfl) (by kernel_rfl) (by kernel_rfl) (fun _ _ _ h => h) (Or.inl ⟨by rfl, fun _ => by go_simp⟩) ?_
                  refine wpAny_ready (rs := [10]) (by kernel_rfl) (by simp) ?_
                  refine AllReady.cons rfl (fun K hK => ?_) ?_
                  · go_simp
                    refine hK _ _ ?_
                    clear hK K
                    refine wpAny_done (by kernel_rfl) ?_ _
                    exact FIN.out _ _ _ HF
                  exact AllReady.nil
                exact AllReady.nil
              exact AllReady.nil
            exact AllReady.nil
          refine AllReady.cons rfl (fun K hK => ?_) ?_
          · go_simp
            refine hK _ _ ?_
            clear hK K
            refine wpAny_ready (rs := [0, 6]) (by kernel_rfl) (by simp) ?_
            refine AllReady.cons rfl (fun K hK => ?_) ?_
            · go_simp
              refine hK _ _ ?_
              clear hK K
              refine wpAny_ready (rs := [6]) (by kernel_rfl) (by simp) ?_
              refine AllReady.cons rfl (fun K hK => ?_) ?_
              · go_simp
                refine hK _ _ ?_
                clear hK K
                refine wpAny_ready (rs := [7]) (by kernel_rfl) (by simp) ?_
                refine AllReady.cons rfl (fun K hK => ?_) ?_
                · (refine step_append_lies _ (by rfl) _ _ _ (by rfl) D 3 i3 _ 1 8 underlying22 hi3 hz30 hz31 hz32 rfl (by omega) (.slice an ns'.length cn) ns'.length (ns'.map (Value.int .i64)) (by rfl) (by exact HOV.out.alloc _) ⟨W4.heap.size, 0, none⟩ 1 1 ([Value.int .i64 num]) (by rfl) (by rfl) (by exact AH W4 num) (by intro u hu; rw [List.mem_singleton.1 hu]; rfl) (by omega) (by unfold maxLen; omega) (by omega) (by simp; omega) (W4.heap.size + 1) (by simp) ?_; intro gg cap2 w6 hown6 hgr6 hat hlt; have S6 := (HS6.out w6 hgr6).1; have F6 := (HS6.out w6 hgr6).2.1; have C6 := (HS6.out w6 hgr6).2.2; have HF := A0 (And.intro hown6 (And.intro hgr6 hat)); clear hown6 hgr6 hat)
                  try go_simp
                  refine hK _ _ ?_
                  clear hK K
                  refine wpAny_take (i := 8) (v := .pointer (some ⟨b, 0, none⟩)) rfl (by kernel_rfl) (by kernel_rfl) (by kernel_rfl) (fun _ _ _ h => h) (Or.inl ⟨by rfl, fun _ => by go_simp⟩) ?_
                  refine wpAny_take (i := 9) (v := .pointer (some ⟨b, 5, none⟩)) rfl (by kernel_rfl) (by kernel_rfl) (by kernel_rfl) (fun _ _ _ h => h) (Or.inl ⟨by rfl, fun _ => by go_simp⟩) ?_
                  refine wpAny_ready (rs := [10]) (by kernel_rfl) (by simp) ?_
                  refine AllReady.cons rfl (fun K hK => ?_) ?_
                  · go_simp
                    refine hK _ _ ?_
                    clear hK K
                    refine wpAny_done (by kernel_rfl) ?_ _
                    exact FIN.out _ _ _ HF
                  exact AllReady.nil
                exact AllReady.nil
              exact AllReady.nil
            refine AllReady.cons rfl (fun K hK => ?_) ?_
            · go_simp
              refine hK _ _ ?_
              clear hK K
              refine wpAny_ready (rs := [0, 7]) (by kernel_rfl) (by simp) ?_
              refine AllReady.cons rfl (fun K hK => ?_) ?_
              · go_simp
                refine hK _ _ ?_
                clear hK K
                refine wpAny_ready (rs := [7]) (by kernel_rfl) (by simp) ?_
                refine AllReady.cons rfl (fun K hK => ?_) ?_
                · (refine step_append_lies _ (by rfl) _ _ _ (by rfl) D 3 i3 _ 1 8 underlying22 hi3 hz30 hz31 hz32 rfl (by omega) (.slice an ns'.length cn) ns'.length (ns'.map (Value.int .i64)) (by rfl) (by exact HOV.out.alloc _) ⟨W4.heap.size, 0, none⟩ 1 1 ([Value.int .i64 num]) (by rfl) (by rfl) (by exact AH W4 num) (by intro u hu; rw [List.mem_singleton.1 hu]; rfl) (by omega) (by unfold maxLen; omega) (by omega) (by simp; omega) (W4.heap.size + 1) (by simp) ?_; intro gg cap2 w6 hown6 hgr6 hat hlt; have S6 := (HS6.out w6 hgr6).1; have F6 := (HS6.out w6 hgr6).2.1; have C6 := (HS6.out w6 hgr6).2.2; have HF := A0 (And.intro hown6 (And.intro hgr6 hat)); clear hown6 hgr6 hat)
                  try go_simp
                  refine hK _ _ ?_
                  clear hK K
                  refine wpAny_take (i := 8) (v := .pointer (some ⟨b, 0, none⟩)) rfl (by kernel_rfl) (by kernel_rfl) (by kernel_rfl) (fun _ _ _ h => h) (Or.inl ⟨by rfl, fun _ => by go_simp⟩) ?_
                  refine wpAny_take (i := 9) (v := .pointer (some ⟨b, 5, none⟩)) rfl (by kernel_rfl) (by kernel_rfl) (by kernel_rfl) (fun _ _ _ h => h) (Or.inl ⟨by rfl, fun _ => by go_simp⟩) ?_
                  refine wpAny_ready (rs := [10]) (by kernel_rfl) (by simp) ?_
                  refine AllReady.cons rfl (fun K hK => ?_) ?_
                  · go_simp
                    refine hK _ _ ?_
                    clear hK K
                    refine wpAny_done (by kernel_rfl) ?_ _
                    exact FIN.out _ _ _ HF
                  exact AllReady.nil
                exact AllReady.nil
              refine AllReady.cons rfl (fun K hK => ?_) ?_
              · (refine step_append_lies _ (by rfl) _ _ _ (by rfl) D 3 i3 _ 1 8 underlying22 hi3 hz30 hz31 hz32 rfl (by omega) (.slice an ns'.length cn) ns'.length (ns'.map (Value.int .i64)) (by rfl) (by exact HOV.out.alloc _) ⟨W4.heap.size, 0, none⟩ 1 1 ([Value.int .i64 num]) (by rfl) (by rfl) (by exact AH W4 num) (by intro u hu; rw [List.mem_singleton.1 hu]; rfl) (by omega) (by unfold maxLen; omega) (by omega) (by simp; omega) (W4.heap.size + 1) (by simp) ?_; intro gg cap2 w6 hown6 hgr6 hat hlt; have S6 := (HS6.out w6 hgr6).1; have F6 := (HS6.out w6 hgr6).2.1; have C6 := (HS6.out w6 hgr6).2.2; have HF := A0 (And.intro hown6 (And.intro hgr6 hat)); clear hown6 hgr6 hat)
                try go_simp
                refine hK _ _ ?_
                clear hK K
                refine wpAny_ready (rs := [0]) (by kernel_rfl) (by simp) ?_
                refine AllReady.cons rfl (fun K hK => ?_) ?_
                · go_simp
                  refine hK _ _ ?_
                  clear hK K
                  refine wpAny_take (i := 8) (v := .pointer (some ⟨b, 0, none⟩)) rfl (by kernel_rfl) (by kernel_rfl) (by kernel_rfl) (fun _ _ _ h => h) (Or.inl ⟨by rfl, fun _ => by go_simp⟩) ?_
                  refine wpAny_take (i := 9) (v := .pointer (some ⟨b, 5, none⟩)) rfl (by kernel_rfl) (by kernel_rfl) (by kernel_rfl) (fun _ _ _ h => h) (Or.inl ⟨by rfl, fun _ => by go_simp⟩) ?_
                  refine wpAny_ready (rs := [10]) (by kernel_rfl) (by simp) ?_
                  refine AllReady.cons rfl (fun K hK => ?_) ?_
                  · go_simp
                    refine hK _ _ ?_
                    clear hK K
                    refine wpAny_done (by kernel_rfl) ?_ _
                    exact FIN.out _ _ _ HF
                  exact AllReady.nil
                exact AllReady.nil
              exact AllReady.nil
            exact AllReady.nil
          refine AllReady.cons rfl (fun K hK => ?_) ?_
          · go_simp
            refine hK _ _ ?_
            clear hK K
            refine wpAny_ready (rs := [0, 4]) (by kernel_rfl) (by simp) ?_
            refine AllReady.cons rfl (fun K hK => ?_) ?_
            · go_simp
              refine hK _ _ ?_
              clear hK K
              refine wpAny_ready (rs := [4]) (by kernel_rfl) (by simp) ?_
              refine AllReady.cons rfl (fun K hK => ?_) ?_
              · go_simp
                refine hK _ _ ?_
                clear hK K
                refine wpAny_ready (rs := [7]) (by kernel_rfl) (by simp) ?_
                refine AllReady.cons rfl (fun K hK => ?_) ?_
                · (refine step_append_lies _ (by rfl) _ _ _ (by rfl) D 3 i3 _ 1 8 underlying22 hi3 hz30 hz31 hz32 rfl (by omega) (.slice an ns'.length cn) ns'.length (ns'.map (Value.int .i64)) (by rfl) (by exact HOV.out.alloc _) ⟨W4.heap.size, 0, none⟩ 1 1 ([Value.int .i64 num]) (by rfl) (by rfl) (by exact AH W4 num) (by intro u hu; rw [List.mem_singleton.1 hu]; rfl) (by omega) (by unfold maxLen; omega) (by omega) (by simp; omega) (W4.heap.size + 1) (by simp) ?_; intro gg cap2 w6 hown6 hgr6 hat hlt; have S6 := (HS6.out w6 hgr6).1; have F6 := (HS6.out w6 hgr6).2.1; have C6 := (HS6.out w6 hgr6).2.2; have HF := A0 (And.intro hown6 (And.intro hgr6 hat)); clear hown6 hgr6 hat)
                  try go_simp
                  refine hK _ _ ?_
                  clear hK K
                  refine wpAny_take (i := 8) (v := .pointer (some ⟨b, 0, none⟩)) rfl (by kernel_rfl) (by kernel_rfl) (by kernel_rfl) (fun _ _ _ h => h) (Or.inl ⟨by rfl, fun _ => by go_simp⟩) ?_
                  refine wpAny_take (i := 9) (v := .pointer (some ⟨b, 5, none⟩)) rfl (by kernel_rfl) (by kernel_rfl) (by kernel_rfl) (fun _ _ _ h => h) (Or.inl ⟨by rfl, fun _ => by go_simp⟩) ?_
                  refine wpAny_ready (rs := [10]) (by kernel_rfl) (by simp) ?_
                  refine AllReady.cons rfl (fun K hK => ?_) ?_
                  · go_simp
                    refine hK _ _ ?_
                    clear hK K
                    refine wpAny_done (by kernel_rfl) ?_ _
                    exact FIN.out _ _ _ HF
                  exact AllReady.nil
                exact AllReady.nil
              exact AllReady.nil
            refine AllReady.cons rfl (fun K hK => ?_) ?_
            · go_simp
              refine hK _ _ ?_
              clear hK K
              refine wpAny_ready (rs := [0, 7]) (by kernel_rfl) (by simp) ?_
              refine AllReady.cons rfl (fun K hK => ?_) ?_
              · go_simp
                refine hK _ _ ?_
                clear hK K
                refine wpAny_ready (rs := [7]) (by kernel_rfl) (by simp) ?_
                refine AllReady.cons rfl (fun K hK => ?_) ?_
                · (refine step_append_lies _ (by rfl) _ _ _ (by rfl) D 3 i3 _ 1 8 underlying22 hi3 hz30 hz31 hz32 rfl (by omega) (.slice an ns'.length cn) ns'.length (ns'.map (Value.int .i64)) (by rfl) (by exact HOV.out.alloc _) ⟨W4.heap.size, 0, none⟩ 1 1 ([Value.int .i64 num]) (by rfl) (by rfl) (by exact AH W4 num) (by intro u hu; rw [List.mem_singleton.1 hu]; rfl) (by omega) (by unfold maxLen; omega) (by omega) (by simp; omega) (W4.heap.size + 1) (by simp) ?_; intro gg cap2 w6 hown6 hgr6 hat hlt; have S6 := (HS6.out w6 hgr6).1; have F6 := (HS6.out w6 hgr6).2.1; have C6 := (HS6.out w6 hgr6).2.2; have HF := A0 (And.intro hown6 (And.intro hgr6 hat)); clear hown6 hgr6 hat)
                  try go_simp
                  refine hK _ _ ?_
                  clear hK K
                  refine wpAny_take (i := 8) (v := .pointer (some ⟨b, 0, none⟩)) rfl (by kernel_rfl) (by kernel_rfl) (by kernel_rfl) (fun _ _ _ h => h) (Or.inl ⟨by rfl, fun _ => by go_simp⟩) ?_
                  refine wpAny_take (i := 9) (v := .pointer (some ⟨b, 5, none⟩)) rfl (by kernel_rfl) (by kernel_rfl) (by kernel_rfl) (fun _ _ _ h => h) (Or.inl ⟨by rfl, fun _ => by go_simp⟩) ?_
                  refine wpAny_ready (rs := [10]) (by kernel_rfl) (by simp) ?_
                  refine AllReady.cons rfl (fun K hK => ?_) ?_
                  · go_simp
                    refine hK _ _ ?_
                    clear hK K
                    refine wpAny_done (by kernel_rfl) ?_ _
                    exact FIN.out _ _ _ HF
                  exact AllReady.nil
                exact AllReady.nil
              refine AllReady.cons rfl (fun K hK => ?_) ?_
              · (refine step_append_lies _ (by rfl) _ _ _ (by rfl) D 3 i3 _ 1 8 underlying22 hi3 hz30 hz31 hz32 rfl (by omega) (.slice an ns'.length cn) ns'.length (ns'.map (Value.int .i64)) (by rfl) (by exact HOV.out.alloc _) ⟨W4.heap.size, 0, none⟩ 1 1 ([Value.int .i64 num]) (by rfl) (by rfl) (by exact AH W4 num) (by intro u hu; rw [List.mem_singleton.1 hu]; rfl) (by omega) (by unfold maxLen; omega) (by omega) (by simp; omega) (W4.heap.size + 1) (by simp) ?_; intro gg cap2 w6 hown6 hgr6 hat hlt; have S6 := (HS6.out w6 hgr6).1; have F6 := (HS6.out w6 hgr6).2.1; have C6 := (HS6.out w6 hgr6).2.2; have HF := A0 (And.intro hown6 (And.intro hgr6 hat)); clear hown6 hgr6 hat)
                try go_simp
                refine hK _ _ ?_
                clear hK K
                refine wpAny_ready (rs := [0]) (by kernel_rfl) (by simp) ?_
                refine AllReady.cons rfl (fun K hK => ?_) ?_
                · go_simp
                  refine hK _ _ ?_
                  clear hK K
                  refine wpAny_take (i := 8) (v := .pointer (some ⟨b, 0, none⟩)) rfl (by kernel_rfl) (by kernel_rfl) (by kernel_rfl) (fun _ _ _ h => h) (Or.inl ⟨by rfl, fun _ => by go_simp⟩) ?_
                  refine wpAny_take (i := 9) (v := .pointer (some ⟨b, 5, none⟩)) rfl (by kernel_rfl) (by kernel_rfl) (by kernel_rfl) (fun _ _ _ h => h) (Or.inl ⟨by rfl, fun _ => by go_simp⟩) ?_
                  refine wpAny_ready (rs := [10]) (by kernel_rfl) (by simp) ?_
                  refine AllReady.cons rfl (fun K hK => ?_) ?_
                  · go_simp
                    refine hK _ _ ?_
                    clear hK K
                    refine wpAny_done (by kernel_rfl) ?_ _
                    exact FIN.out _ _ _ HF
                  exact AllReady.nil
                exact AllReady.nil
              exact AllReady.nil
            exact AllReady.nil
          exact AllReady.nil
        refine AllReady.cons rfl (fun K hK => ?_) ?_
        · go_simp
          refine hK _ _ ?_
          clear hK K
          refine wpAny_ready (rs := [0, 1]) (by kernel_rfl) (by simp) ?_
          refine AllReady.cons rfl (fun K hK => ?_) ?_
          · go_simp
            refine hK _ _ ?_
            clear hK K
            refine wpAny_ready (rs := [1]) (by kernel_rfl) (by simp) ?_
            refine AllReady.cons rfl (fun K hK => ?_) ?_
            · go_simp
              refine hK _ _ ?_
              clear hK K
              refine wpAny_take (i := 2) (v := .pointer (some ⟨b, 0, none⟩)) rfl (by kernel_rfl) (by kernel_rfl) (by kernel_rfl) (fun _ _ _ h => h) (Or.inl ⟨by rfl, fun _ => by go_simp⟩) ?_
              refine wpAny_take (i := 3) (v := .pointer (some ⟨b, 5, none⟩)) rfl (by kernel_rfl) (by kernel_rfl) (by kernel_rfl) (fun _ _ _ h => h) (Or.inl ⟨by rfl, fun _ => by go_simp⟩) ?_
              refine wpAny_ready (rs := [4]) (by kernel_rfl) (by simp) ?_
              refine AllReady.cons rfl (fun K hK => ?_) ?_
              · go_simp
                refine hK _ _ ?_
                clear hK K
                refine wpAny_ready (rs := [7]) (by kernel_rfl) (by simp) ?_
                refine AllReady.cons rfl (fun K hK => ?_) ?_
                · (refine step_append_lies _ (by rfl) _ _ _ (by rfl) D 3 i3 _ 1 8 underlying22 hi3 hz30 hz31 hz32 rfl (by omega) (.slice an ns'.length cn) ns'.length (ns'.map (Value.int .i64)) (by rfl) (by exact HOV.out.alloc _) ⟨W4.heap.size, 0, none⟩ 1 1 ([Value.int .i64 num]) (by rfl) (by rfl) (by exact AH W4 num) (by intro u hu; rw [List.mem_singleton.1 hu]; rfl) (by omega) (by unfold maxLen; omega) (by omega) (by simp; omega) (W4.heap.size + 1) (by simp) ?_; intro gg cap2 w6 hown6 hgr6 hat hlt; have S6 := (HS6.out w6 hgr6).1; have F6 := (HS6.out w6 hgr6).2.1; have C6 := (HS6.out w6 hgr6).2.2; have HF := A0 (And.intro hown6 (And.intro hgr6 hat)); clear hown6 hgr6 hat)
                  try go_simp
                  refine hK _ _ ?_
                  clear hK K
                  refine wpAny_take (i := 8) (v := .pointer (some ⟨b, 0, none⟩)) rfl (by kernel_rfl) (by kernel_rfl) (by kernel_rfl) (fun _ _ _ h => h) (Or.inl ⟨by rfl, fun _ => by go_simp⟩) ?_
                  refine wpAny_take (i := 9) (v := .pointer (some ⟨b, 5, none⟩)) rfl (by kernel_rfl) (by kernel_rfl) (by kernel_rfl) (fun _ _ _ h => h) (Or.inl ⟨by rfl, fun _ => by go_simp⟩) ?_
                  refine wpAny_ready (rs := [10]) (by kernel_rfl) (by simp) ?_
                  refine AllReady.cons rfl (fun K hK => ?_) ?_
                  · go_simp
                    refine hK _ _ ?_
                    clear hK K
                    refine wpAny_done (by kernel_rfl) ?_ _
                    exact FIN.out _ _ _ HF
                  exact AllReady.nil
                exact AllReady.nil
              exact AllReady.nil
            exact AllReady.nil
          refine AllReady.cons rfl (fun K hK => ?_) ?_
          · go_simp
            refine hK _ _ ?_
            clear hK K
            refine wpAny_take (i := 2) (v := .pointer (some ⟨b, 0, none⟩)) rfl (by kernel_rfl) (by kernel_rfl) (by kernel_rfl) (fun _ _ _ h => h) (Or.inl ⟨by rfl, fun _ => by go_simp⟩) ?_
            refine wpAny_take (i := 3) (v := .pointer (some ⟨b, 5, none⟩)) rfl (by kernel_rfl) (by kernel_rfl) (by kernel_rfl) (fun _ _ _ h => h) (Or.inl ⟨by rfl, fun _ => by go_simp⟩) ?_
            refine wpAny_ready (rs := [0, 4]) (by kernel_rfl) (by simp) ?_
            refine AllReady.cons rfl (fun K hK => ?_) ?_
            · go_simp
              refine hK _ _ ?_
              clear hK K
              refine wpAny_ready (rs := [4]) (by kernel_rfl) (by simp) ?_
              refine AllReady.cons rfl (fun K hK => ?_) ?_
              · go_simp
                refine hK _ _ ?_
                clear hK K
                refine wpAny_ready (rs := [7]) (by kernel_rfl) (by simp) ?_
                refine AllReady.cons rfl (fun K hK => ?_) ?_
                · (refine step_append_lies _ (by rfl) _ _ _ (by rfl) D 3 i3 _ 1 8 underlying22 hi3 hz30 hz31 hz32 rfl (by omega) (.slice an ns'.length cn) ns'.length (ns'.map (Value.int .i64)) (by rfl) (by exact HOV.out.alloc _) ⟨W4.heap.size, 0, none⟩ 1 1 ([Value.int .i64 num]) (by rfl) (by rfl) (by exact AH W4 num) (by intro u hu; rw [List.mem_singleton.1 hu]; rfl) (by omega) (by unfold maxLen; omega) (by omega) (by simp; omega) (W4.heap.size + 1) (by simp) ?_; intro gg cap2 w6 hown6 hgr6 hat hlt; have S6 := (HS6.out w6 hgr6).1; have F6 := (HS6.out w6 hgr6).2.1; have C6 := (HS6.out w6 hgr6).2.2; have HF := A0 (And.intro hown6 (And.intro hgr6 hat)); clear hown6 hgr6 hat)
                  try go_simp
                  refine hK _ _ ?_
                  clear hK K
                  refine wpAny_take (i := 8) (v := .pointer (some ⟨b, 0, none⟩)) rfl (by kernel_rfl) (by kernel_rfl) (by kernel_rfl) (fun _ _ _ h => h) (Or.inl ⟨by rfl, fun _ => by go_simp⟩) ?_
                  refine wpAny_take (i := 9) (v := .pointer (some ⟨b, 5, none⟩)) rfl (by kernel_rfl) (by kernel_rfl) (by kernel_rfl) (fun _ _ _ h => h) (Or.inl ⟨by rfl, fun _ => by go_simp⟩) ?_
                  refine wpAny_ready (rs := [10]) (by kernel_rfl) (by simp) ?_
                  refine AllReady.cons rfl (fun K hK => ?_) ?_
                  · go_simp
                    refine hK _ _ ?_
                    clear hK K
                    refine wpAny_done (by kernel_rfl) ?_ _
                    exact FIN.out _ _ _ HF
                  exact AllReady.nil
                exact AllReady.nil
              exact AllReady.nil
            refine AllReady.cons rfl (fun K hK => ?_) ?_
            · go_simp
              refine hK _ _ ?_
              clear hK K
              refine wpAny_ready (rs := [0, 7]) (by kernel_rfl) (by simp) ?_
              refine AllReady.cons rfl (fun K hK => ?_) ?_
              · go_simp
                refine hK _ _ ?_
                clear hK K
                refine wpAny_ready (rs := [7]) (by kernel_rfl) (by simp) ?_
                refine AllReady.cons rfl (fun K hK => ?_) ?_
                · (refine step_append_lies _ (by rfl) _ _ _ (by rfl) D 3 i3 _ 1 8 underlying22 hi3 hz30 hz31 hz32 rfl (by omega) (.slice an ns'.length cn) ns'.length (ns'.map (Value.int .i64)) (by rfl) (by exact HOV.out.alloc _) ⟨W4.heap.size, 0, none⟩ 1 1 ([Value.int .i64 num]) (by rfl) (by rfl) (by exact AH W4 num) (by intro u hu; rw [List.mem_singleton.1 hu]; rfl) (by omega) (by unfold maxLen; omega) (by omega) (by simp; omega) (W4.heap.size + 1) (by simp) ?_; intro gg cap2 w6 hown6 hgr6 hat hlt; have S6 := (HS6.out w6 hgr6).1; have F6 := (HS6.out w6 hgr6).2.1; have C6 := (HS6.out w6 hgr6).2.2; have HF := A0 (And.intro hown6 (And.intro hgr6 hat)); clear hown6 hgr6 hat)
                  try go_simp
                  refine hK _ _ ?_
                  clear hK K
                  refine wpAny_take (i := 8) (v := .pointer (some ⟨b, 0, none⟩)) rfl (by kernel_rfl) (by kernel_rfl) (by kernel_rfl) (fun _ _ _ h => h) (Or.inl ⟨by rfl, fun _ => by go_simp⟩) ?_
                  refine wpAny_take (i := 9) (v := .pointer (some ⟨b, 5, none⟩)) rfl (by kernel_rfl) (by kernel_rfl) (by kernel_rfl) (fun _ _ _ h => h) (Or.inl ⟨by rfl, fun _ => by go_simp⟩) ?_
                  refine wpAny_ready (rs := [10]) (by kernel_rfl) (by simp) ?_
                  refine AllReady.cons rfl (fun K hK => ?_) ?_
                  · go_simp
                    refine hK _ _ ?_
                    clear hK K
                    refine wpAny_done (by kernel_rfl) ?_ _
                    exact FIN.out _ _ _ HF
                  exact AllReady.nil
                exact AllReady.nil
              refine AllReady.cons rfl (fun K hK => ?_) ?_
              · (refine step_append_lies _ (by rfl) _ _ _ (by rfl) D 3 i3 _ 1 8 underlying22 hi3 hz30 hz31 hz32 rfl (by omega) (.slice an ns'.length cn) ns'.length (ns'.map (Value.int .i64)) (by rfl) (by exact HOV.out.alloc _) ⟨W4.heap.size, 0, none⟩ 1 1 ([Value.int .i64 num]) (by rfl) (by rfl) (by exact AH W4 num) (by intro u hu; rw [List.mem_singleton.1 hu]; rfl) (by omega) (by unfold maxLen; omega) (by omega) (by simp; omega) (W4.heap.size + 1) (by simp) ?_; intro gg cap2 w6 hown6 hgr6 hat hlt; have S6 := (HS6.out w6 hgr6).1; have F6 := (HS6.out w6 hgr6).2.1; have C6 := (HS6.out w6 hgr6).2.2; have HF := A0 (And.intro hown6 (And.intro hgr6 hat)); clear hown6 hgr6 hat)
                try go_simp
                refine hK _ _ ?_
                clear hK K
                refine wpAny_ready (rs := [0]) (by kernel_rfl) (by simp) ?_
                refine AllReady.cons rfl (fun K hK => ?_) ?_
                · go_simp
                  refine hK _ _ ?_
                  clear hK K
                  refine wpAny_take (i := 8) (v := .pointer (some ⟨b, 0, none⟩)) rfl (by kernel_rfl) (by kernel_rfl) (by kernel_rfl) (fun _ _ _ h => h) (Or.inl ⟨by rfl, fun _ => by go_simp⟩) ?_
                  refine wpAny_take (i := 9) (v := .pointer (some ⟨b, 5, none⟩)) rfl (by kernel_rfl) (by kernel_rfl) (by kernel_rfl) (fun _ _ _ h => h) (Or.inl ⟨by rfl, fun _ => by go_simp⟩) ?_
                  refine wpAny_ready (rs := [10]) (by kernel_rfl) (by simp) ?_
                  refine AllReady.cons rfl (fun K hK => ?_) ?_
                  · go_simp
                    refine hK _ _ ?_
                    clear hK K
                    refine wpAny_done (by kernel_rfl) ?_ _
                    exact FIN.out _ _ _ HF
                  exact AllReady.nil
                exact AllReady.nil
              exact AllReady.nil
            exact AllReady.nil
          exact AllReady.nil
        exact AllReady.nil
    · have HRB := A0 (A3 HK.out.rb HM.out.2)
      have y5 : W4.cell? ⟨w.heap.size + 1, 0, none⟩ = some (.int .i64 0) := A1 HRB.out rfl
      have f5 : W4.frozen? ⟨w.heap.size + 1, 0, none⟩ = false := A4 HRB.out
      have HFX : Hid (OH w D b bm kv x (.func (.func 69) #[] #[.pointer (some ⟨b1, 0, none⟩), .pointer (some ⟨b2, 0, none⟩)]) bud (decide (65536 < es.length)) ve ps es T er vp' vn' ps' ns' (W4.setCell ⟨w.heap.size + 1, 0, none⟩ (.int .i64 er)) ∧ (W4.setCell ⟨w.heap.size + 1, 0, none⟩ (.int .i64 er)).heap[x + 2]? = W.heap[x + 2]? ∧ (W4.setCell ⟨w.heap.size + 1, 0, none⟩ (.int .i64 er)).heap[x + 2 + 1]? = W.heap[x + 2 + 1]?) := A0 (by
       have o := Ah W4 (w.heap.size + 1) 0 (.int .i64 er)
       have d := HM.out.2
       have hL := HL.out
       have sz := d.size
       have kl := HK.out.kl
       refine ⟨⟨HK.out.eq.trans (by rw [HTd.out]; exact HM.out.1 _), her, (HK.out.ss.on d).onlyR o (by omega) (by omega) (fun k hk e => ?_) (fun k hk e => ?_) (fun k hk e => ?_), heap_setCell_same W4 _ 0 _ 30 _ HRB.out, (HK.out.on.trans (Ab.ofBelow d)).trans (o.mono (fun k _ e => .inr (.inr (by omega)))), HK.out.ap, HK.out.an, HK.out.ae, HK.out.pl, HK.out.kl⟩, (o.block _ (by omega) (by omega)).trans (d.block _ (by omega)), (o.block _ (by omega) (by omega)).trans (d.block _ (by omega))⟩
       · have := HK.out.ap k hk; omega
       · have := HK.out.ae k hk; omega
       · have := HK.out.an k hk; omega)
      clear TMe y0 y1 y2
      rcases her with rfl | rfl
      all_goals
       gi_wp2
       exact ⟨⟨by rw [HZ3.out]; exact HFX.out.2.1, by rw [HZ3.out]; exact HFX.out.2.2⟩, _, _, _, _, _, HFX.out.1⟩
   case done =>
    rintro D' W hD' ⟨vp', vn', ps', ns', HK0⟩ hq
    have hTl : (T.map GV).length = T.length := by simp
    rw [hTl] at HK0
    have HK := A0 HK0
    have hnl := HNL.out T.length ps' ns' (Nat.le_refl _) HK0
    have hsW := HK0.on.size
    obtain ⟨ae, ce, hve⟩ := A8 HK0.ss.eo
    obtain ⟨an, cn, hvn⟩ := A8 HK0.ss.no
    have HV := A0 (And.intro hve hvn)
    have y0 : W.cell? ⟨w.heap.size, 0, none⟩ = some (.pointer (some ⟨b, 0, none⟩)) := A1 HK0.sb rfl
    have y4 : W.cell? ⟨b, 4, none⟩ = some (.slice ae es.length ce) := by rw [← hve]; exact A1 HK0.ss.bx rfl
    have y5 : W.cell? ⟨b, 5, none⟩ = some (.slice an ns'.length cn) := by rw [← hvn]; exact A1 HK0.ss.bx rfl
    have f4 : W.frozen? ⟨b, 4, none⟩ = false := A4 HK0.ss.bx
    have dd : Below W.heap.size W W.drew := (Below.refl _ _).drew
    have TL := IK W.drew D (.slice ae es.length ce) (.slice an ns'.length cn) es (i : Int) (s : Int) ns'.length ns' rfl (A0 (by rw [← hve]; exact (HK0.ss.on dd).eo)) (A0 (by rw [← hvn]; exact (HK0.ss.on dd).no)) (by have := hsW; exact Nat.le_trans hDo.2.2 this) (by omega) (by omega)
    have HP5 := A0 (fun (w5 : World) (o : Ab W.drew w5 (fun k => (Value.slice ae es.length ce).ownBlock = some k ∨ (Value.slice an ns'.length cn).ownBlock = some k)) => show w5.cell? ⟨w.heap.size, 0, none⟩ = some (.pointer (some ⟨b, 0, none⟩)) ∧ w5.frozen? ⟨b, 4, none⟩ = false ∧ w5.cell? ⟨b, 4, none⟩ = some (.slice ae es.length ce) by
     rw [← HV.out.1, ← HV.out.2] at o
     have q1 := o.cellK (o := .cells _ 71 (0, 0)) HK.out.ss.bx (fun e => by
      rcases e with e | e
      · have := (HK.out.ss.eo.lt _ e).1; omega
      · have := (HK.out.ss.no.lt _ e).1; omega)
     have q2 := o.cellK (o := .cells _ 94 (0, 0)) HK.out.sb (fun e => by
      rcases e with e | e
      · have := HK.out.ae _ e; omega
      · have := HK.out.an _ e; omega)
     exact ⟨A1 q2 rfl, A4 q1, by rw [← HV.out.1]; exact A1 q1 rfl⟩)
    have HQ := A0 hq
    clear HK0 hve hvn hq
    go_upto_region 9 with fail
    go_cut [6] from 54 to 67 (fun v6 W8 => v6 = .pointer (some ⟨w.heap.size + 1, 0, none⟩) ∧ ∃ v8 x8, Hid (SS D W8 b bm (.func (.func 69) #[] #[.pointer (some ⟨b1, 0, none⟩), .pointer (some ⟨b2, 0, none⟩)]) bud vp' v8 vn' ps' (Bm es (i : Int) (s : Int) (A5 ns')) ns'.length x8 ∧ W8.heap[w.heap.size + 1]? = some (.cells #[.int .i64 0] 30 (0, 0)) ∧ Ab w W8 (fun k => k = b ∨ k = bm ∨ (D ≤ k ∧ k ≠ kv)) ∧ W8.heap[D']? = some (.deferred (some [])) ∧ ∀ k, v8.ownBlock = some k → k ≠ kv))
    case first =>
     refine Ir ?_
     go_region_with (go_at_call 75; refine TL.mono ?_; rintro e w5 ⟨v5, rfl, H5⟩; obtain ⟨a5, k5, rfl⟩ := A8 H5.out.1; have z0 := (HP5.out w5 H5.out.2.2.1).1; have z1 := (HP5.out w5 H5.out.2.2.1).2.1; have z2' := (HP5.out w5 H5.out.2.2.1).2.2)
     all_goals
      refine Ij ?_
      first | (go_wp2_with fail; go_meet) | go_meet
      obtain ⟨r1, ⟨x8, r2⟩, r3, r4⟩ := H5.out
      rw [← HV.out.1, ← HV.out.2] at r3
      rw [← HV.out.1] at r4
      rw [← HV.out.2] at r2
      obtain ⟨s8, o8⟩ := (HK.out.ss.on (Below.refl _ W).drew).edges hDo.1 r3 r1 r2
      have oW : Ab W W.drew (fun k => k = b ∨ ve.ownBlock = some k ∨ vn'.ownBlock = some k) := Ab.ofBelow (Below.refl _ W).drew
      have o9 := oW.trans o8
      exact ⟨rfl, _, x8, A0 (LD HK.out hx hDo s8 o9 HQ.out r4)⟩
    case rest =>
     obtain ⟨rfl, v8, x8, H8⟩ := hcut
     rename World => w8
     have y6 : w8.cell? ⟨w.heap.size + 1, 0, none⟩ = some (.int .i64 0) := A1 H8.out.2.1 rfl
     have f6 : w8.frozen? ⟨w.heap.size + 1, 0, none⟩ = false := A4 H8.out.2.1
     have HO : Ab w8 ((w8.setCell ⟨w.heap.size + 1, 0, none⟩ (.int .i64 0)).putObj D' (.deferred none)) (fun k => k = w.heap.size + 1 ∨ k = D') := ((Ah w8 _ 0 _).mono (fun k _ e => .inl e)).trans ((AI _ _ _).mono (fun k _ e => .inr e))
     have hne : D' ≠ w.heap.size + 1 := fun e => by have := H8.out.2.2.2.1; rw [e, H8.out.2.1] at this; cases this
     have hq9 : (w8.setCell ⟨w.heap.size + 1, 0, none⟩ (.int .i64 0)).heap[D']? = some (.deferred (some [])) := (Ah w8 _ 0 _).cellK H8.out.2.2.2.1 hne
     have hr9 : (w8.setCell ⟨w.heap.size + 1, 0, none⟩ (.int .i64 0)).heap[w.heap.size + 1]? = some (.cells #[.int .i64 0] 30 (0, 0)) := by have := heap_setCell_same w8 (w.heap.size + 1) 0 _ 30 (.int .i64 0) H8.out.2.1; simpa using this
     have c9 : ((w8.setCell ⟨w.heap.size + 1, 0, none⟩ (.int .i64 0)).putObj D' (.deferred none)).cell? ⟨w.heap.size + 1, 0, none⟩ = some (.int .i64 0) := A1 ((AI _ _ _).cellK hr9 (fun e => hne e.symm)) rfl
     have HF : Hid (PA w D b bm kv (.func (.func 69) #[] #[.pointer (some ⟨b1, 0, none⟩), .pointer (some ⟨b2, 0, none⟩)]) bud ps es T i s 0 vp' v8 vn' ps' ns' ns'.length x8 ((w8.setCell ⟨w.heap.size + 1, 0, none⟩ (.int .i64 0)).putObj D' (.deferred none))) := A0 (by
      have kl := HK.out.kl
      refine ⟨HK.out.eq.trans (by rw [List.drop_length]; rfl), ?_, H8.out.2.2.1.trans (HO.mono (fun k _ e => .inr (.inr (by omega)))), HK.out.pl, fun _ => hnl, fun k hk => (HK.out.ap k hk).2, H8.out.2.2.2.2, fun k hk => (HK.out.an k hk).2⟩
      rw [if_pos rfl]
      refine Hw (H8.out.1.onlyR (Ah w8 (w.heap.size + 1) 0 (.int .i64 0)) (by omega) (by omega) (fun k hk e => ?_) (fun k hk e => ?_) (fun k hk e => ?_)) (AI _ _ _) hq9
      · have := HK.out.ap k hk; omega
      · have q9 := H8.out.1.eo
        rcases q9.2 with ⟨e3, _⟩ | ⟨g, cap, cur, e3, _, hg, _⟩
        · rw [e3] at hk; cases hk
        · rw [e3] at hk
          obtain rfl : g = k := by simpa [Value.ownBlock] using hk
          rw [e, H8.out.2.1] at hg; cases hg
      · have := HK.out.an k hk; omega)
     have HQ9 := A0 hq9
     clear y0 y4 y5 f4 TL hq9 hr9 hne
     go_wp2_with fail
     refine ⟨by simp, .inl ⟨_, _, rfl, run_takeDeferred HQ9.out, ?_⟩⟩
     refine ⟨_, Co _ _ (w.heap.size + 1) _ rfl c9, ?_⟩
     exact ⟨0, vp', v8, vn', ps', ns', ns'.length, x8, rfl, A0 (by rw [HTE.out]; exact HF.out)⟩
   case stop =>
    rintro D' W hD' ⟨er, vp', vn', ps', ns', HX⟩ hq
    have HXX := A0 HX
    clear HX
    refine wpIn_wide.2 ?_
    go_wp2_with fail
    refine ⟨by simp, .inl ⟨_, _, rfl, run_takeDeferred hq, ?_⟩⟩
    have HO : Ab W (W.putObj D' (.deferred none)) (fun k => k = D') := AI _ _ _
    have hbq : ∀ {k : Nat} {cs : Array Value} {t : TypeId} {fr : Nat × Nat}, W.heap[k]? = some (.cells cs t fr) → k ≠ D' := fun hk e => by rw [e, hq] at hk; cases hk
    have c6 : (W.putObj D' (.deferred none)).cell? ⟨w.heap.size + 1, 0, none⟩ = some (.int .i64 er) := A1 (HO.cellK HXX.out.rb (hbq HXX.out.rb)) rfl
    refine ⟨_, Co _ _ (w.heap.size + 1) _ rfl c6, ?_⟩
    refine ⟨er, vp', ve, vn', ps', ns', ns'.length, ns'.map (Value.int .i64), rfl, A0 ⟨?_, ?_, ?_, HXX.out.pl, ?_, fun k hk => (HXX.out.ap k hk).2, fun k hk => (HXX.out.ae k hk).2, fun k hk => (HXX.out.an k hk).2⟩⟩
    · rw [HTE.out]; exact HXX.out.eq
    · have ne : er ≠ 0 := by rcases HXX.out.ee with e | e <;> omega
      rw [if_neg ne]
      exact Hw HXX.out.ss HO hq
    · exact HXX.out.on.trans (HO.mono (fun k _ e => .inr (.inr (by have := HXX.out.kl; omega))))
    · intro e; rcases HXX.out.ee with e2 | e2 <;> omega
theorem Ph (w : World) (D b bm kv b1 b2 B1 B2 m N1 N2 : Nat) (E1 E2 : List Aa) (a1 a2 : Option Addr) (c1 c2 g1 g2 : Nat) (bud : Int) (vp ve vn : Value) (ps : List Aq) (es : List Aa) (nn : Nat) (xn : List Value) (h : Hid (Kk w D b bm kv (.func (.func 69) #[] #[.pointer (some ⟨b1, 0, none⟩), .pointer (some ⟨b2, 0, none⟩)]) bud (Cq E1 E2) m N1 N2 ps 0 0 vp ve vn ps es nn xn w)) (hD : Hid (b < D ∧ bm < D ∧ D ≤ w.heap.size)) (hkv : kv < w.heap.size)
 (hR1 : Hid (Gd (fun k => k < D ∧ k ≠ b ∧ k ≠ bm) w b1 B1 m (N1 * m) E1 a1 c1 g1)) (hR2 : Hid (Gd (fun k => k < D ∧ k ≠ b ∧ k ≠ bm) w b2 B2 m (N2 * m) E2 a2 c2 g2)) (hq : Hid (EY N1 m E1 ∧ EY N2 m E2)) :
 Calls prog 36 #[.pointer (some ⟨b, 0, none⟩), .int .i64 (m : Int)] w fun e w' => ∃ er, e = .returned (.int .i64 er) ∧ Hid (Q2 w D b bm kv (.func (.func 69) #[] #[.pointer (some ⟨b1, 0, none⟩), .pointer (some ⟨b2, 0, none⟩)]) bud (Cq E1 E2) m N1 N2 ps er w') := by
 obtain ⟨M4, hM4⟩ : ∃ M : Nat, 4096 ≤ M := ⟨4096, Nat.le_refl _⟩
 have hm := hq.out.1.hm
 go_enter func36, ntmps36
 go_wp2_with fail
 go_loopw [5] (fun fv wr => ∃ (i : Nat) (vp ve vn : Value) (ps' : List Aq) (es' : List Aa) (nn : Nat) (xn : List Value), i ≤ ps'.length ∧ fv = .int .i64 (i : Int) ∧ Hid (Kk w D b bm kv (.func (.func 69) #[] #[.pointer (some ⟨b1, 0, none⟩), .pointer (some ⟨b2, 0, none⟩)]) bud (Cq E1 E2) m N1 N2 ps i 0 vp ve vn ps' es' nn xn wr)) (fun fv _ => M4 - (intOf fv).toNat)
 case atStart => exact ⟨0, vp, ve, vn, ps, es, nn, xn, Nat.zero_le _, rfl, h⟩
 case round =>
  rename World => wo
  obtain ⟨i, vp', ve', vn', ps', es', nn', xn', hi, rfl, HS⟩ := hrel
  obtain ⟨ap, cp, hv⟩ := A8 HS.out.ss.po
  have c3 : wo.cell? ⟨b, 3, none⟩ = some (.slice ap ps'.length cp) := by rw [← hv]; exact A1 HS.out.ss.bx rfl
  clear hv
  have hpl := HS.out.pl
  by_cases hlt : i < ps'.length
  · have i1 : (i : Int) < (ps'.length : Int) := by omega
    go_wp2_with fail
    clear c3 i1
    go_loopw [18] (fun sv wr => ∃ (s : Nat) (vp ve vn : Value) (ps2 : List Aq) (es2 : List Aa) (nn : Nat) (xn : List Value), s ≤ m ∧ i < ps2.length ∧ sv = .int .i64 (s : Int) ∧ Hid (Kk w D b bm kv (.func (.func 69) #[] #[.pointer (some ⟨b1, 0, none⟩), .pointer (some ⟨b2, 0, none⟩)]) bud (Cq E1 E2) m N1 N2 ps i s vp ve vn ps2 es2 nn xn wr)) (fun sv _ => m - (intOf sv).toNat)
    case atStart => exact ⟨0, vp', ve', vn', ps', es', nn', xn', Nat.zero_le _, hlt, rfl, HS⟩
    case round =>
     obtain ⟨s, vp2, ve2, vn2, ps2, es2, nn2, xn2, hs, hi2, rfl, HY⟩ := hrel
     clear HS hlt
     by_cases hsm : s < m
     · have s1 : (s : Int) < (m : Int) := by omega
       obtain ⟨p, q, hpq, hp, hq2⟩ := HY.out.rn.bd _ (List.getElem_mem hi2)
       have HBD := A0 (LG (p := p) (q := q) (s := s) hq.out.1 hq.out.2)
       have TF := LZ wr D b bm kv b1 b2 B1 B2 m (N1 * m) (N2 * m) E1 E2 a1 a2 c1 c2 g1 g2 i p q s bud vp2 ve2 vn2 ps2 es2 nn2 xn2 (A0 HY.out.ss) (A0 ⟨hD.out.1, hD.out.2.1, Nat.le_trans hD.out.2.2 HY.out.on.size⟩) hi2 (A0 hpq) HY.out.pl (A0 ⟨Nat.lt_of_lt_of_le hkv HY.out.on.size, HY.out.nv⟩) (A0 (hR1.out.kp (Bu.ofOnly HY.out.on (fun k h1 h2 => by omega)))) (A0 (hR2.out.kp (Bu.ofOnly HY.out.on (fun k h1 h2 => by omega)))) (A0 (hq.out.1.rq hp hsm)) (A0 (hq.out.2.rq hq2 hsm)) (A0 (fun t ht => Fl hq.out.1.hN hq.out.2.hN (HBD.out t ht))) (A0 (LC hq.out.1 hq.out.2 p q s)) (by have := HY.out.rn.le; omega)
       have HPQ := A0 hpq
       clear hpq hp hq2
       go_upto_region 8 with (go_at_call 59; refine TF.mono ?_; rintro e w3 ⟨er, vp3, ve3, vn3, ps3, ns, nn3, xn3, rfl, HF⟩)
       clear TF
       by_cases he : er = 0
       · subst he
         have HN : Hid (Kk w D b bm kv (.func (.func 69) #[] #[.pointer (some ⟨b1, 0, none⟩), .pointer (some ⟨b2, 0, none⟩)]) bud (Cq E1 E2) m N1 N2 ps i (s + 1) vp3 ve3 vn3 ps3 (Bm es2 (i : Int) (s : Int) (A5 ns)) nn3 xn3 w3 ∧ i < ps3.length) := A0 (by
          have q1 := HF.out
          have q2 := q1.ss
          rw [if_pos rfl] at q2
          refine ⟨⟨q2, HY.out.on.trans (q1.on), HY.out.rn.sym hi2 HY.out.pl hsm (by rw [HPQ.out]; exact HBD.out) (by rw [HPQ.out]; exact q1.eq) (q1.nl rfl), q1.pl, q1.nv⟩, ?_⟩
          obtain ⟨⟨x, hx⟩, _⟩ := AQ _ _ _ _ _ _ _ _ q1.eq HY.out.rn.nd
          rw [hx, List.length_append]
          omega)
         go_wp2_with fail
         exact ⟨⟨s + 1, vp3, ve3, vn3, ps3, _, nn3, xn3, hsm, HN.out.2, by go_num, A0 HN.out.1⟩, by simp [intOf]; omega⟩
       · have HN := A0 (HY.out.on.trans HF.out.on)
         go_wp2_with fail
         go_ret
         exact ⟨er, rfl, A0 (.inl ⟨he, HY.out.rn.err hi2 HY.out.pl hsm he (by rw [HPQ.out]; exact HF.out.eq), HN.out⟩)⟩
     · have s1 : ¬ (s : Int) < (m : Int) := by omega
       obtain rfl : s = m := by omega
       have TL := I9 wr D b bm (.func (.func 69) #[] #[.pointer (some ⟨b1, 0, none⟩), .pointer (some ⟨b2, 0, none⟩)]) bud vp2 ve2 vn2 ps2 es2 nn2 xn2 (A0 HY.out.ss)
       by_cases hL : 65536 < es2.length ∧ 4096 < bud
       · rw [decide_eq_true hL] at TL
         have HLL := A0 hL
         clear hL
         go_wp2_with (go_at_call 60; refine TL.mono ?_; rintro e w3 ⟨rfl, hw⟩; obtain rfl := hw.symm; clear hw)
         go_ret
         exact ⟨8, rfl, A0 (.inl ⟨by decide, HY.out.rn.lost HLL.out.1 HLL.out.2 HY.out.pl, HY.out.on⟩)⟩
       · rw [decide_eq_false hL] at TL
         clear hL
         have hpl2 := HY.out.pl
         go_wp2_with (go_at_call 60; refine TL.mono ?_; rintro e w3 ⟨rfl, hw⟩; obtain rfl := hw.symm; clear hw)
         exact ⟨⟨i + 1, vp2, ve2, vn2, ps2, es2, nn2, xn2, hi2, by go_num, A0 ⟨HY.out.ss, HY.out.on, HY.out.rn.next hi2 HY.out.pl, HY.out.pl, HY.out.nv⟩⟩, by simp [intOf]; omega⟩
  · have i1 : ¬ (i : Int) < (ps'.length : Int) := by omega
    have HE : Hid (i = ps'.length) := A0 (by omega)
    have TL := Cz wo D b bm (.func (.func 69) #[] #[.pointer (some ⟨b1, 0, none⟩), .pointer (some ⟨b2, 0, none⟩)]) bud vp' ve' vn' ps' es' nn' xn' (A0 HS.out.ss)
    by_cases hL : 65536 < es'.length
    · rw [decide_eq_true hL] at TL
      have HLL := A0 hL
      clear hL
      go_wp2_with (go_at_call 61; refine TL.mono ?_; rintro e w3 ⟨rfl, hw⟩; obtain rfl := hw.symm; clear hw)
      go_ret
      exact ⟨8, rfl, A0 (.inl ⟨by decide, Gi.full (by rw [← HE.out]; exact HS.out.rn) HS.out.pl HLL.out, HS.out.on⟩)⟩
    · rw [decide_eq_false hL] at TL
      have HL := A0 hL
      clear hL
      go_wp2_with (go_at_call 61; refine TL.mono ?_; rintro e w3 ⟨rfl, hw⟩; obtain rfl := hw.symm; clear hw)
      go_ret
      exact ⟨0, rfl, A0 (.inr ⟨rfl, vp', ve', vn', ps', es', nn', xn', by rw [← HE.out]; exact HS.out, by have := HL.out; omega⟩)⟩
theorem Ib (w : World) (N M m : Nat) (bud0 : Int) (a1 a2 a3 o1 o2 o3 : Option Addr) (c1 c2 c3 d1 d2 d3 : Nat) (Sa Fa Sb Fb : List Int) (Ea Eb : List Aa) (hA : Hid (AP w a1 a2 a3 Sa Fa Ea)) (hB : Hid (AP w o1 o2 o3 Sb Fb Eb)) (h1 : Sa.length ≤ 2000000) (h2 : Fa.length ≤ 2000000) (h3 : Ea.length ≤ 2000000) (h4 : Sb.length ≤ 2000000) (h5 : Fb.length ≤ 2000000) (h6 : Eb.length ≤ 2000000) (em : AC (N : Int) (m : Int) Sa Fa Ea = true) (em' : AC (M : Int) (m : Int) Sb Fb Eb = true) :
 Calls prog 21 #[.agg #[.int .i64 (N : Int), .int .i64 (m : Int), .slice a1 Sa.length c1, .slice a2 Fa.length c2, .slice a3 Ea.length c3], .agg #[.int .i64 (M : Int), .int .i64 (m : Int), .slice o1 Sb.length d1, .slice o2 Fb.length d2, .slice o3 Eb.length d3], .int .i64 bud0, .func (.func 51) #[] #[]] w (DR w (Bi Cq (BF bud0) m (A5 Sa) (A5 Fa) (A7 Ea) (A5 Sb) (A5 Fb) (A7 Eb))) := by
 obtain ⟨W0, hW0⟩ : ∃ W0, ((w.alloc (.cells #[.int .i64 (N : Int), .int .i64 (m : Int), .slice a1 Sa.length c1, .slice a2 Fa.length c2, .slice a3 Ea.length c3] 25)).alloc (.cells #[.int .i64 (M : Int), .int .i64 (m : Int), .slice o1 Sb.length d1, .slice o2 Fb.length d2, .slice o3 Eb.length d3] 25)).alloc (.cells #[.int .i64 0, .int .i64 0, .slice none 0 0, .slice none 0 0, .slice none 0 0] 25) = W0 := ⟨_, rfl⟩
 have HD := A0 (BH w #[.int .i64 (N : Int), .int .i64 (m : Int), .slice a1 Sa.length c1, .slice a2 Fa.length c2, .slice a3 Ea.length c3] #[.int .i64 (M : Int), .int .i64 (m : Int), .slice o1 Sb.length d1, .slice o2 Fb.length d2, .slice o3 Eb.length d3] #[.int .i64 0, .int .i64 0, .slice none 0 0, .slice none 0 0, .slice none 0 0] 25)
 rw [hW0] at HD
 have TB := Hp W0 (N : Int) (m : Int) (M : Int) a1 a2 a3 o1 o2 o3 c1 c2 c3 d1 d2 d3 Sa Fa Sb Fb Ea Eb (A0 (hA.out.on HD.out.1)) (A0 (hB.out.on HD.out.1)) (by omega) (by omega) (by omega) (by omega) (by omega) (by omega) em em'
 have hm : m ≤ 128 := by have := (Ag em).2.1; omega
 have hNM : N ≤ 4096 ∧ M ≤ 4096 := by have := (Ag em).1; have := (Ag em').1; omega
 have Hin : Hid ((∀ x ∈ A5 Sa, ∃ q : Nat, q < N ∧ x = (q : Int)) ∧ (∀ x ∈ A5 Fa, ∃ q : Nat, q < N ∧ x = (q : Int)) ∧ (∀ x ∈ A5 Sb, ∃ q : Nat, q < M ∧ x = (q : Int)) ∧ (∀ x ∈ A5 Fb, ∃ q : Nat, q < M ∧ x = (q : Int))) := A0 ⟨C5 (Bf (AD em)).1, C5 (Bf (AD em)).2, C5 (Bf (AD em')).1, C5 (Bf (AD em')).2⟩
 have hl : Hid ((A5 Sa).length ≤ 4096 ∧ (A5 Fa).length ≤ 2000000 ∧ (A7 Ea).length ≤ 2000000 ∧ (A5 Sb).length ≤ 4096 ∧ (A5 Fb).length ≤ 2000000 ∧ (A7 Eb).length ≤ 2000000) := A0 ⟨Nat.le_trans (CH (Bf em).1).len hNM.1, Nat.le_trans (B9 Fa) h2, Nat.le_trans (By Ea) h3, Nat.le_trans (CH (Bf em').1).len hNM.2, Nat.le_trans (B9 Fb) h5, Nat.le_trans (By Eb) h6⟩
 have HND : Hid ((Az (A5 Sa) (A5 Sb)).Nodup) := A0 (Fq (ET (Ba Sa)) (ET (Ba Sb)))
 have HQ : Hid (EY N m (A7 Ea) ∧ EY M m (A7 Eb)) := A0 ⟨⟨AZ Ea, fun e he => ((Ag (AD em)).2.2.2.2.2 e he).2.1, fun e he => ((Ag (AD em)).2.2.2.2.2 e he).2.2, hNM.1, hm, by have := hl.out; omega⟩, ⟨AZ Eb, fun e he => ((Ag (AD em')).2.2.2.2.2 e he).2.1, fun e he => ((Ag (AD em')).2.2.2.2.2 e he).2.2, hNM.2, hm, by have := hl.out; omega⟩⟩
 have HFr : Hid ((∀ e ∈ A7 Ea, (0 ≤ e.1 ∧ e.1 < (N : Int)) ∧ 0 ≤ e.2.1 ∧ e.2.1 < (m : Int)) ∧ (∀ e ∈ A7 Eb, (0 ≤ e.1 ∧ e.1 < (M : Int)) ∧ 0 ≤ e.2.1 ∧ e.2.1 < (m : Int))) := A0 ⟨fun e he => by have q := (Ag (AD em)).2.2.2.2.2 e he; exact ⟨q.1, q.2.1⟩, fun e he => by have q := (Ag (AD em')).2.2.2.2.2 e he; exact ⟨q.1, q.2.1⟩⟩
 clear em em'
 generalize A5 Sa = S1 at *
 generalize A5 Fa = F1 at *
 generalize A7 Ea = E1 at *
 generalize A5 Sb = S2 at *
 generalize A5 Fb = F2 at *
 generalize A7 Eb = E2 at *
 obtain ⟨cy0, cy1, cy2, cy3, cy4⟩ := An HD.out.2.1 rfl rfl rfl rfl rfl
 obtain ⟨cx0, cx1, cx2, cx3, cx4⟩ := An HD.out.2.2.1 rfl rfl rfl rfl rfl
 go_enter func21, ntmps21
 go_upto_if 28 with (go_at_call 31; refine TB.mono ?_; rintro e w1 ⟨g1, k1, g2, k2, g3, k3, r1, q1, r2, q2, r3, q3, rfl, H1⟩)
 clear TB cy0 cx0 cy1 cx1 cy2 cx2 cy3 cx3 cy4 cx4
 obtain ⟨W1, hW1⟩ : ∃ W1, (w1.alloc (.cells #[.int .i64 (N : Int), .int .i64 (m : Int), .slice (some ⟨g1, 0, none⟩) S1.length k1, .slice (some ⟨g2, 0, none⟩) F1.length k2, .slice (some ⟨g3, 0, none⟩) E1.length k3] 25)).alloc (.cells #[.int .i64 (M : Int), .int .i64 (m : Int), .slice (some ⟨r1, 0, none⟩) S2.length q1, .slice (some ⟨r2, 0, none⟩) F2.length q2, .slice (some ⟨r3, 0, none⟩) E2.length q3] 25) = W1 := ⟨_, rfl⟩
 have HW : Hid (W1.heap[w1.heap.size]? = some (.cells #[.int .i64 (N : Int), .int .i64 (m : Int), .slice (some ⟨g1, 0, none⟩) S1.length k1, .slice (some ⟨g2, 0, none⟩) F1.length k2, .slice (some ⟨g3, 0, none⟩) E1.length k3] 25 (0, 0)) ∧ W1.heap[w1.heap.size + 1]? = some (.cells #[.int .i64 (M : Int), .int .i64 (m : Int), .slice (some ⟨r1, 0, none⟩) S2.length q1, .slice (some ⟨r2, 0, none⟩) F2.length q2, .slice (some ⟨r3, 0, none⟩) E2.length q3] 25 (0, 0)) ∧ W1.heap[w.heap.size + 1 + 1]? = some (.cells #[.int .i64 0, .int .i64 0, .slice none 0 0, .slice none 0 0, .slice none 0 0] 25 (0, 0)) ∧ w.heap.size + 3 ≤ W1.heap.size ∧ Below w.heap.size w W1) := A0 (by
  have q := Br w1 #[.int .i64 (N : Int), .int .i64 (m : Int), .slice (some ⟨g1, 0, none⟩) S1.length k1, .slice (some ⟨g2, 0, none⟩) F1.length k2, .slice (some ⟨g3, 0, none⟩) E1.length k3] #[.int .i64 (M : Int), .int .i64 (m : Int), .slice (some ⟨r1, 0, none⟩) S2.length q1, .slice (some ⟨r2, 0, none⟩) F2.length q2, .slice (some ⟨r3, 0, none⟩) E2.length q3] 25
  rw [hW1] at q
  have s := HD.out.2.2.2.2
  have d2 := H1.out.2.2.trans (q.1.mono H1.out.2.2.size)
  exact ⟨q.2.1, q.2.2.1, A3 HD.out.2.2.2.1 d2, by have := d2.size; omega, HD.out.1.trans (d2.mono HD.out.1.size)⟩)
 have HX : Hid (AE w.heap.size W1 (.slice (some ⟨g1, 0, none⟩) S1.length k1) (.slice (some ⟨g2, 0, none⟩) F1.length k2) (.slice (some ⟨g3, 0, none⟩) E1.length k3) S1 F1 E1) := A0 (by
  have q := Br w1 #[.int .i64 (N : Int), .int .i64 (m : Int), .slice (some ⟨g1, 0, none⟩) S1.length k1, .slice (some ⟨g2, 0, none⟩) F1.length k2, .slice (some ⟨g3, 0, none⟩) E1.length k3] #[.int .i64 (M : Int), .int .i64 (m : Int), .slice (some ⟨r1, 0, none⟩) S2.length q1, .slice (some ⟨r2, 0, none⟩) F2.length q2, .slice (some ⟨r3, 0, none⟩) E2.length q3] 25
  rw [hW1] at q
  exact (H1.out.1.on q.1).down HD.out.1.size)
 have HY : Hid (AE w.heap.size W1 (.slice (some ⟨r1, 0, none⟩) S2.length q1) (.slice (some ⟨r2, 0, none⟩) F2.length q2) (.slice (some ⟨r3, 0, none⟩) E2.length q3) S2 F2 E2) := A0 (by
  have q := Br w1 #[.int .i64 (N : Int), .int .i64 (m : Int), .slice (some ⟨g1, 0, none⟩) S1.length k1, .slice (some ⟨g2, 0, none⟩) F1.length k2, .slice (some ⟨g3, 0, none⟩) E1.length k3] #[.int .i64 (M : Int), .int .i64 (m : Int), .slice (some ⟨r1, 0, none⟩) S2.length q1, .slice (some ⟨r2, 0, none⟩) F2.length q2, .slice (some ⟨r3, 0, none⟩) E2.length q3] 25
  rw [hW1] at q
  exact (H1.out.2.1.on q.1).down HD.out.1.size)
 rw [hW1]
 clear hW1 H1 HD hW0
 go_cut [2] (fun v2 W => ∃ bud : Int, v2 = .int .i64 bud ∧ W = W1 ∧ Hid (BF bud0 = bud))
 case first =>
  by_cases hb : bud0 ≤ 0
  · have HBu : Hid (BF bud0 = 9223372036854775807) := A0 (if_pos hb)
    go_wp2_with fail
    go_meet
    exact ⟨_, rfl, rfl, HBu⟩
  · have HBu : Hid (BF bud0 = bud0) := A0 (if_neg hb)
    go_wp2_with fail
    go_meet
    exact ⟨_, rfl, rfl, HBu⟩
 case rest =>
  rename World => wc
  obtain ⟨bud, rfl, hw, HBU⟩ := hcut
  obtain rfl := hw.symm
  clear hw
  have T1 := A0 (fun (W : World) (d : Below W1.heap.size W1 W) => BW W N m (some ⟨g1, 0, none⟩) (some ⟨g2, 0, none⟩) (some ⟨g3, 0, none⟩) S1.length F1.length k1 k2 k3 E1 hNM.1 hm (A0 (BT (HX.out.on d).e)) (by have := hl.out; omega) (A0 HFr.out.1))
  have T2 := A0 (fun (W : World) (d : Below W1.heap.size W1 W) => BW W M m (some ⟨r1, 0, none⟩) (some ⟨r2, 0, none⟩) (some ⟨r3, 0, none⟩) S2.length F2.length q1 q2 q3 E2 hNM.2 hm (A0 (BT (HY.out.on d).e)) (by have := hl.out; omega) (A0 HFr.out.2))
  go_upto_region 6 with fail
  go_cut [14] (fun v14 W => ∃ b bm b1 b2 aX cX gX aY cY gY, v14 = .pointer (some ⟨b, 0, none⟩) ∧ Hid (Nt W1 m (N * m) (M * m) E1 E2 bud b bm b1 b2 aX cX gX aY cY gY W))
  case first =>
   have hmo : AJ 0 [vI 0 (.func (.func 51) #[] #[]), vI 1 (.agg #[.int .i64 (N : Int), .int .i64 (m : Int), .slice (some ⟨g1, 0, none⟩) S1.length k1, .slice (some ⟨g2, 0, none⟩) F1.length k2, .slice (some ⟨g3, 0, none⟩) E1.length k3]), pI 2 (Pd W1.heap.size m (N * m) E1), vI 3 (.agg #[.int .i64 (M : Int), .int .i64 (m : Int), .slice (some ⟨r1, 0, none⟩) S2.length q1, .slice (some ⟨r2, 0, none⟩) F2.length q2, .slice (some ⟨r3, 0, none⟩) E2.length q3]), pI 4 (Pd W1.heap.size m (M * m) E2), pI 5 (Pp W1.heap.size m (N * m) (M * m) E1 E2), vI 6 (.int .i64 bud), pI 7 (PN W1.heap.size), pI 8 (Po W1.heap.size m (N * m) (M * m) E1 E2 bud), pI 9 (PQ W1.heap.size)] := ⟨A2 _ _, A2 _ _, Am Ej, A2 _ _, Am Ej, Am Kv, A2 _ _, Am IS, Am JY, Am I7, trivial⟩
   refine Aj _ (by kernel_rfl) (by kernel_rfl) (by kernel_rfl) (by kernel_rfl) hmo ⟨?o0, ?o1, ?o2, ?o3, ?o4, ?o5, ?o6, ?o7, ?o8, ?o9, trivial⟩ ?fin
   case o0 =>
    intro At yy W hy hb d hd K hK
    obtain ⟨s3, s3'⟩ := AG (hb 3 rfl : _ = .func (.func 51) #[] #[])
    clear hd hy hb
    go_simp
    exact Ak hK hmo d (if_pos rfl)
   case o1 =>
    intro At yy W hy hb d hd K hK
    obtain ⟨s11, s11'⟩ := AG (hb 11 rfl : _ = .pointer (some ⟨w1.heap.size, 0, none⟩))
    clear hd hy hb
    have bxX := A3 HW.out.1 d
    have bxY := A3 HW.out.2.1 d
    obtain ⟨cx0, cx1, cx2, cx3, cx4⟩ := An bxX rfl rfl rfl rfl rfl
    obtain ⟨cy0, cy1, cy2, cy3, cy4⟩ := An bxY rfl rfl rfl rfl rfl
    clear bxX bxY
    go_simp
    exact Ak hK hmo d (if_pos rfl)
   case o2 =>
    intro At yy W hy hb d hd K hK
    obtain ⟨s30, s30'⟩ := Ao 1 30 .data hy hd rfl
    clear hd hy hb
    go_simp
    go_wp2_with (go_at_call 34; refine (T1.out _ d).mono ?_; rintro e wa ⟨aX, cX, gX, rfl, hR, dR⟩)
    exact hK.out _ wa (Av hmo d dR) ⟨aX, cX, gX, if_pos rfl, Fk hR.out d.size⟩
   case o3 =>
    intro At yy W hy hb d hd K hK
    obtain ⟨s12, s12'⟩ := AG (hb 12 rfl : _ = .pointer (some ⟨w1.heap.size + 1, 0, none⟩))
    clear hd hy hb
    have bxX := A3 HW.out.1 d
    have bxY := A3 HW.out.2.1 d
    obtain ⟨cx0, cx1, cx2, cx3, cx4⟩ := An bxX rfl rfl rfl rfl rfl
    obtain ⟨cy0, cy1, cy2, cy3, cy4⟩ := An bxY rfl rfl rfl rfl rfl
    clear bxX bxY
    go_simp
    exact Ak hK hmo d (if_pos rfl)
   case o4 =>
    intro At yy W hy hb d hd K hK
    obtain ⟨s32, s32'⟩ := Ao 3 32 .data hy hd rfl
    clear hd hy hb
    go_simp
    go_wp2_with (go_at_call 34; refine (T2.out _ d).mono ?_; rintro e wa ⟨aY, cY, gY, rfl, hR, dR⟩)
    exact hK.out _ wa (Av hmo d dR) ⟨aY, cY, gY, if_pos rfl, Fk hR.out d.size⟩
   case o5 =>
    intro At yy W hy hb d hd K hK
    have f2 := hd ⟨2, .data⟩ (by simp) rfl rfl
    have f4 := hd ⟨4, .data⟩ (by simp) rfl rfl
    obtain ⟨_, _, _, _, aX, cX, gX, e2, y2⟩ := f2
    obtain ⟨_, _, _, _, aY, cY, gY, e4, y4⟩ := f4
    have HZ := A0 (Ff W #[.int .i64 (m : Int), .slice aX E1.length cX, .slice (some ⟨gX, 0, none⟩) (N * m + 1) (N * m + 1)] #[.int .i64 (m : Int), .slice aY E2.length cY, .slice (some ⟨gY, 0, none⟩) (M * m + 1) (M * m + 1)] 67 67)
    obtain ⟨s29, s29'⟩ := Ao 0 29 .data hy hd rfl
    obtain ⟨s31, s31'⟩ := AG ((hy 2 _ 31 rfl rfl).trans e2)
    obtain ⟨s33, s33'⟩ := AG ((hy 4 _ 33 rfl rfl).trans e4)
    clear hd hy hb
    go_simp
    go_wp2_with (go_at_call 51; refine (N0 _ _ _ _ _ _ _).mono ?_; rintro e wa ⟨rfl, hwa⟩; subst hwa)
    exact hK.out _ _ (Av hmo d HZ.out.1) ⟨W.heap.size, W.heap.size + 1, aX, cX, gX, aY, cY, gY, if_pos rfl, HZ.out.2.1, HZ.out.2.2.1, y2.on HZ.out.1, y4.on HZ.out.1⟩
   case o6 =>
    intro At yy W hy hb d hd K hK
    obtain ⟨s2, s2'⟩ := AG (hb 2 rfl : _ = .int .i64 bud)
    clear hd hy hb
    go_simp
    exact Ak hK hmo d (if_pos rfl)
   case o7 =>
    intro At yy W hy hb d hd K hK
    clear hd hy hb
    go_simp
    exact hK.out _ _ (Av hmo d ((Below.refl _ _).alloc (Nat.le_refl _) _)) ⟨if_pos rfl, d.size, by simp, World.ownsMap_made _ _ _ _⟩
   case o8 =>
    intro At yy W hy hb d hd K hK
    have f5 := hd ⟨5, .data⟩ (by simp) rfl rfl
    have f7 := hd ⟨7, .data⟩ (by simp) rfl rfl
    obtain ⟨_, _, _, _, b1, b2, aX, cX, gX, aY, cY, gY, e5, y5⟩ := f5
    obtain ⟨l7, _, _, _, e7, y7, _, m7⟩ := f7
    obtain ⟨s34, s34'⟩ := AG ((hy 5 _ 34 rfl rfl).trans e5)
    obtain ⟨s35, s35'⟩ := Ao 6 35 .data hy hd rfl
    obtain ⟨s36, s36'⟩ := AG ((hy 7 _ 36 rfl rfl).trans e7)
    clear hd hy hb
    go_simp
    exact Ak hK hmo d ⟨b1, b2, aX, cX, gX, aY, cY, gY, l7, if_pos rfl, y5, y7, m7⟩
   case o9 =>
    intro At yy W hy hb d hd K hK
    clear hd hy hb
    go_simp
    exact hK.out _ _ (Av hmo d ((Below.refl _ _).alloc (Nat.le_refl _) _)) ⟨if_pos rfl, d.size, by simp, World.alloc_heap_new _ _⟩
   case fin =>
    intro yy lo hi W hM
    show wpList _ _ _ [_] _ _
    have e0 := hM.v 0 (by simp) rfl rfl rfl
    have e1 := hM.v 1 (by simp) rfl rfl rfl
    have e3 := hM.v 3 (by simp) rfl rfl rfl
    have e6 := hM.v 6 (by simp) rfl rfl rfl
    obtain ⟨b1, b2, aX, cX, gX, aY, cY, gY, bm, e8, y8, l8, m8⟩ := hM.fact 8 (by simp) rfl (Ad 8 rfl)
    obtain ⟨e9, l9, _, z9⟩ := hM.fact 9 (by simp) rfl (Ad 9 rfl)
    obtain ⟨_, _, _, e2, _⟩ := hM.fact 2 (by simp) rfl (Ad 2 rfl)
    obtain ⟨_, _, _, e4, _⟩ := hM.fact 4 (by simp) rfl (Ad 4 rfl)
    obtain ⟨_, _, _, _, _, _, _, _, e5, _⟩ := hM.fact 5 (by simp) rfl (Ad 5 rfl)
    obtain ⟨e7, _⟩ := hM.fact 7 (by simp) rfl (Ad 7 rfl)
    have HDD := A0 hM.d
    simp only [Aw, Act.put, List.take, List.length, List.setIfInBounds_toArray, List.set_cons_zero, List.set_cons_succ, e0, e1, e3, e6, e2, e4, e5, e7, e8, e9]
    generalize lo 9 = b at z9 l9 ⊢
    clear hM hmo e0 e1 e3 e6 e2 e4 e5 e7 e8 e9
    have HF := A0 (N8 (bud := bud) HDD.out z9 l9 l8 y8 m8)
    obtain ⟨z0, z1, z2, z3, z4, z5⟩ := PS z9 rfl rfl rfl rfl rfl rfl
    have f0 : W.frozen? ⟨b, 0, none⟩ = false := A4 z9
    have f1 : W.frozen? ⟨b, 1, none⟩ = false := A4 z9
    have f2 : W.frozen? ⟨b, 2, none⟩ = false := A4 z9
    have f3 : W.frozen? ⟨b, 3, none⟩ = false := A4 z9
    have f4 : W.frozen? ⟨b, 4, none⟩ = false := A4 z9
    have f5 : W.frozen? ⟨b, 5, none⟩ = false := A4 z9
    clear z9 y8 m8
    go_wp2_with fail
    go_meet
    exact ⟨b, bm, b1, b2, aX, cX, gX, aY, cY, gY, rfl, HF⟩
  case rest =>
   rename World => w6
   obtain ⟨b, bm, b1, b2, aX, cX, gX, aY, cY, gY, rfl, HP⟩ := hcut
   clear T1 T2 HFr
   have bxX := A3 HW.out.1 HP.out.be
   have cx1 : w6.cell? ⟨w1.heap.size, 1, none⟩ = some (.int .i64 (m : Int)) := A1 bxX rfl
   clear bxX
   go_upto_region 8 with fail
   clear cx1
   obtain ⟨W7, hW7⟩ : ∃ W7, w6.alloc (.cells #[.int .i64 0, .int .i64 (m : Int), .slice none 0 0, .slice none 0 0, .slice none 0 0] 25) = W7 := ⟨_, rfl⟩
   have H7 : Hid (Below w6.heap.size w6 W7 ∧ W7.heap[w6.heap.size]? = some (.cells #[.int .i64 0, .int .i64 (m : Int), .slice none 0 0, .slice none 0 0, .slice none 0 0] 25 (0, 0)) ∧ W7.heap.size = w6.heap.size + 1) := A0 (by rw [← hW7]; exact ⟨(Below.refl _ _).alloc (Nat.le_refl _) _, World.alloc_heap_new _ _, by simp⟩)
   rw [hW7]
   clear hW7
   obtain ⟨D, hDe⟩ : ∃ D, W7.heap.size = D := ⟨_, rfl⟩
   have HB7 : Hid (Below W1.heap.size W1 W7) := A0 (HP.out.be.trans (H7.out.1.mono HP.out.be.size))
   have HDD : Hid (b < D ∧ bm < D ∧ D ≤ W7.heap.size ∧ w6.heap.size < D ∧ W1.heap.size ≤ w6.heap.size ∧ w6.heap.size ≠ b ∧ w6.heap.size ≠ bm ∧ W1.heap.size ≤ b ∧ W1.heap.size ≤ bm) := A0 (by
    have q1 := (Array.getElem?_eq_some_iff.1 HP.out.bx).1
    have q2 := HP.out.mo.lt
    have q3 := H7.out.2.2
    have q4 := HP.out.be.size
    have q5 := HP.out.lb
    have q6 := HP.out.lm
    omega)
   have HSS := A0 (HP.out.ss H7.out.1 D)
   have HR1 : Hid (Gd (fun k => k < w6.heap.size ∧ k ≠ b ∧ k ≠ bm) W7 b1 W1.heap.size m (N * m) E1 aX cX gX) := A0 (Hy HP.out.bx HP.out.mo H7.out.1 (Nat.le_refl _) HP.out.tw.h1 HP.out.tw.r1)
   have HR2 : Hid (Gd (fun k => k < w6.heap.size ∧ k ≠ b ∧ k ≠ bm) W7 b2 W1.heap.size m (M * m) E2 aY cY gY) := A0 (Hy HP.out.bx HP.out.mo H7.out.1 (Nat.le_refl _) HP.out.tw.h2 HP.out.tw.r2)
   have HA1 : Hid (∀ W', Bu (fun k => k < D ∧ k ≠ b ∧ k ≠ bm) W7 W' → BB W' (some ⟨g1, 0, none⟩) S1) := A0 (fun W' k => AM (FI (HX.out.on HB7.out).s k (fun i hi => by have := (HX.out.s.lt i hi).2; have := HDD.out; omega)))
   have HA2 : Hid (∀ W', Bu (fun k => k < D ∧ k ≠ b ∧ k ≠ bm) W7 W' → BB W' (some ⟨r1, 0, none⟩) S2) := A0 (fun W' k => AM (FI (HY.out.on HB7.out).s k (fun i hi => by have := (HY.out.s.lt i hi).2; have := HDD.out; omega)))
   have HOK := A0 (Hf Hin.out.1 Hin.out.2.2.1)
   have TG := GK W7 D b bm (.func (.func 69) #[] #[.pointer (some ⟨b1, 0, none⟩), .pointer (some ⟨b2, 0, none⟩)]) bud (some ⟨g1, 0, none⟩) (some ⟨r1, 0, none⟩) k1 q1 S1 S2 HSS (A0 ⟨HDD.out.1, HDD.out.2.1, HDD.out.2.2.1⟩) HA1 HA2 (A0 (fun t ht => Fl hNM.1 hNM.2 (HOK.out t ht))) hl.out.1 hl.out.2.2.2.1
   have HC8 : Hid (∀ W, Ab W7 W (fun k => k = b ∨ k = bm ∨ D ≤ k) → W.heap[w6.heap.size]? = some (.cells #[.int .i64 0, .int .i64 (m : Int), .slice none 0 0, .slice none 0 0, .slice none 0 0] 25 (0, 0))) := A0 (fun W o => o.cellK H7.out.2.1 (by have := HDD.out; omega))
   have bxX := A3 HW.out.1 HB7.out
   have bxY := A3 HW.out.2.1 HB7.out
   have cx2 : W7.cell? ⟨w1.heap.size, 2, none⟩ = some (.slice (some ⟨g1, 0, none⟩) S1.length k1) := A1 bxX rfl
   have cy2 : W7.cell? ⟨w1.heap.size + 1, 2, none⟩ = some (.slice (some ⟨r1, 0, none⟩) S2.length q1) := A1 bxY rfl
   clear bxX bxY
   go_upto_region 9 with (go_at_call 35; refine TG.mono ?_; rintro e w8 ⟨av, nv, cv, er, rfl, HB⟩; have F8 := HC8.out w8 HB.out.on; have z2 : w8.cell? ⟨w6.heap.size, 2, none⟩ = some (.slice none 0 0) := A1 F8 rfl; have f2 : w8.frozen? ⟨w6.heap.size, 2, none⟩ = false := A4 F8; clear F8)
   clear TG cx2 cy2 z2 f2
   obtain ⟨W8, hW8⟩ : ∃ W8, w8.setCell ⟨w6.heap.size, 2, none⟩ (.slice av nv cv) = W8 := ⟨_, rfl⟩
   have H8 : Hid (Below w.heap.size w W8 ∧ W8.heap[w.heap.size + 1 + 1]? = some (.cells #[.int .i64 0, .int .i64 0, .slice none 0 0, .slice none 0 0, .slice none 0 0] 25 (0, 0)) ∧ W8.heap[w1.heap.size]? = some (.cells #[.int .i64 (N : Int), .int .i64 (m : Int), .slice (some ⟨g1, 0, none⟩) S1.length k1, .slice (some ⟨g2, 0, none⟩) F1.length k2, .slice (some ⟨g3, 0, none⟩) E1.length k3] 25 (0, 0)) ∧ W8.heap[w1.heap.size + 1]? = some (.cells #[.int .i64 (M : Int), .int .i64 (m : Int), .slice (some ⟨r1, 0, none⟩) S2.length q1, .slice (some ⟨r2, 0, none⟩) F2.length q2, .slice (some ⟨r3, 0, none⟩) E2.length q3] 25 (0, 0)) ∧ W8.heap[w6.heap.size]? = some (.cells #[.int .i64 0, .int .i64 (m : Int), .slice av nv cv, .slice none 0 0, .slice none 0 0] 25 (0, 0)) ∧ Below W1.heap.size W1 W8 ∧ Ab w8 W8 (fun k => k = w6.heap.size)) := A0 (by
    have o1 := HB.out.on
    have o2 := Ah w8 w6.heap.size 2 (.slice av nv cv)
    rw [hW8] at o2
    have s := heap_setCell_same w8 w6.heap.size 2 _ 25 (.slice av nv cv) (HC8.out w8 o1)
    rw [hW8] at s
    have l := HDD.out
    have d1 : Below W1.heap.size W1 w8 := HB7.out.trans (o1.toBelow HB7.out.size (fun k e => by omega))
    have d2 := d1.trans (o2.toBelow d1.size (fun k e => by omega))
    exact ⟨HW.out.2.2.2.2.trans (d2.mono HW.out.2.2.2.2.size), A3 HW.out.2.2.1 d2, A3 HW.out.1 d2, A3 HW.out.2.1 d2, by simpa using s, d2, o2⟩)
   rw [hW8]
   clear hW8
   by_cases he : er = 0
   · subst he
     obtain ⟨vp, ps0, S0, HG0⟩ : ∃ vp ps ns, NJ W7 D b bm (.func (.func 69) #[] #[.pointer (some ⟨b1, 0, none⟩), .pointer (some ⟨b2, 0, none⟩)]) bud (Az S1 S2) (Az S1 S2).length (.slice av nv cv) vp ps ns w8 ∧ Af bud false [] (Az S1 S2) [] = (0, ps, ns) := by
      rcases HB.out with ⟨q, _, _⟩ | ⟨_, q⟩
      · exact absurd rfl q
      · exact q
     have HG := A0 HG0
     clear HG0 HB
     obtain rfl : nv = S0.length := by
      obtain ⟨_, _, q⟩ := A8 HG.out.1.ow
      cases q
      rfl
     obtain ⟨kv, HKV0⟩ := Gz (b := b) HG.out.1.ow HG.out.1.ss.po (by have := HDD.out; have := HG.out.1.on.size; omega) HDD.out.1
     have HKV := A0 HKV0
     clear HKV0
     have HS8 : Hid (Kk W8 D b bm kv (.func (.func 69) #[] #[.pointer (some ⟨b1, 0, none⟩), .pointer (some ⟨b2, 0, none⟩)]) bud (Cq E1 E2) m N M ps0 0 0 vp (.slice none 0 0) (.slice none 0 0) ps0 [] 0 [] W8) := A0 (by
      have l := HDD.out
      refine ⟨HG.out.1.ss.onlyR H8.out.2.2.2.2.2.2 (by omega) (by omega) (fun k hk e => by have := (HG.out.1.ss.po.lt k hk).1; omega) (fun k hk => by cases hk) (fun k hk => by cases hk), ⟨rfl, rfl, rfl, Nat.le_refl _, fun _ _ _ => rfl⟩, Gi.start HG.out.2 HOK.out, HG.out.1.pl, HKV.out.2.2, Fj, Fj⟩)
     have HK8 : Hid (Bu (fun k => k < w6.heap.size ∧ k ≠ b ∧ k ≠ bm) W7 W8) := A0 ((Bu.ofOnly HG.out.1.on (fun k h1 h2 => by have := HDD.out; omega)).trans (Bu.ofOnly H8.out.2.2.2.2.2.2 (fun k h1 h2 => by omega)))
     have TR := Ph W8 D b bm kv b1 b2 W1.heap.size W1.heap.size m N M E1 E2 aX aY cX cY gX gY bud vp (.slice none 0 0) (.slice none 0 0) ps0 [] 0 [] HS8 (A0 ⟨HDD.out.1, HDD.out.2.1, Nat.le_trans HDD.out.2.2.1 HK8.out.size⟩) (Nat.lt_of_lt_of_le HKV.out.1 H8.out.2.2.2.2.2.2.size) (A0 ((HR1.out.kp HK8.out).weak (fun k h => by have := HDD.out; omega))) (A0 ((HR2.out.kp HK8.out).weak (fun k h => by have := HDD.out; omega))) HQ
     have cx1 : W8.cell? ⟨w1.heap.size, 1, none⟩ = some (.int .i64 (m : Int)) := A1 H8.out.2.2.1 rfl
     go_upto_region 12 with (go_at_call 36; refine TR.mono ?_; rintro e w9 ⟨er, rfl, HR⟩)
     clear TR cx1
     have HO9 : Hid (Ab W8 w9 (fun k => k = b ∨ k = bm ∨ (D ≤ k ∧ k ≠ kv))) := A0 (by
      rcases HR.out with ⟨_, _, q⟩ | ⟨_, _, _, _, _, _, _, _, q, _⟩
      · exact q
      · exact q.on)
     have H9 : Hid (Below w.heap.size w w9 ∧ w9.heap[w.heap.size + 1 + 1]? = some (.cells #[.int .i64 0, .int .i64 0, .slice none 0 0, .slice none 0 0, .slice none 0 0] 25 (0, 0)) ∧ w9.heap[w1.heap.size]? = some (.cells #[.int .i64 (N : Int), .int .i64 (m : Int), .slice (some ⟨g1, 0, none⟩) S1.length k1, .slice (some ⟨g2, 0, none⟩) F1.length k2, .slice (some ⟨g3, 0, none⟩) E1.length k3] 25 (0, 0)) ∧ w9.heap[w1.heap.size + 1]? = some (.cells #[.int .i64 (M : Int), .int .i64 (m : Int), .slice (some ⟨r1, 0, none⟩) S2.length q1, .slice (some ⟨r2, 0, none⟩) F2.length q2, .slice (some ⟨r3, 0, none⟩) E2.length q3] 25 (0, 0)) ∧ w9.heap[w6.heap.size]? = some (.cells #[.int .i64 0, .int .i64 (m : Int), .slice av S0.length cv, .slice none 0 0, .slice none 0 0] 25 (0, 0)) ∧ Below W1.heap.size W1 w9) := A0 (by
      have l := HDD.out
      have d2 := H8.out.2.2.2.2.2.1
      have d3 : Below W1.heap.size W1 w9 := d2.trans (HO9.out.toBelow d2.size (fun k e => by omega))
      exact ⟨HW.out.2.2.2.2.trans (d3.mono HW.out.2.2.2.2.size), A3 HW.out.2.2.1 d3, A3 HW.out.1 d3, A3 HW.out.2.1 d3, HO9.out.cellK H8.out.2.2.2.2.1 (by omega), d3⟩)
     by_cases he2 : er = 0
     · subst he2
       obtain ⟨vp9, ve9, vn9, ps, es, nn, xn, HS0, hes⟩ : ∃ vp ve vn ps es nn xn, Kk W8 D b bm kv (.func (.func 69) #[] #[.pointer (some ⟨b1, 0, none⟩), .pointer (some ⟨b2, 0, none⟩)]) bud (Cq E1 E2) m N M ps0 ps.length 0 vp ve vn ps es nn xn w9 ∧ es.length ≤ 65536 := by
        rcases HR.out with ⟨q, _, _⟩ | ⟨_, q⟩
        · exact absurd rfl q
        · exact q
       clear HR
       obtain ⟨ap, cp, hvp⟩ := A8 HS0.ss.po
       obtain ⟨ae, ce, hve⟩ := A8 HS0.ss.eo
       subst hvp
       subst hve
       have HS := A0 (And.intro HS0 hes)
       clear HS0 hes
       have cc3 : w9.cell? ⟨b, 3, none⟩ = some (.slice ap ps.length cp) := A1 HS.out.1.ss.bx rfl
       have cc4 : w9.cell? ⟨b, 4, none⟩ = some (.slice ae es.length ce) := A1 HS.out.1.ss.bx rfl
       obtain ⟨z0, z1, z2, z3, z4⟩ := An H9.out.2.2.2.2.1 rfl rfl rfl rfl rfl
       have f0 : w9.frozen? ⟨w6.heap.size, 0, none⟩ = false := A4 H9.out.2.2.2.2.1
       have f1 : w9.frozen? ⟨w6.heap.size, 1, none⟩ = false := A4 H9.out.2.2.2.2.1
       have f2 : w9.frozen? ⟨w6.heap.size, 2, none⟩ = false := A4 H9.out.2.2.2.2.1
       have f3 : w9.frozen? ⟨w6.heap.size, 3, none⟩ = false := A4 H9.out.2.2.2.2.1
       have f4 : w9.frozen? ⟨w6.heap.size, 4, none⟩ = false := A4 H9.out.2.2.2.2.1
       go_upto_region 14 with fail
       go_cut [15] (fun v15 W => v15 = .pointer (some ⟨w6.heap.size, 0, none⟩) ∧ Hid (Ab w9 W (fun k => k = w6.heap.size) ∧ W.heap[w6.heap.size]? = some (.cells #[.int .i64 (ps.length : Int), .int .i64 (m : Int), .slice av S0.length cv, .slice none 0 0, .slice ae es.length ce] 25 (0, 0))))
       case first =>
        go_region_with fail
        all_goals
         first | (go_wp2_with fail; go_meet) | go_meet
         exact ⟨rfl, A0 (Ls H9.out.2.2.2.2.1)⟩
       case rest =>
        rename World => W14
        obtain ⟨rfl, H14⟩ := hcut
        clear cc3 cc4 z0 z1 z2 z3 z4 f0 f1 f2 f3 f4
        have HX14 : Hid (W14.heap[w1.heap.size]? = some (.cells #[.int .i64 (N : Int), .int .i64 (m : Int), .slice (some ⟨g1, 0, none⟩) S1.length k1, .slice (some ⟨g2, 0, none⟩) F1.length k2, .slice (some ⟨g3, 0, none⟩) E1.length k3] 25 (0, 0)) ∧ W14.heap[w1.heap.size + 1]? = some (.cells #[.int .i64 (M : Int), .int .i64 (m : Int), .slice (some ⟨r1, 0, none⟩) S2.length q1, .slice (some ⟨r2, 0, none⟩) F2.length q2, .slice (some ⟨r3, 0, none⟩) E2.length q3] 25 (0, 0))) := A0 (by
         have l := HDD.out
         have l1 := (Array.getElem?_eq_some_iff.1 HW.out.1).1
         have l2 := (Array.getElem?_eq_some_iff.1 HW.out.2.1).1
         exact ⟨H14.out.1.cellK H9.out.2.2.1 (by omega), H14.out.1.cellK H9.out.2.2.2.1 (by omega)⟩)
        have HB14 : Hid (Below W1.heap.size W1 W14) := A0 (H9.out.2.2.2.2.2.trans (H14.out.1.toBelow H9.out.2.2.2.2.2.size (fun k e => by have := HDD.out; omega)))
        have HS14 : Hid (SS D W14 b bm (.func (.func 69) #[] #[.pointer (some ⟨b1, 0, none⟩), .pointer (some ⟨b2, 0, none⟩)]) bud (.slice ap ps.length cp) (.slice ae es.length ce) vn9 ps es nn xn) := A0 (by
         have l := HDD.out
         exact HS.out.1.ss.onlyR H14.out.1 (by omega) (by omega) (fun k hk e => by have := (HS.out.1.ss.po.lt k hk).1; omega) (fun k hk e => by have := (HS.out.1.ss.eo.lt k hk).1; omega) (fun k hk e => by have := (HS.out.1.ss.no.lt k hk).1; omega))
        have HBD : Hid (∀ x ∈ ps, (0 ≤ x.1 ∧ x.1 < (N : Int)) ∧ 0 ≤ x.2 ∧ x.2 < (M : Int)) := A0 (fun x hx => by
         obtain ⟨p, q, rfl, l1, l2⟩ := HS.out.1.rn.bd x hx
         simp only
         omega)
        have T3 := A0 (fun (W : World) (d : Below W14.heap.size W14 W) => BL W N (m : Int) (some ⟨g1, 0, none⟩) (some ⟨g2, 0, none⟩) (some ⟨g3, 0, none⟩) k1 k2 k3 S1.length E1.length F1 (A0 (AM ((HX.out.on HB14.out).on d).f)) (A0 Hin.out.2.1) (by have := hl.out; omega) (by omega))
        have T4 := A0 (fun (W : World) (d : Below W14.heap.size W14 W) => BL W M (m : Int) (some ⟨r1, 0, none⟩) (some ⟨r2, 0, none⟩) (some ⟨r3, 0, none⟩) q1 q2 q3 S2.length E2.length F2 (A0 (AM ((HY.out.on HB14.out).on d).f)) (A0 Hin.out.2.2.2) (by have := hl.out; omega) (by omega))
        have T5 := A0 (fun (W : World) (d : Below W14.heap.size W14 W) (h1 h2 : Nat) (y1 : Bd W h1 4 N (fun c => .bool (Ay F1 c)) N) (y2 : Bd W h2 4 M (fun c => .bool (Ay F2 c)) M) => G9 W D b bm (.func (.func 69) #[] #[.pointer (some ⟨b1, 0, none⟩), .pointer (some ⟨b2, 0, none⟩)]) bud (.slice ap ps.length cp) (.slice ae es.length ce) vn9 ps es nn xn h1 h2 N M (Ay F1) (Ay F2) (A0 (HS14.out.on d)) (A0 y1) (A0 y2) HBD HS.out.1.pl)
        obtain ⟨Fn, hFn⟩ : ∃ Fn, Cj (Ay F1) (Ay F2) ps ps.length = Fn := ⟨_, rfl⟩
        rw [hFn] at T5
        have HFn := A0 hFn
        clear hFn
        go_upto_region 15 with fail
        go_cut [15] (fun v15 W => v15 = .pointer (some ⟨w6.heap.size, 0, none⟩) ∧ ∃ aF cF, Hid (Ab w9 W (fun k => k = w6.heap.size) ∧ W.heap[w6.heap.size]? = some (.cells #[.int .i64 (ps.length : Int), .int .i64 (m : Int), .slice av S0.length cv, .slice aF Fn.length cF, .slice ae es.length ce] 25 (0, 0)) ∧ W.ownsRow W14.heap.size 3 1 (.slice aF Fn.length cF) Fn.length (Fn.map (Value.int .i64))))
        case first =>
         have hmo : AJ 0 [vI 0 (.agg #[.int .i64 (N : Int), .int .i64 (m : Int), .slice (some ⟨g1, 0, none⟩) S1.length k1, .slice (some ⟨g2, 0, none⟩) F1.length k2, .slice (some ⟨g3, 0, none⟩) E1.length k3]), pI 1 (P9 (Ay F1) N), vI 2 (.agg #[.int .i64 (M : Int), .int .i64 (m : Int), .slice (some ⟨r1, 0, none⟩) S2.length q1, .slice (some ⟨r2, 0, none⟩) F2.length q2, .slice (some ⟨r3, 0, none⟩) E2.length q3]), pI 3 (P9 (Ay F2) M), pI 4 (PF W14.heap.size Fn)] := ⟨A2 _ _, Am E9, A2 _ _, Am E9, Am IQ, trivial⟩
         refine Aj _ (by kernel_rfl) (by kernel_rfl) (by kernel_rfl) (by kernel_rfl) hmo ⟨?o0, ?o1, ?o2, ?o3, ?o4, trivial⟩ ?fin
         case o0 =>
          intro At yy W hy hb d hd K hK
          obtain ⟨s11, s11'⟩ := AG (hb 11 rfl : _ = .pointer (some ⟨w1.heap.size, 0, none⟩))
          clear hd hy hb
          have bxX := A3 HX14.out.1 d
          have bxY := A3 HX14.out.2 d
          obtain ⟨cx0, cx1, cx2, cx3, cx4⟩ := An bxX rfl rfl rfl rfl rfl
          obtain ⟨cy0, cy1, cy2, cy3, cy4⟩ := An bxY rfl rfl rfl rfl rfl
          clear bxX bxY
          go_simp
          exact Ak hK hmo d (if_pos rfl)
         case o1 =>
          intro At yy W hy hb d hd K hK
          obtain ⟨s68, s68'⟩ := Ao 0 68 .data hy hd rfl
          clear hd hy hb
          go_simp
          go_wp2_with (go_at_call 38; refine (T3.out _ d).mono ?_; rintro e wa ⟨gf, rfl, hR, dR⟩)
          exact hK.out _ wa (Av hmo d dR) ⟨gf, if_pos rfl, hR.out.1⟩
         case o2 =>
          intro At yy W hy hb d hd K hK
          obtain ⟨s12, s12'⟩ := AG (hb 12 rfl : _ = .pointer (some ⟨w1.heap.size + 1, 0, none⟩))
          clear hd hy hb
          have bxX := A3 HX14.out.1 d
          have bxY := A3 HX14.out.2 d
          obtain ⟨cx0, cx1, cx2, cx3, cx4⟩ := An bxX rfl rfl rfl rfl rfl
          obtain ⟨cy0, cy1, cy2, cy3, cy4⟩ := An bxY rfl rfl rfl rfl rfl
          clear bxX bxY
          go_simp
          exact Ak hK hmo d (if_pos rfl)
         case o3 =>
          intro At yy W hy hb d hd K hK
          obtain ⟨s70, s70'⟩ := Ao 2 70 .data hy hd rfl
          clear hd hy hb
          go_simp
          go_wp2_with (go_at_call 38; refine (T4.out _ d).mono ?_; rintro e wa ⟨gf, rfl, hR, dR⟩)
          exact hK.out _ wa (Av hmo d dR) ⟨gf, if_pos rfl, hR.out.1⟩
         case o4 =>
          intro At yy W hy hb d hd K hK
          have f1 := hd ⟨1, .data⟩ (by simp) rfl rfl
          have f3 := hd ⟨3, .data⟩ (by simp) rfl rfl
          obtain ⟨_, _, _, _, h1, e1, y1⟩ := f1
          obtain ⟨_, _, _, _, h2, e3, y3⟩ := f3
          obtain ⟨s14, s14'⟩ := AG (hb 14 rfl : _ = .pointer (some ⟨b, 0, none⟩))
          obtain ⟨s69, s69'⟩ := AG ((hy 1 _ 69 rfl rfl).trans e1)
          obtain ⟨s71, s71'⟩ := AG ((hy 3 _ 71 rfl rfl).trans e3)
          clear hd hy hb
          go_simp
          go_wp2_with (go_at_call 37; refine (T5.out _ d h1 h2 y1 y3).mono ?_; rintro e wa ⟨v', rfl, hR⟩; obtain ⟨aF, cF, rfl⟩ := A8 hR.out.1)
          exact hK.out _ wa (Av hmo d hR.out.2) ⟨aF, cF, if_pos rfl, Ac hR.out.1 d.size⟩
         case fin =>
          intro yy lo hi W hM
          show wpList _ _ _ [_, _] _ _
          have e0 := hM.v 0 (by simp) rfl rfl rfl
          have e2 := hM.v 2 (by simp) rfl rfl rfl
          obtain ⟨aF, cF, e4, y4⟩ := hM.fact 4 (by simp) rfl (Ad 4 rfl)
          obtain ⟨_, e1, _⟩ := hM.fact 1 (by simp) rfl (Ad 1 rfl)
          obtain ⟨_, e3, _⟩ := hM.fact 3 (by simp) rfl (Ad 3 rfl)
          have HDD := A0 hM.d
          simp only [Aw, Act.put, List.take, List.length, List.setIfInBounds_toArray, List.set_cons_zero, List.set_cons_succ, e0, e2, e1, e3, e4]
          clear hM hmo e0 e2 e1 e3 e4
          have z9 := A3 H14.out.2 HDD.out
          have HF := A0 (Lx HDD.out z9 y4 H14.out.1)
          have z3 : W.cell? ⟨w6.heap.size, 3, none⟩ = some (.slice none 0 0) := A1 z9 rfl
          have f3 : W.frozen? ⟨w6.heap.size, 3, none⟩ = false := A4 z9
          clear z9 y4
          go_wp2_with fail
          go_meet
          exact ⟨rfl, aF, cF, HF⟩
        case rest =>
         rename World => W15
         obtain ⟨rfl, aF, cF, H15⟩ := hcut
         clear T3 T4 T5
         have l := HDD.out
         have s3 := HW.out.2.2.2.1
         have cc3 : W15.cell? ⟨b, 3, none⟩ = some (.slice ap ps.length cp) := A1 (H15.out.1.cellK HS.out.1.ss.bx (by omega)) rfl
         obtain ⟨z0, z1, z2, z3, z4⟩ := An H15.out.2.1 rfl rfl rfl rfl rfl
         have F4 := H15.out.1.cellK H9.out.2.1 (show ¬ w.heap.size + 1 + 1 = w6.heap.size by omega)
         obtain ⟨o0, o1, o2, o3, o4⟩ := An F4 rfl rfl rfl rfl rfl
         have fz0 : W15.frozen? ⟨w.heap.size + 1 + 1, 0, none⟩ = false := A4 F4
         have fz1 : W15.frozen? ⟨w.heap.size + 1 + 1, 1, none⟩ = false := A4 F4
         have fz2 : W15.frozen? ⟨w.heap.size + 1 + 1, 2, none⟩ = false := A4 F4
         have fz3 : W15.frozen? ⟨w.heap.size + 1 + 1, 3, none⟩ = false := A4 F4
         have fz4 : W15.frozen? ⟨w.heap.size + 1 + 1, 4, none⟩ = false := A4 F4
         have O6 := A0 (And.intro (AT W15 (w.heap.size + 1 + 1) _ _ _ _ _ (.int .i64 (ps.length : Int)) (.int .i64 (m : Int)) (.slice av S0.length cv) (.slice aF Fn.length cF) (.slice ae es.length ce) 25 F4) (AF W15 (w.heap.size + 1 + 1) (.int .i64 (ps.length : Int)) (.int .i64 (m : Int)) (.slice av S0.length cv) (.slice aF Fn.length cF) (.slice ae es.length ce)))
         have HF4 := A0 F4
         clear F4
         have HRES : Hid (Bi Cq (BF bud0) m S1 F1 E1 S2 F2 E2 = ⟨(ps.length : Int), (m : Int), 0, ps, S0, Fn, es⟩) := A0 (by
          rw [HBU.out, ← HFn.out]
          exact Hg HG.out.2 (HS.out.1.rn.fin HS.out.1.pl HS.out.2))
         have HFIN : Hid (∀ W', Ab W15 W' (fun k => k = w.heap.size + 1 + 1) → AE w.heap.size W' (.slice av S0.length cv) (.slice aF Fn.length cF) (.slice ae es.length ce) S0 Fn es ∧ W'.ownsRow w.heap.size 57 2 (.slice ap ps.length cp) ps.length (ps.flatMap Bn) ∧ Below w.heap.size w W') := A0 (fun W' o => by
          have e7 := hDe
          have e8 := HB7.out.size
          have e9 := H14.out.1.size
          have ea := HO9.out.size
          have ec := HG.out.1.on.size
          have eb := H8.out.2.2.2.2.2.2.size
          have lt1 := fun k hk => HG.out.1.ow.lt k hk
          have r1 := A9 HG.out.1.ow H8.out.2.2.2.2.2.2 (fun k hk e => by have := (lt1 k hk).1; omega)
          have r2 := A9 r1 HO9.out (fun k hk e => by have := (lt1 k hk).1; have := HKV.out.2.1 k hk; omega)
          have r3 := A9 r2 H15.out.1 (fun k hk e => by have := (lt1 k hk).1; omega)
          have r4 := A9 r3 o (fun k hk e => by have := (lt1 k hk).1; omega)
          have f4 := A9 H15.out.2.2 o (fun k hk e => by have := (H15.out.2.2.lt k hk).1; omega)
          have g3 := A9 HS.out.1.ss.eo H15.out.1 (fun k hk e => by have := (HS.out.1.ss.eo.lt k hk).1; omega)
          have g4 := A9 g3 o (fun k hk e => by have := (g3.lt k hk).1; omega)
          have p3 := A9 HS.out.1.ss.po H15.out.1 (fun k hk e => by have := (HS.out.1.ss.po.lt k hk).1; omega)
          have p4 := A9 p3 o (fun k hk e => by have := (p3.lt k hk).1; omega)
          refine ⟨⟨Ac r4 (by omega), Ac f4 (by omega), Ac g4 (by omega), fun g hg hh => ?_⟩, Ac p4 (by omega), (H9.out.1.trans (H15.out.1.toBelow H9.out.1.size (fun k e => by omega))).trans (o.toBelow (by have := H9.out.1.size; have := H15.out.1.size; omega) (fun k e => by omega))⟩
          have u1 := (HG.out.1.ow.lt g hg).2
          have u2 := (H15.out.2.2.lt g hh).1
          omega)
         go_upto_region 16 with fail
         go_region_with fail
         all_goals
          go_wp2_with fail
          refine bodyPost_ret (As (p := 8) (q := 9) (r := 10) (ty := 25) rfl _ _ (w.heap.size + 1 + 1) 25 _ (0, 0) _ _ _ rfl rfl rfl O6.out.1 underlying25 rfl (by kernel_rfl)) rfl ?_
          have q := HFIN.out _ (Gm O6.out.2)
          exact J3 HRES.out rfl ⟨q.1, q.2.1⟩ q.2.2
     · have HRQ : Hid (Bi Cq (BF bud0) m S1 F1 E1 S2 F2 E2 = B7 er) := A0 (by
        rcases HR.out with ⟨_, q, _⟩ | ⟨q, _⟩
        · rw [HBU.out]; exact CB he2 HG.out.2 q
        · exact absurd q he2)
       have F4 := H9.out.2.1
       obtain ⟨o0, o1, o2, o3, o4⟩ := An F4 rfl rfl rfl rfl rfl
       have fz0 : w9.frozen? ⟨w.heap.size + 1 + 1, 0, none⟩ = false := A4 F4
       have fz1 : w9.frozen? ⟨w.heap.size + 1 + 1, 1, none⟩ = false := A4 F4
       have fz2 : w9.frozen? ⟨w.heap.size + 1 + 1, 2, none⟩ = false := A4 F4
       have fz3 : w9.frozen? ⟨w.heap.size + 1 + 1, 3, none⟩ = false := A4 F4
       have fz4 : w9.frozen? ⟨w.heap.size + 1 + 1, 4, none⟩ = false := A4 F4
       have O6 := A0 (And.intro (AT w9 (w.heap.size + 1 + 1) _ _ _ _ _ (.int .i64 0) (.int .i64 0) (.slice none 0 0) (.slice none 0 0) (.slice none 0 0) 25 F4) (AF w9 (w.heap.size + 1 + 1) (.int .i64 0) (.int .i64 0) (.slice none 0 0) (.slice none 0 0) (.slice none 0 0)))
       clear F4
       go_wp2_with fail
       refine bodyPost_ret (As (p := 8) (q := 9) (r := 10) (ty := 25) rfl _ _ (w.heap.size + 1 + 1) 25 _ (0, 0) _ _ _ rfl rfl rfl O6.out.1 underlying25 rfl (by kernel_rfl)) rfl ?_
       have s2 := HW.out.2.2.2.1
       have s3 := H9.out.1.size
       exact AX HRQ.out rfl (H9.out.1.trans (O6.out.2.toBelow (by omega) (fun k hk => by omega)))
   · have HRQ : Hid (Bi Cq (BF bud0) m S1 F1 E1 S2 F2 E2 = B7 er) := A0 (by
      rcases HB.out with ⟨_, q, _⟩ | ⟨q, _⟩
      · rw [HBU.out]; exact E3 he q
      · exact absurd q he)
     clear HB
     have F4 := H8.out.2.1
     obtain ⟨o0, o1, o2, o3, o4⟩ := An F4 rfl rfl rfl rfl rfl
     have fz0 : W8.frozen? ⟨w.heap.size + 1 + 1, 0, none⟩ = false := A4 F4
     have fz1 : W8.frozen? ⟨w.heap.size + 1 + 1, 1, none⟩ = false := A4 F4
     have fz2 : W8.frozen? ⟨w.heap.size + 1 + 1, 2, none⟩ = false := A4 F4
     have fz3 : W8.frozen? ⟨w.heap.size + 1 + 1, 3, none⟩ = false := A4 F4
     have fz4 : W8.frozen? ⟨w.heap.size + 1 + 1, 4, none⟩ = false := A4 F4
     have O6 := A0 (And.intro (AT W8 (w.heap.size + 1 + 1) _ _ _ _ _ (.int .i64 0) (.int .i64 0) (.slice none 0 0) (.slice none 0 0) (.slice none 0 0) 25 F4) (AF W8 (w.heap.size + 1 + 1) (.int .i64 0) (.int .i64 0) (.slice none 0 0) (.slice none 0 0) (.slice none 0 0)))
     clear F4
     go_wp2_with fail
     refine bodyPost_ret (As (p := 8) (q := 9) (r := 10) (ty := 25) rfl _ _ (w.heap.size + 1 + 1) 25 _ (0, 0) _ _ _ rfl rfl rfl O6.out.1 underlying25 rfl (by kernel_rfl)) rfl ?_
     have s2 := HW.out.2.2.2.1
     have s3 := H8.out.1.size
     exact AX HRQ.out rfl (H8.out.1.trans (O6.out.2.toBelow (by omega) (fun k hk => by omega)))
end Go.Proofs.YtchoopnjckcohaaGreat
