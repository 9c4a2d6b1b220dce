import Derived.Test.YtnfdifkcchciaaaDoorMu
namespace Go.Proofs.YtnfdifkcchciaaaDoor
open Go.RowKit Go.Maps

theorem lent_only {w w' : World} {R : Nat → Prop} {B g c : Nat} {l : List ByteArray} (h : Lent w B g c l) (ho : Only w w' R) (hn : ¬ R g) : Lent w' B g c l :=
  ⟨row_only h.own ho (fun b hb => by have e : g = b := by simpa [Value.ownBlock] using hb
                                     rw [← e]; exact hn), h.cap⟩
theorem lent_set {w : World} {B g c k : Nat} {l : List ByteArray} (h : Lent w B g c l) (hk : k < l.length) (s : ByteArray) : Lent (w.setCell ⟨g, k, none⟩ (.string s)) B g c (l.set k s) := by
  refine ⟨?_, by rw [List.length_set]; exact h.cap⟩
  have := (h.own.stored k (.string s)).1
  rw [List.length_set]
  have e : (strV (l ++ [spare])).set k (.string s) = strV (l.set k s ++ [spare]) := by
    unfold strV
    rw [← List.map_set, List.set_append_left _ _ hk]
  rw [e] at this
  exact this
theorem lent_at {w : World} {B g c k : Nat} {l : List ByteArray} (h : Lent w B g c l) (hk : k < l.length) : w.cell? ⟨g, k, none⟩ = some (.string l[k]) := by
  rw [h.own.cellAt k (by omega)]
  have e : (strV (l ++ [spare]))[k]? = (strV l)[k]? := by
    unfold strV
    rw [List.map_append, List.getElem?_append_left (by simpa using hk)]
  rw [e]
  simp [strV, hk]
theorem sml_set {l : List ByteArray} {k : Nat} {s : ByteArray} (h : Sml l) (hs : s.size ≤ 1048576) : Sml (l.set k s) := by
  refine ⟨by rw [List.length_set]; exact h.1, fun x hx => ?_⟩
  rcases List.mem_or_eq_of_mem_set hx with h1 | h1
  · exact h.2 x h1
  · rw [h1]; exact hs

/-- Three lent lists that are written over in their places. -/
structure Tr (w0 : World) (B : Nat) (G C N : Nat → Nat) (Ls : Nat → List ByteArray) (w : World) : Prop where
  len : ∀ i, i < 3 → (Ls i).length = N i
  sml : ∀ i, i < 3 → Sml (Ls i)
  lent : ∀ i, i < 3 → Lent w B (G i) (C i) (Ls i)
  ne : ∀ i j, i < 3 → j < 3 → i ≠ j → G i ≠ G j
  O : Only w0 w (fun x => ∃ i, i < 3 ∧ x = G i)
theorem Tr.below {w0 : World} {B : Nat} {G C N : Nat → Nat} {Ls : Nat → List ByteArray} {w w' : World} (h : Tr w0 B G C N Ls w) (d : Below w.heap.size w w') : Tr w0 B G C N Ls w' :=
  ⟨h.len, h.sml, fun i hi => (h.lent i hi).below d, h.ne, h.O.trans (Only.ofBelow d)⟩
def updL (Ls : Nat → List ByteArray) (q : Nat) (l : List ByteArray) : Nat → List ByteArray := fun j => if j = q then l else Ls j
theorem Tr.set {w0 : World} {B : Nat} {G C N : Nat → Nat} {Ls : Nat → List ByteArray} {w : World} {q k : Nat} {s : ByteArray} (h : Tr w0 B G C N Ls w) (hq : q < 3) (hk : k < N q) (hs : s.size ≤ 1048576) :
    Tr w0 B G C N (updL Ls q ((Ls q).set k s)) (w.setCell ⟨G q, k, none⟩ (.string s)) := by
  refine ⟨fun i hi => ?_, fun i hi => ?_, fun i hi => ?_, h.ne, h.O.set (R := fun x => ∃ i, i < 3 ∧ x = G i) ⟨q, hq, rfl⟩ k _⟩
  · unfold updL
    by_cases e : i = q
    · rw [if_pos e, List.length_set, e]; exact h.len q hq
    · rw [if_neg e]; exact h.len i hi
  · unfold updL
    by_cases e : i = q
    · rw [if_pos e]; exact sml_set (h.sml q hq) hs
    · rw [if_neg e]; exact h.sml i hi
  · unfold updL
    by_cases e : i = q
    · subst e; rw [if_pos rfl]; exact lent_set (h.lent i hi) (by rw [h.len i hi]; exact hk) s
    · rw [if_neg e]; exact lent_only (h.lent i hi) (only_one w (G q) k _) (h.ne i q hi hq e)
theorem Tr.at_ {w0 : World} {B : Nat} {G C N : Nat → Nat} {Ls : Nat → List ByteArray} {w : World} {q k : Nat} (h : Tr w0 B G C N Ls w) (hq : q < 3) (hk : k < N q) : ∃ s : ByteArray, w.cell? ⟨G q, k, none⟩ = some (.string s) ∧ s.size ≤ 1048576 ∧ w.frozen? ⟨G q, k, none⟩ = false :=
  ⟨_, lent_at (h.lent q hq) (by rw [h.len q hq]; exact hk), (h.sml q hq).2 _ (List.getElem_mem _), (h.lent q hq).own.frozenAt _⟩
theorem Tr.str {w0 : World} {B : Nat} {G C N : Nat → Nat} {Ls : Nat → List ByteArray} {w : World} {q : Nat} (h : Tr w0 B G C N Ls w) (hq : q < 3) : StrS w (.slice (some ⟨G q, 0, none⟩) (N q) (C q)) (Ls q) := by
  have := (h.lent q hq).str
  rwa [h.len q hq] at this

theorem left_n (B g c n : Nat) (l : List ByteArray) (vl : Value) (w : World) (hn : l.length = n) (h : Hid (Lent w B g c l)) (hl : StrS w vl l) (hs : l.length ≤ 2097152) :
    Calls Tryd.prog 37 #[.slice (some ⟨g, 0, none⟩) n c, vl] w fun e w' => e = .returned (.bool true) ∧ Below w.heap.size w w' := by
  have := left_yes B g c l vl w h hl hs
  rwa [hn] at this
theorem rnlen (l f t : List ByteArray) : (rnL l f t).length ≤ l.length := by
  unfold rnL
  by_cases h : rnC l f t = 0
  · rw [if_pos h, renL_length]; exact Nat.le_refl _
  · rw [if_neg h]; exact Nat.zero_le _
theorem mlens (a b : List ByteArray) : (mL a b).length ≤ a.length + b.length ∧ (mP a b).length ≤ a.length ∧ (mQ a b).length ≤ b.length := by
  unfold mL mP mQ
  by_cases h : mrgC a b = 0
  · rw [if_pos h, if_pos h, if_pos h, List.length_range, qOf_length]
    exact ⟨mrg_len a b, Nat.le_refl _, Nat.le_refl _⟩
  · rw [if_neg h, if_neg h, if_neg h]
    exact ⟨Nat.zero_le _, Nat.zero_le _, Nat.zero_le _⟩
theorem bytes_only {w w' : World} {R : Nat → Prop} (h : BytesAt w) (ho : Only w w' R) (h0 : 0 < w.heap.size) (hn : ¬ R 0) : BytesAt w' := fun j hj => (World.cell?_of_block (a := ⟨0, j, none⟩) (ho.block 0 h0 hn)).trans (h j hj)
theorem pow_only {w w' : World} {R : Nat → Prop} (h : PowAt w) (ho : Only w w' R) (h1 : 1 < w.heap.size) (hn : ¬ R 1) : PowAt w' := by
  unfold PowAt Lib.TabIs World.var? at h ⊢
  rw [gPow] at h ⊢
  simp only [Option.bind_some] at h ⊢
  rw [ho.block 1 h1 hn]
  exact h
/-- The three lists, what was lent of them, the tables. -/
structure Tq (w0 : World) (B : Nat) (G C N : Nat → Nat) (Ls : Nat → List ByteArray) (X CX : Nat → Nat) (w : World) : Prop where
  tr : Tr w0 B G C N Ls w
  lx : ∀ i, i < 3 → Lent w 0 (X i) (CX i) (Ls i)
  bt : BytesAt w
  pw : PowAt w
  sz : 1 < w.heap.size
theorem Tq.below {w0 : World} {B : Nat} {G C N : Nat → Nat} {Ls : Nat → List ByteArray} {X CX : Nat → Nat} {w w' : World} (h : Tq w0 B G C N Ls X CX w) (d : Below w.heap.size w w') : Tq w0 B G C N Ls X CX w' :=
  ⟨h.tr.below d, fun i hi => (h.lx i hi).below d, h.bt.below d (by have := h.sz; omega), h.pw.below d h.sz, Nat.lt_of_lt_of_le h.sz d.size⟩
def tri (a b c : Nat) : Nat → Nat
  | 0 => a | 1 => b | _ => c
theorem lent_zero {w : World} {g c : Nat} {l : List ByteArray} {B : Nat} (h : w.ownsRow B 9 1 (.slice (some ⟨g, 0, none⟩) (l.length + 1) c) (l.length + 1) (strV (l ++ [spare]))) (hc : l.length + 1 ≤ c) : Lent w 0 g c l := ⟨row_zero h, hc⟩

set_option maxRecDepth 100000 in
set_option maxHeartbeats 4000000 in
/-- turned. -/
theorem turned_any (B : Nat) (G C N : Nat → Nat) (Ls : Nat → List ByteArray) (head : ByteArray) (w : World) (h0 : Hid (Tr w B G C N Ls w)) (hN : ∀ i, i < 3 → N i ≤ 1048576) (hh : head.size + 1 ≤ 1048576) (hT : BytesAt w) (hP : PowAt w) (hw0 : 1 < w.heap.size) (hG : ∀ i, i < 3 → 1 < G i) :
    Calls Tryd.prog 38 #[.slice (some ⟨G 0, 0, none⟩) (N 0) (C 0), .slice (some ⟨G 1, 0, none⟩) (N 1) (C 1), .slice (some ⟨G 2, 0, none⟩) (N 2) (C 2), .string head] w fun e w' => e = .returned (.bool true) ∧ Only w w' (fun x => ∃ i, i < 3 ∧ x = G i) := by
  obtain ⟨T, hTT⟩ : ∃ T, w.heap.size = T := ⟨_, rfl⟩
  obtain ⟨w1, hw1⟩ : ∃ w1, w.alloc (.cells #[.slice (some ⟨G 0, 0, none⟩) (N 0) (C 0), .slice (some ⟨G 1, 0, none⟩) (N 1) (C 1), .slice (some ⟨G 2, 0, none⟩) (N 2) (C 2)] 85) = w1 := ⟨_, rfl⟩
  go_enter Tryd.func38, Tryd.ntmps38
  go_wp2
  have hlt3 : ∀ i, i < 3 → G i < w.heap.size := fun i hi => ((h0.out.lent i hi).own.lt (G i) rfl).2
  have hTr1 : Hid (Tr w1 B G C N Ls w1) := by
    have d : Below w.heap.size w w1 := by rw [← hw1]; exact below_new _ _
    have := h0.out.below d
    exact ⟨this.len, this.sml, this.lent, this.ne, Only.ofBelow (Below.refl _ _)⟩
  have HW : Hid (Below w.heap.size w w1 ∧ w1.heap.size = T + 1 ∧ ∀ q, q < 3 → w1.cell? ⟨T, q, none⟩ = some (.slice (some ⟨G q, 0, none⟩) (N q) (C q))) := by
    refine ⟨by rw [← hw1]; exact below_new _ _, by rw [← hw1, ← hTT]; exact World.size_alloc _ _, fun q hq => ?_⟩
    rw [← hw1, ← hTT, cell_of_row _ w.heap.size q _ 85 (0, 0) (heap_alloc_new w _)]
    match q, hq with
    | 0, _ => rfl
    | 1, _ => rfl
    | 2, _ => rfl
  have HG := hide (And.intro hlt3 hG)
  have HN := hide hN
  clear h0 hlt3 hG hN hw1
  go_loopw [37] (fun kk wr => ∃ (k : Nat) (Ls : Nat → List ByteArray), k ≤ 6 ∧ kk = .int .i64 k ∧ Hid (Tr w1 B G C N Ls wr)) (fun kk _ => 6 - (intOf kk).toNat)
  case atStart => exact ⟨0, Ls, Nat.zero_le _, rfl, hTr1⟩
  case round =>
    clear hTr1
    obtain ⟨k, L1, hk, rfl, T1⟩ := hrel
    by_cases hlt : k < 6
    · obtain ⟨q, hq⟩ : ∃ q, k / 2 = q := ⟨_, rfl⟩
      have hq3 : q < 3 := by omega
      have hdiv : (k : Int).tdiv 2 = (q : Int) := by rw [← hq]; rfl
      have hcT : wr.cell? ⟨T, q, none⟩ = some (.slice (some ⟨G q, 0, none⟩) (N q) (C q)) := by
        have h1 := HW.out.2.2 q hq3
        refine (World.cell?_of_block (w := w1) (T1.out.O.block T (by have := HW.out.2.1; omega) ?_)).trans h1
        rintro ⟨i, hi, e⟩
        have := HG.out.1 i hi
        omega
      have hi6 : (k : Int) < 6 := by omega
      have j0 : (0 : Int) ≤ (q : Int) := by omega
      have j3 : (q : Int) < 3 := by omega
      have HQ := hide hq
      clear hq
      have hNq := HN.out q hq3
      obtain ⟨r, hr⟩ : ∃ r, k % 2 = r := ⟨_, rfl⟩
      have hr2 : r < 2 := by omega
      have hrem : (k : Int).tmod 2 = (r : Int) := by rw [← hr]; rfl
      have HR := hide hr
      clear hr
      go_wp2
      go_loopw [12, 13] (fun ii jj wr => ∃ (i : Nat) (L2 : Nat → List ByteArray), ii = .int .i64 i ∧ jj = .int .i64 ((N q : Int) - 1 - i) ∧ i ≤ N q ∧ Hid (Tr w1 B G C N L2 wr)) (fun ii jj _ => (intOf jj - intOf ii + 1).toNat)
      case atStart => exact ⟨0, L1, rfl, by simp, Nat.zero_le _, T1⟩
      case round =>
        clear T1 hcT
        obtain ⟨i, L2, rfl, rfl, hi, T2⟩ := hrel
        by_cases hgo : r = 0 ∧ (i : Int) < (N q : Int) - 1 - i
        · obtain ⟨rfl, hij⟩ := hgo
          obtain ⟨j, hj⟩ : ∃ j : Nat, (N q : Int) - 1 - i = (j : Int) := ⟨N q - 1 - i, by omega⟩
          obtain ⟨s1, c1, z1, f1⟩ := T2.out.at_ hq3 (show i < N q by omega)
          obtain ⟨s2, c2, z2, f2⟩ := T2.out.at_ hq3 (show j < N q by omega)
          have T3 := (T2.out.set (k := i) hq3 (by omega) z2)
          have T4 := hide (T3.set (k := j) hq3 (by omega) z1)
          rw [hj] at hij ⊢
          have hne : (⟨G q, i, none⟩ : Addr) ≠ ⟨G q, j, none⟩ := by intro e; simp at e; try omega
          have i0 : (0 : Int) ≤ (i : Int) := by omega
          have i2 : (i : Int) < (N q : Int) := by omega
          have j0 : (0 : Int) ≤ (j : Int) := by omega
          have j2 : (j : Int) < (N q : Int) := by omega
          clear T3
          go_wp2
          go_region
          have T5 := hide (T4.out.below (below_drew _))
          go_wp2
          go_roundw
          case rel => exact ⟨i + 1, _, by go_num, by rw [← hj]; go_num, by omega, T5⟩
          case measure => simp [intOf]; omega
        · by_cases hr0 : r = 0
          · subst hr0
            have hij : ¬ (i : Int) < (N q : Int) - 1 - i := fun e => hgo ⟨rfl, e⟩
            have HIJ := hide hij
            clear hgo
            obtain ⟨L6, hL6⟩ : ∃ L6, L6 = L2 := ⟨_, rfl⟩
            obtain ⟨W6, hW6⟩ : ∃ W6, W6 = wr := ⟨_, rfl⟩
            have T6 := T2
            rw [← hL6, ← hW6] at T6
            clear hL6
            go_wp2_with fail
            subst hW6
            clear T2
            have hl0 := T6.out.len 0 (by omega)
            have hl1 := T6.out.len 1 (by omega)
            have hl2 := T6.out.len 2 (by omega)
            have hn0 := HN.out 0 (by omega)
            have hn1 := HN.out 1 (by omega)
            have hn2 := HN.out 2 (by omega)
            have HB : Hid ((L6 0).length ≤ 1048576 ∧ (L6 1).length ≤ 1048576 ∧ (L6 2).length ≤ 1048576) := ⟨by omega, by omega, by omega⟩
            have HTB : Hid (BytesAt W6 ∧ PowAt W6 ∧ 1 < W6.heap.size) := by
              have hb := HW.out.1
              have hs1 := HW.out.2.1
              have hO := T6.out.O
              refine ⟨bytes_only (hT.below hb (by omega)) hO (by omega) ?_, pow_only (hP.below hb hw0) hO (by omega) ?_, by have := hO.size; omega⟩
              · rintro ⟨i, hi, e⟩
                have := HG.out.2 i hi
                omega
              · rintro ⟨i, hi, e⟩
                have := HG.out.2 i hi
                omega
            clear hl0 hl1 hl2 hn0 hn1 hn2
            refine (lent_any _ (L6 0) _ (T6.out.str (by omega)) (by have := HB.out.1; omega)).mono ?_
            rintro e w2 ⟨gx, cx, rfl, hcx, ox, d2⟩
            have X1 := hide (lent_zero ox hcx)
            have T7 := hide (T6.out.below d2)
            have HTB2 : Hid (BytesAt w2 ∧ PowAt w2 ∧ 1 < w2.heap.size) := ⟨HTB.out.1.below d2 (by have := HTB.out.2.2; omega), HTB.out.2.1.below d2 HTB.out.2.2, Nat.lt_of_lt_of_le HTB.out.2.2 d2.size⟩
            clear ox hcx d2 T6 HTB
            go_wp2_with fail
            refine (lent_any _ (L6 1) _ (T7.out.str (by omega)) (by have := HB.out.2.1; omega)).mono ?_
            rintro e w3 ⟨gy, cy, rfl, hcy, oy, d3⟩
            have Y1 := hide (lent_zero oy hcy)
            have X2 := hide (X1.out.below d3)
            have T8 := hide (T7.out.below d3)
            have HTB3 : Hid (BytesAt w3 ∧ PowAt w3 ∧ 1 < w3.heap.size) := ⟨HTB2.out.1.below d3 (by have := HTB2.out.2.2; omega), HTB2.out.2.1.below d3 HTB2.out.2.2, Nat.lt_of_lt_of_le HTB2.out.2.2 d3.size⟩
            clear oy hcy d3 T7 HTB2 X1
            go_wp2_with fail
            refine (lent_any _ (L6 2) _ (T8.out.str (by omega)) (by have := HB.out.2.2; omega)).mono ?_
            rintro e w4 ⟨gz, cz, rfl, hcz, oz, d4⟩
            have Q4 : Hid (Tq w1 B G C N L6 (tri gx gy gz) (tri cx cy cz) w4) := by
              refine ⟨T8.out.below d4, fun i hi => ?_, HTB3.out.1.below d4 (by have := HTB3.out.2.2; omega), HTB3.out.2.1.below d4 HTB3.out.2.2, Nat.lt_of_lt_of_le HTB3.out.2.2 d4.size⟩
              match i, hi with
              | 0, _ => exact X2.out.below d4
              | 1, _ => exact Y1.out.below d4
              | 2, _ => exact lent_zero oz hcz
            clear oz hcz d4 T8 HTB3 X2 Y1
            go_wp2_with fail
            refine (rmerge_u _ _ (L6 0) (L6 1) _ (Q4.out.lx 0 (by omega)).str (Q4.out.lx 1 (by omega)).str (by have := HB.out.1; omega) (by have := HB.out.2.1; omega)).mono ?_
            rintro e w5 ⟨⟨uu, up, uq, rfl, mo⟩, d5⟩
            have Q5 := hide (Q4.out.below d5)
            have M5 := hide mo
            clear mo d5 Q4
            go_wp2_with fail
            refine (merge_u _ _ (L6 0) (L6 1) _ (Q5.out.tr.str (by omega)) (Q5.out.tr.str (by omega)) (by have := HB.out.1; omega) (by have := HB.out.2.1; omega) (Q5.out.tr.sml 0 (by omega)) (Q5.out.tr.sml 1 (by omega)) Q5.out.bt (by have := Q5.out.sz; omega)).mono ?_
            rintro e w6 ⟨⟨vv, vr, vs, rfl, mo, _⟩, d6⟩
            have Q6 := hide (Q5.out.below d6)
            have HS : Hid (StrS w6 uu (mL (L6 0) (L6 1)) ∧ StrS w6 vv (mL (L6 0) (L6 1)) ∧ IntS w6 up (mP (L6 0) (L6 1)) ∧ IntS w6 vr (mP (L6 0) (L6 1)) ∧ IntS w6 uq (mQ (L6 0) (L6 1)) ∧ IntS w6 vs (mQ (L6 0) (L6 1))) :=
              ⟨M5.out.1.str.below d6, mo.1.str, M5.out.2.1.int.below d6, mo.2.1.int, M5.out.2.2.int.below d6, mo.2.2.int⟩
            clear mo d6 Q5 M5
            have HML := hide (mlens (L6 0) (L6 1))
            go_wp2_with fail
            refine (same_any _ _ (mL (L6 0) (L6 1)) _ HS.out.1 HS.out.2.1 (by have := HB.out; have := HML.out; omega)).mono ?_
            rintro e w7 ⟨rfl, d7⟩
            have Q7 := hide (Q6.out.below d7)
            have HS7 := hide (And.intro (HS.out.2.2.1.below d7) (And.intro (HS.out.2.2.2.1.below d7) (And.intro (HS.out.2.2.2.2.1.below d7) (HS.out.2.2.2.2.2.below d7))))
            clear d7 HS Q6
            go_wp2_with fail
            refine (sameInts_any _ _ (mP (L6 0) (L6 1)) _ HS7.out.1 HS7.out.2.1 (by have := HB.out; have := HML.out; omega)).mono ?_
            rintro e w8 ⟨rfl, d8⟩
            have Q8 := hide (Q7.out.below d8)
            have HS8 := hide (And.intro (HS7.out.2.2.1.below d8) (HS7.out.2.2.2.below d8))
            clear d8 HS7 Q7
            go_wp2_with fail
            refine (sameInts_any _ _ (mQ (L6 0) (L6 1)) _ HS8.out.1 HS8.out.2 (by have := HB.out; have := HML.out; omega)).mono ?_
            rintro e w9 ⟨rfl, d9⟩
            have Q9 := hide (Q8.out.below d9)
            clear d9 HS8 Q8 HML
            go_wp2_with fail
            refine (rrename_u _ _ _ (L6 0) (L6 1) (L6 2) _ (Q9.out.lx 0 (by omega)).str (Q9.out.lx 1 (by omega)).str (Q9.out.lx 2 (by omega)).str (by have := HB.out; omega) (by have := HB.out; omega)).mono ?_
            rintro e wa ⟨⟨dv, rfl, od⟩, da⟩
            have Qa := hide (Q9.out.below da)
            have OD := hide od.str
            clear da od Q9
            go_wp2_with fail
            refine (rename_u _ _ _ (L6 0) (L6 1) (L6 2) _ (Qa.out.tr.str (by omega)) (Qa.out.tr.str (by omega)) (Qa.out.tr.str (by omega)) (Qa.out.tr.sml 0 (by omega)) (Qa.out.tr.sml 1 (by omega)) (Qa.out.tr.sml 2 (by omega)) Qa.out.bt (by have := Qa.out.sz; omega)).mono ?_
            rintro e wb ⟨⟨nv, rfl, on⟩, db⟩
            have Qb := hide (Qa.out.below db)
            have ON := hide (And.intro (OD.out.below db) on.str)
            clear db on Qa OD
            obtain ⟨fi, hfi⟩ := fresh_ex (L6 0) head
            have HFI := hide hfi
            clear hfi
            go_wp2_with fail
            refine (rfresh_any _ (L6 0) head fi _ (Qb.out.lx 0 (by omega)).str (Qb.out.tr.sml 0 (by omega)) (by omega) HFI Qb.out.pw Qb.out.sz).mono ?_
            rintro e wc ⟨rfl, dc⟩
            have Qc := hide (Qb.out.below dc)
            have OC := hide (And.intro (ON.out.1.below dc) (ON.out.2.below dc))
            clear dc Qb ON
            go_wp2_with fail
            refine (fresh_any _ (L6 0) head fi _ (Qc.out.tr.str (by omega)) (Qc.out.tr.sml 0 (by omega)) (by omega) HFI Qc.out.bt Qc.out.pw Qc.out.sz).mono ?_
            rintro e wd ⟨rfl, dd⟩
            have Qd := hide (Qc.out.below dd)
            have OE := hide (And.intro (OC.out.1.below dd) (OC.out.2.below dd))
            clear dd Qc OC
            generalize frT (numN head fi) = ft
            generalize frC (numN head fi) = fc
            go_wp2_with fail
            refine (same_any _ _ (rnL (L6 0) (L6 1) (L6 2)) _ OE.out.1 OE.out.2 (by have := HB.out; have := rnlen (L6 0) (L6 1) (L6 2); omega)).mono ?_
            rintro e we ⟨rfl, de⟩
            have Qe := hide (Qd.out.below de)
            clear de Qd OE
            go_wp2_with fail
            refine (left_n B (G 0) (C 0) (N 0) (L6 0) _ _ (Qe.out.tr.len 0 (by omega)) (hide (Qe.out.tr.lent 0 (by omega))) (Qe.out.lx 0 (by omega)).str (by have := HB.out; omega)).mono ?_
            rintro e wf ⟨rfl, df⟩
            have Qf := hide (Qe.out.below df)
            clear df Qe
            go_wp2_with fail
            refine (left_n B (G 1) (C 1) (N 1) (L6 1) _ _ (Qf.out.tr.len 1 (by omega)) (hide (Qf.out.tr.lent 1 (by omega))) (Qf.out.lx 1 (by omega)).str (by have := HB.out; omega)).mono ?_
            rintro e wg ⟨rfl, dg⟩
            have Qg := hide (Qf.out.below dg)
            clear dg Qf
            go_wp2_with fail
            refine (left_n B (G 2) (C 2) (N 2) (L6 2) _ _ (Qg.out.tr.len 2 (by omega)) (hide (Qg.out.tr.lent 2 (by omega))) (Qg.out.lx 2 (by omega)).str (by have := HB.out; omega)).mono ?_
            rintro e wh ⟨rfl, dh⟩
            have Th := hide (Qg.out.below dh).tr
            clear dh Qg
            go_wp2
            go_roundw
            case rel => exact ⟨k + 1, L6, by omega, by go_num, Th⟩
            case measure => simp [intOf]; omega
          · obtain rfl : r = 1 := by omega
            clear hgo hr0
            by_cases hpos : 0 < N q
            · obtain ⟨s1, c1, z1, f1⟩ := T2.out.at_ hq3 hpos
              have hz : (head ++ (⟨#[48]⟩ : ByteArray)).size ≤ 1048576 := by rw [ByteArray.size_append]; exact hh
              have T6 := hide (T2.out.set (k := 0) (s := head ++ (⟨#[48]⟩ : ByteArray)) hq3 hpos hz)
              have hgt : decide (0 < (N q : Int)) = true := decide_eq_true (by omega)
              have hgt2 : (0 : Int) < (N q : Int) := by omega
              obtain ⟨L6, hL6⟩ : ∃ L6, L6 = updL L2 q ((L2 q).set 0 (head ++ (⟨#[48]⟩ : ByteArray))) := ⟨_, rfl⟩
              rw [← hL6] at T6
              clear hL6 hz T2
              go_wp2_with fail
              generalize wr.setCell ⟨G q, 0, none⟩ (.string (head ++ (⟨#[48]⟩ : ByteArray))) = W6 at T6 ⊢
              have hl0 := T6.out.len 0 (by omega)
              have hl1 := T6.out.len 1 (by omega)
              have hl2 := T6.out.len 2 (by omega)
              have hn0 := HN.out 0 (by omega)
              have hn1 := HN.out 1 (by omega)
              have hn2 := HN.out 2 (by omega)
              have HB : Hid ((L6 0).length ≤ 1048576 ∧ (L6 1).length ≤ 1048576 ∧ (L6 2).length ≤ 1048576) := ⟨by omega, by omega, by omega⟩
              have HTB : Hid (BytesAt W6 ∧ PowAt W6 ∧ 1 < W6.heap.size) := by
                have hb := HW.out.1
                have hs1 := HW.out.2.1
                have hO := T6.out.O
                refine ⟨bytes_only (hT.below hb (by omega)) hO (by omega) ?_, pow_only (hP.below hb hw0) hO (by omega) ?_, by have := hO.size; omega⟩
                · rintro ⟨i, hi, e⟩
                  have := HG.out.2 i hi
                  omega
                · rintro ⟨i, hi, e⟩
                  have := HG.out.2 i hi
                  omega
              clear hl0 hl1 hl2 hn0 hn1 hn2
              refine (lent_any _ (L6 0) _ (T6.out.str (by omega)) (by have := HB.out.1; omega)).mono ?_
              rintro e w2 ⟨gx, cx, rfl, hcx, ox, d2⟩
              have X1 := hide (lent_zero ox hcx)
              have T7 := hide (T6.out.below d2)
              have HTB2 : Hid (BytesAt w2 ∧ PowAt w2 ∧ 1 < w2.heap.size) := ⟨HTB.out.1.below d2 (by have := HTB.out.2.2; omega), HTB.out.2.1.below d2 HTB.out.2.2, Nat.lt_of_lt_of_le HTB.out.2.2 d2.size⟩
              clear ox hcx d2 T6 HTB
              go_wp2_with fail
              refine (lent_any _ (L6 1) _ (T7.out.str (by omega)) (by have := HB.out.2.1; omega)).mono ?_
              rintro e w3 ⟨gy, cy, rfl, hcy, oy, d3⟩
              have Y1 := hide (lent_zero oy hcy)
              have X2 := hide (X1.out.below d3)
              have T8 := hide (T7.out.below d3)
              have HTB3 : Hid (BytesAt w3 ∧ PowAt w3 ∧ 1 < w3.heap.size) := ⟨HTB2.out.1.below d3 (by have := HTB2.out.2.2; omega), HTB2.out.2.1.below d3 HTB2.out.2.2, Nat.lt_of_lt_of_le HTB2.out.2.2 d3.size⟩
              clear oy hcy d3 T7 HTB2 X1
              go_wp2_with fail
              refine (lent_any _ (L6 2) _ (T8.out.str (by omega)) (by have := HB.out.2.2; omega)).mono ?_
              rintro e w4 ⟨gz, cz, rfl, hcz, oz, d4⟩
              have Q4 : Hid (Tq w1 B G C N L6 (tri gx gy gz) (tri cx cy cz) w4) := by
                refine ⟨T8.out.below d4, fun i hi => ?_, HTB3.out.1.below d4 (by have := HTB3.out.2.2; omega), HTB3.out.2.1.below d4 HTB3.out.2.2, Nat.lt_of_lt_of_le HTB3.out.2.2 d4.size⟩
                match i, hi with
                | 0, _ => exact X2.out.below d4
                | 1, _ => exact Y1.out.below d4
                | 2, _ => exact lent_zero oz hcz
              clear oz hcz d4 T8 HTB3 X2 Y1
              go_wp2_with fail
              refine (rmerge_u _ _ (L6 0) (L6 1) _ (Q4.out.lx 0 (by omega)).str (Q4.out.lx 1 (by omega)).str (by have := HB.out.1; omega) (by have := HB.out.2.1; omega)).mono ?_
              rintro e w5 ⟨⟨uu, up, uq, rfl, mo⟩, d5⟩
              have Q5 := hide (Q4.out.below d5)
              have M5 := hide mo
              clear mo d5 Q4
              go_wp2_with fail
              refine (merge_u _ _ (L6 0) (L6 1) _ (Q5.out.tr.str (by omega)) (Q5.out.tr.str (by omega)) (by have := HB.out.1; omega) (by have := HB.out.2.1; omega) (Q5.out.tr.sml 0 (by omega)) (Q5.out.tr.sml 1 (by omega)) Q5.out.bt (by have := Q5.out.sz; omega)).mono ?_
              rintro e w6 ⟨⟨vv, vr, vs, rfl, mo, _⟩, d6⟩
              have Q6 := hide (Q5.out.below d6)
              have HS : Hid (StrS w6 uu (mL (L6 0) (L6 1)) ∧ StrS w6 vv (mL (L6 0) (L6 1)) ∧ IntS w6 up (mP (L6 0) (L6 1)) ∧ IntS w6 vr (mP (L6 0) (L6 1)) ∧ IntS w6 uq (mQ (L6 0) (L6 1)) ∧ IntS w6 vs (mQ (L6 0) (L6 1))) :=
                ⟨M5.out.1.str.below d6, mo.1.str, M5.out.2.1.int.below d6, mo.2.1.int, M5.out.2.2.int.below d6, mo.2.2.int⟩
              clear mo d6 Q5 M5
              have HML := hide (mlens (L6 0) (L6 1))
              go_wp2_with fail
              refine (same_any _ _ (mL (L6 0) (L6 1)) _ HS.out.1 HS.out.2.1 (by have := HB.out; have := HML.out; omega)).mono ?_
              rintro e w7 ⟨rfl, d7⟩
              have Q7 := hide (Q6.out.below d7)
              have HS7 := hide (And.intro (HS.out.2.2.1.below d7) (And.intro (HS.out.2.2.2.1.below d7) (And.intro (HS.out.2.2.2.2.1.below d7) (HS.out.2.2.2.2.2.below d7))))
              clear d7 HS Q6
              go_wp2_with fail
              refine (sameInts_any _ _ (mP (L6 0) (L6 1)) _ HS7.out.1 HS7.out.2.1 (by have := HB.out; have := HML.out; omega)).mono ?_
              rintro e w8 ⟨rfl, d8⟩
              have Q8 := hide (Q7.out.below d8)
              have HS8 := hide (And.intro (HS7.out.2.2.1.below d8) (HS7.out.2.2.2.below d8))
              clear d8 HS7 Q7
              go_wp2_with fail
              refine (sameInts_any _ _ (mQ (L6 0) (L6 1)) _ HS8.out.1 HS8.out.2 (by have := HB.out; have := HML.out; omega)).mono ?_
              rintro e w9 ⟨rfl, d9⟩
              have Q9 := hide (Q8.out.below d9)
              clear d9 HS8 Q8 HML
              go_wp2_with fail
              refine (rrename_u _ _ _ (L6 0) (L6 1) (L6 2) _ (Q9.out.lx 0 (by omega)).str (Q9.out.lx 1 (by omega)).str (Q9.out.lx 2 (by omega)).str (by have := HB.out; omega) (by have := HB.out; omega)).mono ?_
              rintro e wa ⟨⟨dv, rfl, od⟩, da⟩
              have Qa := hide (Q9.out.below da)
              have OD := hide od.str
              clear da od Q9
              go_wp2_with fail
              refine (rename_u _ _ _ (L6 0) (L6 1) (L6 2) _ (Qa.out.tr.str (by omega)) (Qa.out.tr.str (by omega)) (Qa.out.tr.str (by omega)) (Qa.out.tr.sml 0 (by omega)) (Qa.out.tr.sml 1 (by omega)) (Qa.out.tr.sml 2 (by omega)) Qa.out.bt (by have := Qa.out.sz; omega)).mono ?_
              rintro e wb ⟨⟨nv, rfl, on⟩, db⟩
              have Qb := hide (Qa.out.below db)
              have ON := hide (And.intro (OD.out.below db) on.str)
              clear db on Qa OD
              obtain ⟨fi, hfi⟩ := fresh_ex (L6 0) head
              have HFI := hide hfi
              clear hfi
              go_wp2_with fail
              refine (rfresh_any _ (L6 0) head fi _ (Qb.out.lx 0 (by omega)).str (Qb.out.tr.sml 0 (by omega)) (by omega) HFI Qb.out.pw Qb.out.sz).mono ?_
              rintro e wc ⟨rfl, dc⟩
              have Qc := hide (Qb.out.below dc)
              have OC := hide (And.intro (ON.out.1.below dc) (ON.out.2.below dc))
              clear dc Qb ON
              go_wp2_with fail
              refine (fresh_any _ (L6 0) head fi _ (Qc.out.tr.str (by omega)) (Qc.out.tr.sml 0 (by omega)) (by omega) HFI Qc.out.bt Qc.out.pw Qc.out.sz).mono ?_
              rintro e wd ⟨rfl, dd⟩
              have Qd := hide (Qc.out.below dd)
              have OE := hide (And.intro (OC.out.1.below dd) (OC.out.2.below dd))
              clear dd Qc OC
              generalize frT (numN head fi) = ft
              generalize frC (numN head fi) = fc
              go_wp2_with fail
              refine (same_any _ _ (rnL (L6 0) (L6 1) (L6 2)) _ OE.out.1 OE.out.2 (by have := HB.out; have := rnlen (L6 0) (L6 1) (L6 2); omega)).mono ?_
              rintro e we ⟨rfl, de⟩
              have Qe := hide (Qd.out.below de)
              clear de Qd OE
              go_wp2_with fail
              refine (left_n B (G 0) (C 0) (N 0) (L6 0) _ _ (Qe.out.tr.len 0 (by omega)) (hide (Qe.out.tr.lent 0 (by omega))) (Qe.out.lx 0 (by omega)).str (by have := HB.out; omega)).mono ?_
              rintro e wf ⟨rfl, df⟩
              have Qf := hide (Qe.out.below df)
              clear df Qe
              go_wp2_with fail
              refine (left_n B (G 1) (C 1) (N 1) (L6 1) _ _ (Qf.out.tr.len 1 (by omega)) (hide (Qf.out.tr.lent 1 (by omega))) (Qf.out.lx 1 (by omega)).str (by have := HB.out; omega)).mono ?_
              rintro e wg ⟨rfl, dg⟩
              have Qg := hide (Qf.out.below dg)
              clear dg Qf
              go_wp2_with fail
              refine (left_n B (G 2) (C 2) (N 2) (L6 2) _ _ (Qg.out.tr.len 2 (by omega)) (hide (Qg.out.tr.lent 2 (by omega))) (Qg.out.lx 2 (by omega)).str (by have := HB.out; omega)).mono ?_
              rintro e wh ⟨rfl, dh⟩
              have Th := hide (Qg.out.below dh).tr
              clear dh Qg
              go_wp2
              go_roundw
              case rel => exact ⟨k + 1, L6, by omega, by go_num, Th⟩
              case measure => simp [intOf]; omega
            · have hN0 : N q = 0 := by omega
              have hgt : decide (0 < (N q : Int)) = false := decide_eq_false (by omega)
              have hgt2 : ¬ (0 : Int) < (N q : Int) := by omega
              have hgt3 : decide (0 < N q) = false := decide_eq_false hpos
              have HN0 := hide hN0
              clear hN0
              obtain ⟨L6, hL6⟩ : ∃ L6, L6 = L2 := ⟨_, rfl⟩
              obtain ⟨W6, hW6⟩ : ∃ W6, W6 = wr := ⟨_, rfl⟩
              have T6 := T2
              rw [← hL6, ← hW6] at T6
              clear hL6
              go_wp2_with fail
              subst hW6
              clear T2
              have hl0 := T6.out.len 0 (by omega)
              have hl1 := T6.out.len 1 (by omega)
              have hl2 := T6.out.len 2 (by omega)
              have hn0 := HN.out 0 (by omega)
              have hn1 := HN.out 1 (by omega)
              have hn2 := HN.out 2 (by omega)
              have HB : Hid ((L6 0).length ≤ 1048576 ∧ (L6 1).length ≤ 1048576 ∧ (L6 2).length ≤ 1048576) := ⟨by omega, by omega, by omega⟩
              have HTB : Hid (BytesAt W6 ∧ PowAt W6 ∧ 1 < W6.heap.size) := by
                have hb := HW.out.1
                have hs1 := HW.out.2.1
                have hO := T6.out.O
                refine ⟨bytes_only (hT.below hb (by omega)) hO (by omega) ?_, pow_only (hP.below hb hw0) hO (by omega) ?_, by have := hO.size; omega⟩
                · rintro ⟨i, hi, e⟩
                  have := HG.out.2 i hi
                  omega
                · rintro ⟨i, hi, e⟩
                  have := HG.out.2 i hi
                  omega
              clear hl0 hl1 hl2 hn0 hn1 hn2
              refine (lent_any _ (L6 0) _ (T6.out.str (by omega)) (by have := HB.out.1; omega)).mono ?_
              rintro e w2 ⟨gx, cx, rfl, hcx, ox, d2⟩
              have X1 := hide (lent_zero ox hcx)
              have T7 := hide (T6.out.below d2)
              have HTB2 : Hid (BytesAt w2 ∧ PowAt w2 ∧ 1 < w2.heap.size) := ⟨HTB.out.1.below d2 (by have := HTB.out.2.2; omega), HTB.out.2.1.below d2 HTB.out.2.2, Nat.lt_of_lt_of_le HTB.out.2.2 d2.size⟩
              clear ox hcx d2 T6 HTB
              go_wp2_with fail
              refine (lent_any _ (L6 1) _ (T7.out.str (by omega)) (by have := HB.out.2.1; omega)).mono ?_
              rintro e w3 ⟨gy, cy, rfl, hcy, oy, d3⟩
              have Y1 := hide (lent_zero oy hcy)
              have X2 := hide (X1.out.below d3)
              have T8 := hide (T7.out.below d3)
              have HTB3 : Hid (BytesAt w3 ∧ PowAt w3 ∧ 1 < w3.heap.size) := ⟨HTB2.out.1.below d3 (by have := HTB2.out.2.2; omega), HTB2.out.2.1.below d3 HTB2.out.2.2, Nat.lt_of_lt_of_le HTB2.out.2.2 d3.size⟩
              clear oy hcy d3 T7 HTB2 X1
              go_wp2_with fail
              refine (lent_any _ (L6 2) _ (T8.out.str (by omega)) (by have := HB.out.2.2; omega)).mono ?_
              rintro e w4 ⟨gz, cz, rfl, hcz, oz, d4⟩
              have Q4 : Hid (Tq w1 B G C N L6 (tri gx gy gz) (tri cx cy cz) w4) := by
                refine ⟨T8.out.below d4, fun i hi => ?_, HTB3.out.1.below d4 (by have := HTB3.out.2.2; omega), HTB3.out.2.1.below d4 HTB3.out.2.2, Nat.lt_of_lt_of_le HTB3.out.2.2 d4.size⟩
                match i, hi with
                | 0, _ => exact X2.out.below d4
                | 1, _ => exact Y1.out.below d4
                | 2, _ => exact lent_zero oz hcz
              clear oz hcz d4 T8 HTB3 X2 Y1
              go_wp2_with fail
              refine (rmerge_u _ _ (L6 0) (L6 1) _ (Q4.out.lx 0 (by omega)).str (Q4.out.lx 1 (by omega)).str (by have := HB.out.1; omega) (by have := HB.out.2.1; omega)).mono ?_
              rintro e w5 ⟨⟨uu, up, uq, rfl, mo⟩, d5⟩
              have Q5 := hide (Q4.out.below d5)
              have M5 := hide mo
              clear mo d5 Q4
              go_wp2_with fail
              refine (merge_u _ _ (L6 0) (L6 1) _ (Q5.out.tr.str (by omega)) (Q5.out.tr.str (by omega)) (by have := HB.out.1; omega) (by have := HB.out.2.1; omega) (Q5.out.tr.sml 0 (by omega)) (Q5.out.tr.sml 1 (by omega)) Q5.out.bt (by have := Q5.out.sz; omega)).mono ?_
              rintro e w6 ⟨⟨vv, vr, vs, rfl, mo, _⟩, d6⟩
              have Q6 := hide (Q5.out.below d6)
              have HS : Hid (StrS w6 uu (mL (L6 0) (L6 1)) ∧ StrS w6 vv (mL (L6 0) (L6 1)) ∧ IntS w6 up (mP (L6 0) (L6 1)) ∧ IntS w6 vr (mP (L6 0) (L6 1)) ∧ IntS w6 uq (mQ (L6 0) (L6 1)) ∧ IntS w6 vs (mQ (L6 0) (L6 1))) :=
                ⟨M5.out.1.str.below d6, mo.1.str, M5.out.2.1.int.below d6, mo.2.1.int, M5.out.2.2.int.below d6, mo.2.2.int⟩
              clear mo d6 Q5 M5
              have HML := hide (mlens (L6 0) (L6 1))
              go_wp2_with fail
              refine (same_any _ _ (mL (L6 0) (L6 1)) _ HS.out.1 HS.out.2.1 (by have := HB.out; have := HML.out; omega)).mono ?_
              rintro e w7 ⟨rfl, d7⟩
              have Q7 := hide (Q6.out.below d7)
              have HS7 := hide (And.intro (HS.out.2.2.1.below d7) (And.intro (HS.out.2.2.2.1.below d7) (And.intro (HS.out.2.2.2.2.1.below d7) (HS.out.2.2.2.2.2.below d7))))
              clear d7 HS Q6
              go_wp2_with fail
              refine (sameInts_any _ _ (mP (L6 0) (L6 1)) _ HS7.out.1 HS7.out.2.1 (by have := HB.out; have := HML.out; omega)).mono ?_
              rintro e w8 ⟨rfl, d8⟩
              have Q8 := hide (Q7.out.below d8)
              have HS8 := hide (And.intro (HS7.out.2.2.1.below d8) (HS7.out.2.2.2.below d8))
              clear d8 HS7 Q7
              go_wp2_with fail
              refine (sameInts_any _ _ (mQ (L6 0) (L6 1)) _ HS8.out.1 HS8.out.2 (by have := HB.out; have := HML.out; omega)).mono ?_
              rintro e w9 ⟨rfl, d9⟩
              have Q9 := hide (Q8.out.below d9)
              clear d9 HS8 Q8 HML
              go_wp2_with fail
              refine (rrename_u _ _ _ (L6 0) (L6 1) (L6 2) _ (Q9.out.lx 0 (by omega)).str (Q9.out.lx 1 (by omega)).str (Q9.out.lx 2 (by omega)).str (by have := HB.out; omega) (by have := HB.out; omega)).mono ?_
              rintro e wa ⟨⟨dv, rfl, od⟩, da⟩
              have Qa := hide (Q9.out.below da)
              have OD := hide od.str
              clear da od Q9
              go_wp2_with fail
              refine (rename_u _ _ _ (L6 0) (L6 1) (L6 2) _ (Qa.out.tr.str (by omega)) (Qa.out.tr.str (by omega)) (Qa.out.tr.str (by omega)) (Qa.out.tr.sml 0 (by omega)) (Qa.out.tr.sml 1 (by omega)) (Qa.out.tr.sml 2 (by omega)) Qa.out.bt (by have := Qa.out.sz; omega)).mono ?_
              rintro e wb ⟨⟨nv, rfl, on⟩, db⟩
              have Qb := hide (Qa.out.below db)
              have ON := hide (And.intro (OD.out.below db) on.str)
              clear db on Qa OD
              obtain ⟨fi, hfi⟩ := fresh_ex (L6 0) head
              have HFI := hide hfi
              clear hfi
              go_wp2_with fail
              refine (rfresh_any _ (L6 0) head fi _ (Qb.out.lx 0 (by omega)).str (Qb.out.tr.sml 0 (by omega)) (by omega) HFI Qb.out.pw Qb.out.sz).mono ?_
              rintro e wc ⟨rfl, dc⟩
              have Qc := hide (Qb.out.below dc)
              have OC := hide (And.intro (ON.out.1.below dc) (ON.out.2.below dc))
              clear dc Qb ON
              go_wp2_with fail
              refine (fresh_any _ (L6 0) head fi _ (Qc.out.tr.str (by omega)) (Qc.out.tr.sml 0 (by omega)) (by omega) HFI Qc.out.bt Qc.out.pw Qc.out.sz).mono ?_
              rintro e wd ⟨rfl, dd⟩
              have Qd := hide (Qc.out.below dd)
              have OE := hide (And.intro (OC.out.1.below dd) (OC.out.2.below dd))
              clear dd Qc OC
              generalize frT (numN head fi) = ft
              generalize frC (numN head fi) = fc
              go_wp2_with fail
              refine (same_any _ _ (rnL (L6 0) (L6 1) (L6 2)) _ OE.out.1 OE.out.2 (by have := HB.out; have := rnlen (L6 0) (L6 1) (L6 2); omega)).mono ?_
              rintro e we ⟨rfl, de⟩
              have Qe := hide (Qd.out.below de)
              clear de Qd OE
              go_wp2_with fail
              refine (left_n B (G 0) (C 0) (N 0) (L6 0) _ _ (Qe.out.tr.len 0 (by omega)) (hide (Qe.out.tr.lent 0 (by omega))) (Qe.out.lx 0 (by omega)).str (by have := HB.out; omega)).mono ?_
              rintro e wf ⟨rfl, df⟩
              have Qf := hide (Qe.out.below df)
              clear df Qe
              go_wp2_with fail
              refine (left_n B (G 1) (C 1) (N 1) (L6 1) _ _ (Qf.out.tr.len 1 (by omega)) (hide (Qf.out.tr.lent 1 (by omega))) (Qf.out.lx 1 (by omega)).str (by have := HB.out; omega)).mono ?_
              rintro e wg ⟨rfl, dg⟩
              have Qg := hide (Qf.out.below dg)
              clear dg Qf
              go_wp2_with fail
              refine (left_n B (G 2) (C 2) (N 2) (L6 2) _ _ (Qg.out.tr.len 2 (by omega)) (hide (Qg.out.tr.lent 2 (by omega))) (Qg.out.lx 2 (by omega)).str (by have := HB.out; omega)).mono ?_
              rintro e wh ⟨rfl, dh⟩
              have Th := hide (Qg.out.below dh).tr
              clear dh Qg
              go_wp2
              go_roundw
              case rel => exact ⟨k + 1, L6, by omega, by go_num, Th⟩
              case measure => simp [intOf]; omega
    · go_wp2
      go_ret
      have hT1 := T1.out.O
      refine ⟨rfl, ?_⟩
      have hb := HW.out.1
      exact ⟨hT1.os.trans hb.os, hT1.tape.trans hb.tape, hT1.output.trans hb.output, Nat.le_trans hb.size hT1.size, fun x hx hn => (hT1.block x (Nat.lt_of_lt_of_le hx hb.size) hn).trans (hb.block x hx)⟩
end Go.Proofs.YtnfdifkcchciaaaDoor
