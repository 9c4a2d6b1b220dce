import Derived.Test.YtmagchclmmphaaaDoorLB
import Derived.Test.YtmagchclmmphaaaDoorVal
import Derived.Deep.QuietTactic
import Derived.BigQuiet
import Derived.Lib.Strings
import Derived.Laws.DeepStrings4
import Derived.RangeFuncRecord
namespace Go.Proofs.YtmagchclmmphaaaDoor
open Go.RowKit Go.Maps
attribute [local go_sem] Oper.semAt_some

theorem bts_two (a b : ByteArray) : bts (a ++ b) = bts a ++ bts b := by
  unfold bts
  simp [ByteArray.data_append]
theorem bl_add {t : ByteArray} (h : Bl (bts t)) {c : UInt8} (hc : c.toNat = 32 ∨ c.toNat = 9) : Bl (bts (t ++ ⟨#[c]⟩)) := by
  intro b hb
  rw [bts_two] at hb
  rcases List.mem_append.1 hb with q | q
  · exact h b q
  · have : b = c.toNat := by simpa [bts] using q
    rw [this]; exact hc
theorem size_add (t : ByteArray) (c : UInt8) : (t ++ (⟨#[c]⟩ : ByteArray)).size = t.size + 1 := by rw [ByteArray.size_append]; rfl
theorem btsInj {a b : ByteArray} (h : bts a = bts b) : a = b := by
  have h2 : a.data.toList = b.data.toList := by
    unfold bts at h
    exact (List.map_inj_right (fun x y e => UInt8.toNat_inj.1 e)).1 h
  cases a; cases b
  simp at h2
  rw [h2]
theorem idx_bb (s : ByteArray) (k : Nat) (h : k < s.size) (W : World) : (Instr.index 9 (.string s) (.int .i64 (k : Int))).run Tryd.prog W = .ok (.int .u8 ((bts s)[k]'(by rw [bts_len]; exact h) : Nat)) W :=
  idx_w s k _ h (bts_get s k h).symm W

set_option maxRecDepth 100000 in
set_option maxHeartbeats 1000000 in
/-- Blanks made of any text. -/
theorem lblanks_any (s : ByteArray) (w : World) (_hs : s.size ≤ 1048576) : Calls Tryd.prog 18 #[.string s] w fun e w' => ∃ t : ByteArray, e = .returned (.string t) ∧ (Bl (bts t) ∧ t.size ≤ 16) ∧ w' = w := by
  go_enter Tryd.func18, Tryd.ntmps18
  go_wp2
  go_loopw [3, 4] (fun o i wr => ∃ (k : Nat) (t : ByteArray), k ≤ 16 ∧ i = .int .i64 k ∧ o = .string t ∧ t.size = k ∧ Hid (Bl (bts t)) ∧ wr = w) (fun _ i _ => 16 - (intOf i).toNat)
  case atStart => exact ⟨0, ⟨#[]⟩, by omega, rfl, rfl, rfl, hide (by intro b hb; simp [bts] at hb), rfl⟩
  case round =>
    obtain ⟨k, t, hk, rfl, rfl, ht, HB, hwr⟩ := hrel
    obtain rfl := hwr.symm
    by_cases h1 : k < s.size
    · have i1 : (k : Int) < (s.size : Int) := by omega
      by_cases h2 : k < 16
      · have i2 : (k : Int) < 16 := by omega
        have hix := idx_bb s k h1
        obtain ⟨b, hb⟩ : ∃ b, (bts s)[k]'(by rw [bts_len]; exact h1) = b := ⟨_, rfl⟩
        have hb2 : b < 256 := by rw [← hb]; exact bts_lt s _ (List.getElem_mem _)
        rw [hb] at hix
        clear hb
        by_cases h3 : b % 2 = 0
        · have i3 : ((b : Int) % 2 == 0) = true := by rw [beq_iff_eq]; omega
          go_wp2
          go_roundw
          case rel => exact ⟨k + 1, _, by omega, by go_num, rfl, by rw [size_add, ht], hide (bl_add HB.out (.inl rfl)), trivial⟩
          case measure => simp [intOf]; omega
        · have i3 : ((b : Int) % 2 == 0) = false := by rw [beq_eq_false_iff_ne]; omega
          go_wp2
          go_roundw
          case rel => exact ⟨k + 1, _, by omega, by go_num, rfl, by rw [size_add, ht], hide (bl_add HB.out (.inr rfl)), trivial⟩
          case measure => simp [intOf]; omega
      · have i2 : ¬ (k : Int) < 16 := by omega
        go_wp2
        go_ret
        exact ⟨t, rfl, ⟨HB.out, by omega⟩, rfl⟩
    · have i1 : ¬ (k : Int) < (s.size : Int) := by omega
      go_wp2
      go_ret
      exact ⟨t, rfl, ⟨HB.out, by omega⟩, rfl⟩
/-- Blanks, a line feed, lines of blanks. -/
def Bh (t : ByteArray) : Prop := ∃ l m, Bl l ∧ Blk m ∧ bts t = l ++ [10] ++ m
theorem blk_one {t : List Nat} (h : Blk t) : Blk (t ++ [10]) := by
  have := Blk.add [] h (fun b hb => by cases hb)
  simpa using this
theorem blk_two {t : List Nat} (h : Blk t) : Blk (t ++ [32, 9, 10]) := by
  have := Blk.add [32, 9] h (fun b hb => by simp at hb; exact hb)
  simpa using this

set_option maxRecDepth 100000 in
set_option maxHeartbeats 1000000 in
/-- Blanks, a line feed, lines of blanks. -/
theorem lbehind_any (s : ByteArray) (w : World) (hs : s.size ≤ 1048576) : Calls Tryd.prog 10 #[.string s] w fun e w' => ∃ t : ByteArray, e = .returned (.string t) ∧ (Bh t ∧ t.size ≤ 65) ∧ w' = w := by
  go_enter Tryd.func10, Tryd.ntmps10
  go_wp2_with fail
  refine (lblanks_any s w hs).mono ?_
  rintro e w1 ⟨t0, rfl, ⟨hb0, hz0⟩, hw1⟩
  obtain rfl := hw1.symm
  clear hw1
  have HB0 := hide hb0
  clear hb0
  go_wp2_with fail
  go_loopw [3, 4] (fun o i wr => ∃ (k : Nat) (t : ByteArray), k ≤ 16 ∧ i = .int .i64 k ∧ o = .string t ∧ t.size ≤ 17 + 3 * k ∧ Hid (∃ m, Blk m ∧ bts t = bts t0 ++ [10] ++ m) ∧ wr = w) (fun _ i _ => 16 - (intOf i).toNat)
  case atStart => exact ⟨0, t0 ++ ⟨#[10]⟩, by omega, rfl, rfl, by rw [size_add]; omega, hide ⟨[], .nil, by rw [bts_two]; simp [bts]⟩, rfl⟩
  case round =>
    obtain ⟨k, t, hk, rfl, rfl, ht, HB, hwr⟩ := hrel
    obtain rfl := hwr.symm
    by_cases h1 : k < s.size
    · have i1 : (k : Int) < (s.size : Int) := by omega
      by_cases h2 : k < 16
      · have i2 : (k : Int) < 16 := by omega
        have hix := idx_bb s k h1
        obtain ⟨b, hb⟩ : ∃ b, (bts s)[k]'(by rw [bts_len]; exact h1) = b := ⟨_, rfl⟩
        have hb2 : b < 256 := by rw [← hb]; exact bts_lt s _ (List.getElem_mem _)
        rw [hb] at hix
        clear hb
        by_cases h3 : b % 3 = 0
        · have i3 : ((b : Int) % 3 == 0) = true := by rw [beq_iff_eq]; omega
          have i4 : ((b : Int) % 3 == 1) = false := by rw [beq_eq_false_iff_ne]; omega
          have HN : Hid (∃ m, Blk m ∧ bts (t ++ ⟨#[10]⟩) = bts t0 ++ [10] ++ m) := hide (by
            obtain ⟨m, hm, e⟩ := HB.out
            exact ⟨m ++ [10], blk_one hm, by rw [bts_two, e, List.append_assoc]; rfl⟩)
          go_wp2
          go_roundw
          case rel => exact ⟨k + 1, _, by omega, by go_num, rfl, by rw [size_add]; omega, HN, trivial⟩
          case measure => simp [intOf]; omega
        · have i3 : ((b : Int) % 3 == 0) = false := by rw [beq_eq_false_iff_ne]; omega
          by_cases h4 : b % 3 = 1
          · have i4 : ((b : Int) % 3 == 1) = true := by rw [beq_iff_eq]; omega
            have HN : Hid (∃ m, Blk m ∧ bts (t ++ ⟨#[32, 9, 10]⟩) = bts t0 ++ [10] ++ m) := hide (by
              obtain ⟨m, hm, e⟩ := HB.out
              exact ⟨m ++ [32, 9, 10], blk_two hm, by rw [bts_two, e, List.append_assoc]; rfl⟩)
            have hz : (t ++ (⟨#[32, 9, 10]⟩ : ByteArray)).size = t.size + 3 := by rw [ByteArray.size_append]; rfl
            go_wp2
            go_roundw
            case rel => exact ⟨k + 1, _, by omega, by go_num, rfl, by omega, HN, trivial⟩
            case measure => simp [intOf]; omega
          · have i4 : ((b : Int) % 3 == 1) = false := by rw [beq_eq_false_iff_ne]; omega
            go_wp2
            go_roundw
            case rel => exact ⟨k + 1, _, by omega, by go_num, rfl, by omega, HB, trivial⟩
            case measure => simp [intOf]; omega
      · have i2 : ¬ (k : Int) < 16 := by omega
        go_wp2
        go_ret
        obtain ⟨m, hm, e⟩ := HB.out
        exact ⟨t, rfl, ⟨⟨_, m, HB0.out, hm, e⟩, by omega⟩, rfl⟩
    · have i1 : ¬ (k : Int) < (s.size : Int) := by omega
      go_wp2
      go_ret
      obtain ⟨m, hm, e⟩ := HB.out
      exact ⟨t, rfl, ⟨⟨_, m, HB0.out, hm, e⟩, by omega⟩, rfl⟩
end Go.Proofs.YtmagchclmmphaaaDoor
namespace Go.Proofs.YtmagchclmmphaaaDoor
open Go.RowKit Go.Maps
attribute [local go_sem] Oper.semAt_some

/-- A text that goes through goes through step by step. -/
theorem go_pre {l : List Nat} (h : (goF (1, 0) l).2 = l.length) (k : Nat) (hk : k < l.length) : (stepF (goF (1, 0) (l.take k)).1 l[k]).1 ≠ 0 ∧ (goF (1, 0) (l.take (k + 1))).1 = stepF (goF (1, 0) (l.take k)).1 l[k] := by
  have e : l = l.take k ++ l.drop k := (List.take_append_drop k l).symm
  have hlen : (l.take k).length = k := by rw [List.length_take]; omega
  have h1 : (goF (1, 0) (l.take k)).2 = (l.take k).length := by
    rcases Nat.lt_or_ge (goF (1, 0) (l.take k)).2 (l.take k).length with q | q
    · have := goF_app_stop (l.drop k) q
      rw [← e] at this
      rw [this] at h
      omega
    · have := goF_le (1, 0) (l.take k); omega
  have h2 := goF_app (l.drop k) h1
  rw [← e] at h2
  have hn : (stepF (goF (1, 0) (l.take k)).1 l[k]).1 ≠ 0 := by
    intro q
    rw [List.drop_eq_getElem_cons hk, goF_stop _ q] at h2
    rw [h2] at h
    simp only at h
    omega
  refine ⟨hn, ?_⟩
  rw [List.take_succ_eq_append_getElem hk, goF_app _ h1, goF_on _ hn]
  rfl
theorem cnt_take {l : List Nat} {k : Nat} (hk : k < l.length) (c : Nat) : (l.take (k + 1)).count c = (l.take k).count c + (if l[k] = c then 1 else 0) := by
  rw [List.take_succ_eq_append_getElem hk, List.count_append, List.count_singleton]
  simp
theorem cnt_le (l : List Nat) (k c : Nat) : (l.take k).count c ≤ l.count c := (List.take_sublist k l).count_le c
theorem ends_fin {s : ByteArray} {k : Nat} (hk : k ≤ s.size) : (∃ x, (bts s).take k = x ++ wFin) ↔ (5 ≤ k ∧ s.extract (k - 5) k = ⟨#[70, 105, 110, 97, 108]⟩) := by
  have hb : bts ⟨#[70, 105, 110, 97, 108]⟩ = wFin := rfl
  have hl : ((bts s).take k).length = k := by rw [List.length_take, bts_len]; omega
  have hx : bts (s.extract (k - 5) k) = ((bts s).take k).drop (k - 5) := by
    unfold bts
    rw [Lib.extract_data, List.map_take, List.map_drop, List.drop_take]
  constructor
  · rintro ⟨x, e⟩
    have h5 : x.length + 5 = k := by rw [e, List.length_append] at hl; exact hl
    refine ⟨by omega, btsInj ?_⟩
    rw [hx, e, hb, show k - 5 = x.length by omega, List.drop_left]
  · rintro ⟨h5, e⟩
    refine ⟨((bts s).take k).take (k - 5), ?_⟩
    rw [← hb, ← e, hx, List.take_append_drop]
theorem ends_one {s : ByteArray} {k c : Nat} (hk : k ≤ s.size) (h0 : 0 < k) (hc : (bts s)[k - 1]? = some c) : ∃ x, (bts s).take k = x ++ [c] := by
  have hl : k - 1 < (bts s).length := by rw [bts_len]; omega
  refine ⟨(bts s).take (k - 1), ?_⟩
  have := List.take_succ_eq_append_getElem hl
  rw [show k - 1 + 1 = k by omega] at this
  rw [this]
  rw [List.getElem?_eq_getElem hl] at hc
  rw [Option.some.inj hc]

set_option maxRecDepth 100000 in
set_option maxHeartbeats 1000000 in
/-- The gap of a number. -/
theorem gap_any (w : World) (v0 v1 v2 v3 v4 : Value) (ag : Option Addr) (cg : Nat) (G : List ByteArray) (n : Nat) (hG : Hid (ReadsS w ag G)) (hl : G.length ≤ 1048576) (hz : Hid (∀ x ∈ G, x.size ≤ 1048576)) (_hn : n ≤ 134217728) :
    Calls Tryd.prog 11 #[.agg #[v0, v1, v2, v3, v4, .slice ag G.length cg], .int .i64 n] w fun e w' => ∃ g : ByteArray, e = .returned (.string g) ∧ g.size ≤ 1048576 ∧ Below w.heap.size w w' := by
  obtain ⟨W0, hW0⟩ : ∃ W0, w.alloc (.cells #[v0, v1, v2, v3, v4, .slice ag G.length cg] 37) = W0 := ⟨_, rfl⟩
  have d0 : Below w.heap.size w W0 := by rw [← hW0]; exact (Below.refl _ _).alloc (Nat.le_refl _) _
  have b0 : W0.heap[w.heap.size]? = some (.cells #[v0, v1, v2, v3, v4, .slice ag G.length cg] 37 (0, 0)) := by rw [← hW0]; exact World.alloc_heap_new _ _
  have HO := hide (hG.out.below d0)
  have c5 : W0.cell? ⟨w.heap.size, 5, none⟩ = some (.slice ag G.length cg) := cell_of b0 rfl
  have HD := hide d0
  clear hG d0 b0
  by_cases h0 : G.length = 0
  · have e0 : ((G.length : Int) == 0) = true := by rw [beq_iff_eq]; omega
    clear h0
    go_enter Tryd.func11, Tryd.ntmps11
    go_wp2
    go_ret
    exact ⟨⟨#[]⟩, rfl, Nat.zero_le _, HD.out⟩
  · have e0 : ((G.length : Int) == 0) = false := by rw [beq_eq_false_iff_ne]; omega
    obtain ⟨m, hm⟩ : ∃ m, G.length = m := ⟨_, rfl⟩
    obtain ⟨r, hr⟩ : ∃ r, n % m = r := ⟨_, rfl⟩
    have hrm : r < m := by rw [← hr]; exact Nat.mod_lt _ (by omega)
    have hrt : (n : Int).tmod (m : Int) = (r : Int) := by rw [← hr]; exact Int.ofNat_tmod n m
    have hre : (n : Int) % (m : Int) = (r : Int) := by rw [← hr]; rfl
    obtain ⟨g1, o1, rfl, q1⟩ := HO.out r (by omega)
    obtain ⟨x, hx⟩ : ∃ x, G[r]'(by omega) = x := ⟨_, rfl⟩
    have hxz : x.size ≤ 1048576 := by rw [← hx]; exact hz.out _ (List.getElem_mem _)
    rw [hx] at q1
    rw [hm] at e0 c5 hW0
    rw [hm]
    have j0 : (0 : Int) ≤ (r : Int) := by omega
    have j1 : (r : Int) < (m : Int) := by omega
    have j2 : ¬ (m : Int) = 0 := by omega
    clear hx hr hm h0
    go_enter Tryd.func11, Tryd.ntmps11
    go_wp2_with fail
    go_quiet (fail)
    go_wp2_with fail
    go_ret
    exact ⟨x, rfl, hxz, HD.out.trans ⟨rfl, rfl, rfl, Nat.le_refl _, fun _ _ => rfl⟩⟩
end Go.Proofs.YtmagchclmmphaaaDoor
namespace Go.Proofs.YtmagchclmmphaaaDoor
open Go.RowKit Go.Maps
attribute [local go_sem] Oper.semAt_some

/-- A box of six. -/
def Bx6 (W : World) (X : Nat) (v0 v1 v2 v3 v4 v5 : Value) : Prop := W.cell? ⟨X, 0, none⟩ = some v0 ∧ W.cell? ⟨X, 1, none⟩ = some v1 ∧ W.cell? ⟨X, 2, none⟩ = some v2 ∧ W.cell? ⟨X, 3, none⟩ = some v3 ∧ W.cell? ⟨X, 4, none⟩ = some v4 ∧ W.cell? ⟨X, 5, none⟩ = some v5
theorem Bx6.on {W W' : World} {X : Nat} {v0 v1 v2 v3 v4 v5 : Value} (h : Bx6 W X v0 v1 v2 v3 v4 v5) (d : Below W.heap.size W W') : Bx6 W' X v0 v1 v2 v3 v4 v5 := by
  have hX := World.block_lt_of_cell? W _ h.1
  exact ⟨(d.cell (p := ⟨X, 0, none⟩) hX).trans h.1, (d.cell (p := ⟨X, 1, none⟩) hX).trans h.2.1, (d.cell (p := ⟨X, 2, none⟩) hX).trans h.2.2.1, (d.cell (p := ⟨X, 3, none⟩) hX).trans h.2.2.2.1, (d.cell (p := ⟨X, 4, none⟩) hX).trans h.2.2.2.2.1, (d.cell (p := ⟨X, 5, none⟩) hX).trans h.2.2.2.2.2⟩
/-- How far the text has been laid otherwise. -/
def Spr (s : ByteArray) (k : Nat) (v : ByteArray) : Prop := LkX (goF (1, 0) ((bts s).take k)).1 ((bts s).take k) (bts v) ∧ v.size ≤ 17 * k + 48 * ((bts s).take k).count 10
theorem spr_next {s v t : ByteArray} {k b : Nat} (hg : (goF (1, 0) (bts s)).2 = (bts s).length) (hk : k < (bts s).length) (hb : (bts s)[k] = b) (h : Spr s k v) (hi : Img ((bts s).take k) b (bts t)) (hz : t.size ≤ 17 ∨ (b = 10 ∧ t.size ≤ 65)) : Spr s (k + 1) (v ++ t) := by
  obtain ⟨g1, g2⟩ := go_pre hg k hk
  refine ⟨?_, ?_⟩
  · rw [g2, bts_two, List.take_succ_eq_append_getElem hk]
    refine h.1.step g1 ?_
    rw [hb]; exact hi
  · have := h.2
    rw [ByteArray.size_append, cnt_take hk, hb]
    rcases hz with q | ⟨rfl, q⟩
    · split <;> omega
    · rw [if_pos rfl]; omega
theorem spr_size {s v : ByteArray} {k : Nat} (h : Spr s k v) (hk : k ≤ 4194304) (hc : (bts s).count 10 ≤ 1048581) : v.size ≤ 121700000 := by
  have h1 := h.2
  have h2 := cnt_le (bts s) k 10
  omega

theorem ext_one (s : ByteArray) (k : Nat) (h : k < s.size) : bts (s.extract k (k + 1)) = [(bts s)[k]'(by rw [bts_len]; exact h)] := by
  have hl : k < (bts s).length := by rw [bts_len]; exact h
  have e : bts (s.extract k (k + 1)) = ((bts s).drop k).take 1 := by
    unfold bts
    rw [Lib.extract_data, List.map_take, List.map_drop, show k + 1 - k = 1 by omega]
  rw [e, List.drop_eq_getElem_cons hl]; rfl

set_option maxRecDepth 100000 in
set_option maxHeartbeats 4000000 in
theorem spread_any (w : World) (v0 v1 v2 v3 v4 : Value) (ag : Option Addr) (cg : Nat) (G : List ByteArray) (s : ByteArray) (hG : Hid (ReadsS w ag G)) (hl : G.length ≤ 1048576) (hz : Hid (∀ x ∈ G, x.size ≤ 1048576)) (hs : s.size ≤ 4194304)
    (hgo : Hid ((goF (1, 0) (bts s)).2 = (bts s).length)) (h79 : Hid ((bts s)[0]? = some 79)) (hcn : Hid ((bts s).count 10 ≤ 1048581)) :
    Calls Tryd.prog 9 #[.agg #[v0, v1, v2, v3, v4, .slice ag G.length cg], .string s] w fun e w' => ∃ t : ByteArray, e = .returned (.string t) ∧ Spr s s.size t ∧ Below w.heap.size w w' := by
  obtain ⟨W0, hW0⟩ : ∃ W0, w.alloc (.cells #[v0, v1, v2, v3, v4, .slice ag G.length cg] 37) = W0 := ⟨_, rfl⟩
  have d0 : Below w.heap.size w W0 := by rw [← hW0]; exact (Below.refl _ _).alloc (Nat.le_refl _) _
  have b0 : W0.heap[w.heap.size]? = some (.cells #[v0, v1, v2, v3, v4, .slice ag G.length cg] 37 (0, 0)) := by rw [← hW0]; exact World.alloc_heap_new _ _
  have HBX : Hid (Bx6 W0 w.heap.size v0 v1 v2 v3 v4 (.slice ag G.length cg)) := hide ⟨cell_of b0 rfl, cell_of b0 rfl, cell_of b0 rfl, cell_of b0 rfl, cell_of b0 rfl, cell_of b0 rfl⟩
  have HO := hide (hG.out.below d0)
  have HD := hide d0
  have HLn := hide (bts_len s)
  clear hG d0 b0
  have TG := hide (fun (W : World) (k : Nat) (hk : k ≤ 134217728) (d : Below W0.heap.size W0 W) => gap_any W v0 v1 v2 v3 v4 ag cg G k (hide (HO.out.below d)) hl hz hk)
  go_enter Tryd.func9, Tryd.ntmps9
  go_wp2_with fail
  go_loopw [5, 6] (fun o i wr => ∃ (k : Nat) (v : ByteArray), k ≤ s.size ∧ i = .int .i64 k ∧ o = .string v ∧ Hid (Spr s k v) ∧ Hid (Below W0.heap.size W0 wr)) (fun _ i _ => s.size - (intOf i).toNat)
  case atStart => exact ⟨0, ⟨#[]⟩, Nat.zero_le _, rfl, rfl, hide ⟨⟨[], [], ⟨rfl, rfl, [], [], [], [], RunS.nil _, RunS.nil _, RunS.nil _, RunS.nil _, rfl⟩, fun ⟨x, e⟩ => by simp at e, fun ⟨x, e⟩ => by simp at e⟩, Nat.zero_le _⟩, hide (Below.refl _ _)⟩
  case round =>
    obtain ⟨k, v, hk, rfl, rfl, HS, HE⟩ := hrel
    by_cases hlt : k < s.size
    · have i1 : (k : Int) < (s.size : Int) := by omega
      obtain ⟨c0, c1, c2, c3, c4, c5⟩ := HBX.out.on HE.out
      have hkl : k < (bts s).length := by rw [bts_len]; exact hlt
      have hvz := spr_size HS.out (by omega) hcn.out
      have hix := idx_bb s k hlt
      obtain ⟨b, hb⟩ : ∃ b, (bts s)[k]'hkl = b := ⟨_, rfl⟩
      rw [hb] at hix
      have HN := hide (fun (t : ByteArray) => spr_next (t := t) hgo.out hkl hb HS.out)
      have HK0 : Hid (b = 32 → 0 < k) := hide (fun q => by
        rcases Nat.eq_zero_or_pos k with rfl | q2
        · have := h79.out
          rw [List.getElem?_eq_getElem hkl, hb, q] at this
          cases this
        · exact q2)
      have HX1 : Hid (bts (s.extract k (k + 1)) = [b]) := hide (by rw [← hb]; exact ext_one s k hlt)
      clear hb
      by_cases hb1 : b = 10
      · have j1 : ((b : Int) == 10) = true := by rw [beq_iff_eq]; omega
        go_wp2_with (first
          | (go_at_call 11; refine (TG.out _ k (by omega) HE.out).mono ?_; rintro e w1 ⟨g, rfl, hg, d1⟩; have D1 := hide d1; clear d1)
          | (go_at_call 10; refine (lbehind_any g w1 hg).mono ?_; rintro e w2 ⟨t, rfl, ⟨ht, htz⟩, hw2⟩; obtain rfl := hw2.symm; have HT := hide ht; clear ht hw2))
        go_roundw
        case rel => exact ⟨k + 1, _, by omega, by go_num, rfl, hide (HN.out t (by obtain ⟨l, m, q1, q2, q3⟩ := HT.out; rw [hb1, q3]; exact .feed l m q1 q2) (.inr ⟨hb1, htz⟩)), hide (HE.out.trans (D1.out.mono HE.out.size))⟩
        case measure => simp [intOf]; omega
      · have j1 : ((b : Int) == 10) = false := by rw [beq_eq_false_iff_ne]; omega
        by_cases hb2 : b = 32
        · have j2 : ((b : Int) == 32) = true := by rw [beq_iff_eq]; omega
          have hk0 := HK0.out hb2
          have hix2 := idx_bb s (k - 1) (by omega)
          obtain ⟨b', hb'⟩ : ∃ b', (bts s)[k - 1]'(by rw [bts_len]; omega) = b' := ⟨_, rfl⟩
          rw [hb'] at hix2
          have HP : Hid ((bts s)[k - 1]? = some b') := hide (by rw [List.getElem?_eq_getElem (by rw [bts_len]; omega), hb'])
          clear hb'
          obtain ⟨m, hm⟩ : ∃ m, k - 1 = m := ⟨_, rfl⟩
          rw [hm] at hix2 HP
          have e1 : (k : Int) - 1 = (m : Int) := by omega
          have hms : (m : Int) < (s.size : Int) := by omega
          have HW := hide (ends_fin (s := s) (k := k) (by omega))
          have HA := hide (fun c (hc : b' = c) => ends_one (s := s) (k := k) (c := c) (by omega) hk0 (by rw [hm, HP.out, hc]))
          by_cases h5 : 5 ≤ k
          · have j5 : (5 : Int) ≤ (k : Int) := by omega
            obtain ⟨j, hj⟩ : ∃ j, k - 5 = j := ⟨_, rfl⟩
            have e5 : (k : Int) - 5 = (j : Int) := by omega
            have j6 : (j : Int) ≤ (k : Int) := by omega
            have j7 : (0 : Int) ≤ (j : Int) := by omega
            have j8 : (k : Int) ≤ (s.size : Int) := by omega
            rw [hj] at HW
            by_cases hf : s.extract j k = ⟨#[70, 105, 110, 97, 108]⟩
            · have q5 : ((s.extract j k).toList == [70, 105, 110, 97, 108]) = true := by rw [show [70, 105, 110, 97, 108] = (⟨#[70, 105, 110, 97, 108]⟩ : ByteArray).toList from (by rw [ByteArray.toList_eq]), str_beq]; exact decide_eq_true hf
              have HI := hide (HN.out ⟨#[32]⟩ (by obtain ⟨x, q⟩ := HW.out.2 ⟨h5, hf⟩; rw [hb2]; exact .word x q) (.inl (by decide)))
              clear hf
              go_wp2
              go_roundw
              case rel => exact ⟨k + 1, _, by omega, by go_num, rfl, HI, HE⟩
              case measure => simp [intOf]; omega
            · have q5 : ((s.extract j k).toList == [70, 105, 110, 97, 108]) = false := by rw [show [70, 105, 110, 97, 108] = (⟨#[70, 105, 110, 97, 108]⟩ : ByteArray).toList from (by rw [ByteArray.toList_eq]), str_beq]; exact decide_eq_false hf
              have HF : Hid (∀ x, (bts s).take k ≠ x ++ wFin) := hide (fun x q => hf (HW.out.1 ⟨x, q⟩).2)
              clear hf
              have HB := hide (fun (l : ByteArray) (hl : Bl (bts l)) => show Img ((bts s).take k) 32 (bts (⟨#[32]⟩ ++ l)) by rw [bts_two]; exact .blank _ HF.out hl)
              by_cases h41 : b' = 41
              · have j3 : ((b' : Int) == 41) = true := by rw [beq_iff_eq]; omega
                have HQ := hide (HA.out 41 h41)
                go_wp2_with (first
                  | (go_at_call 11; refine (TG.out _ k (by omega) HE.out).mono ?_; rintro e w1 ⟨g, rfl, hg, d1⟩; have D1 := hide d1; clear d1)
                  | (go_at_call 18; refine (lblanks_any g w1 hg).mono ?_; rintro e w2 ⟨t, rfl, ⟨ht, htz⟩, hw2⟩; obtain rfl := hw2.symm; have HT := hide ht; clear ht hw2))
                go_roundw
                case rel => exact ⟨k + 1, _, by omega, by go_num, rfl, hide (HN.out t (by obtain ⟨x, q⟩ := HQ.out; rw [hb2]; exact .arrow x _ (.inl q) HT.out) (.inl (by omega))), hide (HE.out.trans (D1.out.mono HE.out.size))⟩
                case measure => simp [intOf]; omega
              · have j3 : ((b' : Int) == 41) = false := by rw [beq_eq_false_iff_ne]; omega
                by_cases h62 : b' = 62
                · have j4 : ((b' : Int) == 62) = true := by rw [beq_iff_eq]; omega
                  have HQ := hide (HA.out 62 h62)
                  go_wp2_with (first
                    | (go_at_call 11; refine (TG.out _ k (by omega) HE.out).mono ?_; rintro e w1 ⟨g, rfl, hg, d1⟩; have D1 := hide d1; clear d1)
                    | (go_at_call 18; refine (lblanks_any g w1 hg).mono ?_; rintro e w2 ⟨t, rfl, ⟨ht, htz⟩, hw2⟩; obtain rfl := hw2.symm; have HT := hide ht; clear ht hw2))
                  go_roundw
                  case rel => exact ⟨k + 1, _, by omega, by go_num, rfl, hide (HN.out t (by obtain ⟨x, q⟩ := HQ.out; rw [hb2]; exact .arrow x _ (.inr q) HT.out) (.inl (by omega))), hide (HE.out.trans (D1.out.mono HE.out.size))⟩
                  case measure => simp [intOf]; omega
                · have j4 : ((b' : Int) == 62) = false := by rw [beq_eq_false_iff_ne]; omega
                  have hv1 := size_add v 32
                  go_wp2_with (first
                    | (go_at_call 11; refine (TG.out _ k (by omega) HE.out).mono ?_; rintro e w1 ⟨g, rfl, hg, d1⟩; have D1 := hide d1; clear d1)
                    | (go_at_call 18; refine (lblanks_any g w1 hg).mono ?_; rintro e w2 ⟨t, rfl, ⟨ht, htz⟩, hw2⟩; obtain rfl := hw2.symm; have HT := hide ht; clear ht hw2))
                  go_roundw
                  case rel => exact ⟨k + 1, _, by omega, by go_num, rfl, hide (by rw [ByteArray.append_assoc]; exact HN.out _ (by rw [hb2]; exact HB.out t HT.out) (.inl (by rw [ByteArray.size_append, show (⟨#[32]⟩ : ByteArray).size = 1 from rfl]; omega))), hide (HE.out.trans (D1.out.mono HE.out.size))⟩
                  case measure => simp [intOf]; omega
          · have j5 : ¬ (5 : Int) ≤ (k : Int) := by omega
            have HF : Hid (∀ x, (bts s).take k ≠ x ++ wFin) := hide (fun x q => h5 (HW.out.1 ⟨x, q⟩).1)
            have HB := hide (fun (l : ByteArray) (hl : Bl (bts l)) => show Img ((bts s).take k) 32 (bts (⟨#[32]⟩ ++ l)) by rw [bts_two]; exact .blank _ HF.out hl)
            by_cases h41 : b' = 41
            · have j3 : ((b' : Int) == 41) = true := by rw [beq_iff_eq]; omega
              have HQ := hide (HA.out 41 h41)
              go_wp2_with (first
                | (go_at_call 11; refine (TG.out _ k (by omega) HE.out).mono ?_; rintro e w1 ⟨g, rfl, hg, d1⟩; have D1 := hide d1; clear d1)
                | (go_at_call 18; refine (lblanks_any g w1 hg).mono ?_; rintro e w2 ⟨t, rfl, ⟨ht, htz⟩, hw2⟩; obtain rfl := hw2.symm; have HT := hide ht; clear ht hw2))
              go_roundw
              case rel => exact ⟨k + 1, _, by omega, by go_num, rfl, hide (HN.out t (by obtain ⟨x, q⟩ := HQ.out; rw [hb2]; exact .arrow x _ (.inl q) HT.out) (.inl (by omega))), hide (HE.out.trans (D1.out.mono HE.out.size))⟩
              case measure => simp [intOf]; omega
            · have j3 : ((b' : Int) == 41) = false := by rw [beq_eq_false_iff_ne]; omega
              by_cases h62 : b' = 62
              · have j4 : ((b' : Int) == 62) = true := by rw [beq_iff_eq]; omega
                have HQ := hide (HA.out 62 h62)
                go_wp2_with (first
                  | (go_at_call 11; refine (TG.out _ k (by omega) HE.out).mono ?_; rintro e w1 ⟨g, rfl, hg, d1⟩; have D1 := hide d1; clear d1)
                  | (go_at_call 18; refine (lblanks_any g w1 hg).mono ?_; rintro e w2 ⟨t, rfl, ⟨ht, htz⟩, hw2⟩; obtain rfl := hw2.symm; have HT := hide ht; clear ht hw2))
                go_roundw
                case rel => exact ⟨k + 1, _, by omega, by go_num, rfl, hide (HN.out t (by obtain ⟨x, q⟩ := HQ.out; rw [hb2]; exact .arrow x _ (.inr q) HT.out) (.inl (by omega))), hide (HE.out.trans (D1.out.mono HE.out.size))⟩
                case measure => simp [intOf]; omega
              · have j4 : ((b' : Int) == 62) = false := by rw [beq_eq_false_iff_ne]; omega
                have hv1 := size_add v 32
                go_wp2_with (first
                  | (go_at_call 11; refine (TG.out _ k (by omega) HE.out).mono ?_; rintro e w1 ⟨g, rfl, hg, d1⟩; have D1 := hide d1; clear d1)
                  | (go_at_call 18; refine (lblanks_any g w1 hg).mono ?_; rintro e w2 ⟨t, rfl, ⟨ht, htz⟩, hw2⟩; obtain rfl := hw2.symm; have HT := hide ht; clear ht hw2))
                go_roundw
                case rel => exact ⟨k + 1, _, by omega, by go_num, rfl, hide (by rw [ByteArray.append_assoc]; exact HN.out _ (by rw [hb2]; exact HB.out t HT.out) (.inl (by rw [ByteArray.size_append, show (⟨#[32]⟩ : ByteArray).size = 1 from rfl]; omega))), hide (HE.out.trans (D1.out.mono HE.out.size))⟩
                case measure => simp [intOf]; omega
        · have j2 : ((b : Int) == 32) = false := by rw [beq_eq_false_iff_ne]; omega
          have HT : Hid (bts (s.extract k (k + 1)) = [b]) := hide HX1.out
          go_wp2
          go_roundw
          case rel => exact ⟨k + 1, _, by omega, by go_num, rfl, hide (HN.out _ (by rw [HT.out]; exact .byte b hb1 hb2) (.inl (by rw [ByteArray.size_extract]; omega))), HE⟩
          case measure => simp [intOf]; omega
    · obtain rfl : k = s.size := by omega
      have i1 : ¬ (s.size : Int) < (s.size : Int) := by omega
      go_wp2
      go_ret
      exact ⟨v, rfl, HS.out, HD.out.trans (HE.out.mono HD.out.size)⟩
end Go.Proofs.YtmagchclmmphaaaDoor
