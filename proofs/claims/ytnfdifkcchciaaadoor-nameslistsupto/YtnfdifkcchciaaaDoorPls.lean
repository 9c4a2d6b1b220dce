import Derived.Test.YtnfdifkcchciaaaDoorLst
import Derived.Lib.BufferMore
namespace Go.Proofs.YtnfdifkcchciaaaDoor
open Go.RowKit Go.Maps

set_option maxRecDepth 100000 in
set_option maxHeartbeats 1000000 in
/-- The names where the map says. -/
theorem place_any (v va vl : Value) (all : List ByteArray) (at' : List Nat) (l : List ByteArray) (w : World) (h : StrS w v all) (ha : IntS w va at') (hl : StrS w vl l)
    (hlen : at'.length = l.length) (hat : ∀ i (h1 : i < at'.length) (h2 : i < l.length), ∃ h3 : at'[i] < all.length, all[at'[i]] = l[i]) (_hs : all.length ≤ 4194304) (hs2 : l.length ≤ 4194304) :
    Calls Tryd.prog 17 #[v, va, vl] w fun e w' => e = .returned (.bool true) ∧ Below w.heap.size w w' := by
  obtain ⟨a1, c1, rfl, r1⟩ := h
  obtain ⟨a2, c2, rfl, r2⟩ := ha
  obtain ⟨a3, c3, rfl, r3⟩ := hl
  have HR := hide (And.intro r1 (And.intro r2 r3))
  have HA := hide (And.intro hlen hat)
  rw [hlen]
  clear r1 r2 r3 hat hlen
  go_enter Tryd.func17, Tryd.ntmps17
  go_wp2
  go_loopw [15] (fun i wr => ∃ k : Nat, k ≤ l.length ∧ i = .int .i64 k ∧ Below w.heap.size w wr) (fun i _ => l.length - (intOf i).toNat)
  case atStart => exact ⟨0, Nat.zero_le _, rfl, Below.refl _ _⟩
  case round =>
    obtain ⟨k, hk, rfl, hb⟩ := hrel
    by_cases hlt : k < l.length
    · have hlt2 : k < at'.length := by have := HA.out.1; omega
      obtain ⟨h3, h4⟩ := HA.out.2 k hlt2 hlt
      obtain ⟨g2, o2, rfl, q2⟩ := (HR.out.2.1.below hb) k hlt2
      obtain ⟨g3, o3, rfl, q3⟩ := (HR.out.2.2.below hb) k hlt
      obtain ⟨g1, o1, rfl, q1⟩ := (HR.out.1.below hb) _ h3
      rw [h4] at q1
      generalize l[k] = s at q1 q3 h4
      generalize at'[k] = x at q1 q2 h3 h4
      clear h4
      have i0 : (0 : Int) ≤ (k : Int) := by omega
      have i2 : (k : Int) < (l.length : Int) := by omega
      have j0 : (0 : Int) ≤ (x : Int) := by omega
      have j1 : ¬ (x : Int) < 0 := by omega
      have j2 : (x : Int) < (all.length : Int) := by omega
      have j3 : ¬ (x : Int) ≥ (all.length : Int) := by omega
      go_wp2_with fail
      go_quiet (fail)
      go_wp2
      go_roundw
      case rel => exact ⟨k + 1, by omega, by go_num, by first | exact hb.drew | exact below_drewN' hb _ | exact hb⟩
      case measure => simp [intOf]; omega
    · have i2 : ¬ (k : Int) < (l.length : Int) := by omega
      go_wp2
      go_ret
      exact ⟨rfl, hb⟩

/-! ### The map of first places -/
def kOf (s : ByteArray) : Lit := .string s.data.toList
theorem kOf_inj {s t : ByteArray} (h : kOf s = kOf t) : s = t := by
  cases s; cases t
  simp only [kOf, Lit.string.injEq] at h
  congr 1
  exact Array.toList_inj.1 h
theorem kLit (s : ByteArray) : WideAt.IsKeyLit (kOf s) := trivial
theorem law : Keyed Tryd.prog 9 := string_keyed Tryd.underlying9
theorem zero3 (w : World) : (zeroValue 3).run Tryd.prog w = .ok (.int .i64 0) w := by kernel_rfl

structure IsPl (D : DataW Unit) (l : List ByteArray) : Prop where
  tidy : Tidy D
  has : ∀ s, Maps.has D (kOf s) = l.contains s
  at_ : ∀ s, s ∈ l → ∀ z, D.atKey (kOf s) z = .lit (.int .i64 (l.idxOf s : Nat))
  le : Maps.size D ≤ l.length
  nod : Maps.size D = l.length ↔ l.Nodup

theorem isPl_nil : IsPl (.map []) [] := ⟨tidy_empty, fun s => rfl, fun s h => (by cases h), Nat.le_refl _, ⟨fun _ => List.nodup_nil, fun _ => rfl⟩⟩

theorem contains_snoc (l : List ByteArray) (s t : ByteArray) : (l ++ [s]).contains t = (l.contains t || decide (t = s)) := by
  rw [Bool.eq_iff_iff, mem_c, Bool.or_eq_true, mem_c, decide_eq_true_iff]
  simp

theorem IsPl.old {D : DataW Unit} {l : List ByteArray} {s : ByteArray} (h : IsPl D l) (hs : s ∈ l) : IsPl D (l ++ [s]) := by
  refine ⟨h.tidy, fun t => ?_, fun t ht z => ?_, ?_, ?_⟩
  · rw [h.has, contains_snoc]
    by_cases e : t = s
    · subst e; simp [mem_c.2 hs]
    · simp [e]
  · have ht' : t ∈ l := by
      rcases List.mem_append.1 ht with h1 | h1
      · exact h1
      · simp at h1; subst h1; exact hs
    rw [h.at_ t ht' z, ix_app ht']
  · have := h.le; simp; omega
  · have := h.le
    constructor
    · intro e; simp at e; omega
    · intro e
      rw [List.nodup_append] at e
      exact absurd rfl (e.2.2 s hs s (by simp))
theorem IsPl.new {D : DataW Unit} {l : List ByteArray} {s : ByteArray} (h : IsPl D l) (hs : s ∉ l) : IsPl (D.put (kOf s) (.lit (.int .i64 (l.length : Nat)))) (l ++ [s]) := by
  have hn : Maps.has D (kOf s) = false := by rw [h.has]; exact not_mem_c.2 hs
  have hsz : Maps.size (D.put (kOf s) (.lit (.int .i64 (l.length : Nat)))) = Maps.size D + 1 := by rw [size_put h.tidy, hn]; rfl
  refine ⟨h.tidy.put (kLit s) _, fun t => ?_, fun t ht z => ?_, ?_, ?_⟩
  · rw [contains_snoc]
    by_cases e : t = s
    · subst e; rw [has_put_same h.tidy.isMap (kLit _)]; simp
    · rw [has_put_other (fun h => e (kOf_inj h)), h.has]; simp [e]
  · by_cases e : t = s
    · subst e
      rw [atKey_put_same h.tidy.isMap (kLit _), ix_app_not hs]
      haveI := ba_lawful
      simp
    · have ht' : t ∈ l := by
        rcases List.mem_append.1 ht with h1 | h1
        · exact h1
        · simp at h1; exact absurd h1 e
      rw [atKey_put_other (fun h => e (kOf_inj h)), h.at_ t ht' z, ix_app ht']
  · rw [hsz]; have := h.le; simp; omega
  · rw [hsz, List.length_append, List.length_singleton, Nat.add_right_cancel_iff, h.nod, List.nodup_append]
    constructor
    · intro hd; exact ⟨hd, by simp, fun a ha b hb he => by simp at hb; subst hb; subst he; exact hs ha⟩
    · intro hd; exact hd.1

/-- Block b is the map of the first places of l. -/
def Pls (w : World) (b n : Nat) (l : List ByteArray) : Prop := ∃ D : DataW Unit, w.ownsMap Tryd.prog 9 (plainElem Tryd.prog 3) b n D ∧ IsPl D l
theorem Pls.below {w w' : World} {b n : Nat} {l : List ByteArray} (h : Pls w b n l) (hb : Below w.heap.size w w') : Pls w' b n l := by
  obtain ⟨D, ho, hp⟩ := h
  exact ⟨D, ho.kept (row := none) ⟨hb.os, hb.tape, hb.output, hb.size, fun k hk _ => hb.block k hk⟩ (by simp), hp⟩

theorem mk_hint (n : Nat) (W : World) : (Instr.makeMap 71 (some (.int .i64 (n : Int)))).run Tryd.prog W = .ok (.map (some W.heap.size)) (W.alloc (.map #[] 0)) := by
  simp [Instr.makeMap, run_underlying Tryd.underlying71, asInt, asIntOf]

theorem key_mk {s : ByteArray} (h : s.size ≤ 1048576) : keyOf Tryd.prog 9 (.string s) = some (kOf s) := WideMaps.keyOf_string_mk Tryd.underlying9 (by unfold maxLen; omega)

set_option maxRecDepth 100000 in
set_option maxHeartbeats 1000000 in
theorem firstPlaces_any (v : Value) (l : List ByteArray) (w : World) (h : StrS w v l) (hs : Sml l) :
    Calls Tryd.prog 44 #[v] w fun e w' => e = .returned (.map (some w.heap.size)) ∧ Pls w' w.heap.size l.length l ∧ Below w.heap.size w w' := by
  obtain ⟨ao, cap, rfl, hr⟩ := h
  have HR := hide hr
  have hmk := mk_hint l.length
  have hlen := hs.1
  have HS := hide hs.2
  clear hr hs
  go_enter Tryd.func44, Tryd.ntmps44
  go_wp2
  go_loopw [13] (fun i wr => ∃ k : Nat, k ≤ l.length ∧ i = .int .i64 k ∧ Pls wr w.heap.size k (l.take k) ∧ Below w.heap.size w wr) (fun i _ => l.length - (intOf i).toNat)
  case atStart => exact ⟨0, Nat.zero_le _, rfl, ⟨_, World.ownsMap_made _ _ _ _, by simpa using isPl_nil⟩, (Below.refl _ _).alloc (Nat.le_refl _) _⟩
  case round =>
    obtain ⟨k, hk, rfl, ⟨D, hown, hpl⟩, hb⟩ := hrel
    clear hmk
    by_cases hlt : k < l.length
    · obtain ⟨g, o, rfl, q1⟩ := (HR.out.below hb) k hlt
      have i0 : (0 : Int) ≤ (k : Int) := by omega
      have i2 : (k : Int) < (l.length : Int) := by omega
      have hsz : (l[k]).size ≤ 1048576 := HS.out _ (List.getElem_mem hlt)
      have htk : l.take (k + 1) = l.take k ++ [l[k]] := by rw [List.take_succ_eq_append_getElem hlt]
      have hlk : (l.take k).length = k := by simp; omega
      have HTK := hide htk
      have HLK := hide hlk
      clear htk hlk
      generalize l[k] = s at q1 hsz HTK
      have hkey := key_mk hsz
      have HH := hide (hpl.has s)
      have HPL := hide hpl
      clear hpl
      by_cases hm : s ∈ l.take k
      · have hh : Maps.has D (kOf s) = true := by rw [HH.out]; exact mem_c.2 hm
        have HM := hide hm
        clear hm
        go_wp2_with (at_lookup; refine wpList_lookup_own_ok_int _ rfl _ _ 71 rfl 9 3 .i64 law Tryd.underlying71 Tryd.underlying3 (zero3 _) w.heap.size k D rfl hown _ _ rfl hkey ?_; intro c hat hwc; rw [hh])
        go_roundw
        case rel => exact ⟨k + 1, by omega, by go_num, ⟨D, hown.mono (by omega), by rw [HTK.out]; exact HPL.out.old HM.out⟩, hb⟩
        case measure => simp [intOf]; omega
      · have hh : Maps.has D (kOf s) = false := by rw [HH.out]; exact not_mem_c.2 hm
        have HM := hide hm
        clear hm
        go_wp2_with (first
          | (at_lookup; refine wpList_lookup_own_ok_int _ rfl _ _ 71 rfl 9 3 .i64 law Tryd.underlying71 Tryd.underlying3 (zero3 _) w.heap.size k D rfl hown _ _ rfl hkey ?_; intro c hat hwc; rw [hh])
          | (at_mapUpdate; refine wpList_mapUpdate_own _ rfl _ _ _ 71 rfl 9 3 law Tryd.underlying71 _ w.heap.size k D rfl hown (by unfold maxLen; omega) _ _ _ rfl rfl hkey _ [] (plainElem_int Tryd.underlying3 (WalkArith.wf_i64 (by omega))) ?_; intro w1 hown1 hgrow1))
        go_roundw
        case rel => exact ⟨k + 1, by omega, by go_num, ⟨_, hown1, by rw [HTK.out]; have := HPL.out.new HM.out; rw [HLK.out] at this; exact this⟩, hb.grown hgrow1 hb.size (fun j hj => by cases hj; exact Nat.le_refl _)⟩
        case measure => simp [intOf]; omega
    · have i2 : ¬ (k : Int) < (l.length : Int) := by omega
      have hke : k = l.length := by omega
      have HP := hide (And.intro hown hpl)
      have HK := hide hke
      clear hown hpl hke
      go_wp2
      go_ret
      refine ⟨rfl, ⟨D, ?_, ?_⟩, hb⟩
      · rw [← HK.out]; exact HP.out.1
      · have := HP.out.2; rw [HK.out, List.take_length] at this; exact this

set_option maxRecDepth 100000 in
set_option maxHeartbeats 1000000 in
theorem holdsTwice_any (v : Value) (l : List ByteArray) (w : World) (h : StrS w v l) (hs : Sml l) :
    Calls Tryd.prog 43 #[v] w fun e w' => e = .returned (.bool (!decide l.Nodup)) ∧ Below w.heap.size w w' := by
  have HS := hide h
  obtain ⟨ao, cap, rfl, hr⟩ := h
  clear hr
  go_enter Tryd.func43, Tryd.ntmps43
  go_wp2_with fail
  refine (firstPlaces_any _ l _ HS.out hs).mono ?_
  rintro e w1 ⟨rfl, ⟨D, hown, hpl⟩, hb⟩
  have hle := hpl.le
  have hd : decide ((Maps.size D : Int) < (l.length : Int)) = !decide l.Nodup := by
    rw [Bool.eq_iff_iff, Bool.not_eq_true', decide_eq_true_iff, decide_eq_false_iff_not, ← hpl.nod]
    omega
  have HD := hide hd
  have hl := fun ty => hown.len Tryd.underlying71 ty
  have hm : Maps.size D ≤ 4194304 := by have := hs.1; omega
  generalize Maps.size D = m at *
  clear hpl hd HS hown hle
  go_wp2
  go_ret
  exact ⟨by rw [← HD.out]; first | rfl | simp, hb⟩

end Go.Proofs.YtnfdifkcchciaaaDoor
