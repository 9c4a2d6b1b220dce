import Derived.Test.YtmagchclmmphaabGreatDoorAP
import Derived.Test.YtmagchclmmphaabGreatDoorSR
import Derived.Lib.BufferMore
import Derived.Maps.AppendAt
namespace Go.Proofs.YtmagchclmmphaabGreatDoor.nm
open Go.RowKit Go.Maps

theorem ba_lawful : LawfulBEq ByteArray := by
  have hb : ∀ a b : ByteArray, (a == b) = true ↔ a = b := by
    intro a b
    cases a; cases b
    show ((_ : Array UInt8) == _) = true ↔ _
    simp
  exact { eq_of_beq := fun {a b} h => (hb a b).1 h, rfl := fun {a} => (hb a a).2 rfl }
theorem mem_c {l : List ByteArray} {s : ByteArray} : l.contains s = true ↔ s ∈ l := by
  haveI := ba_lawful
  exact List.contains_iff_mem
theorem not_mem_c {l : List ByteArray} {s : ByteArray} : l.contains s = false ↔ s ∉ l := by
  rw [← Bool.not_eq_true, mem_c]
theorem ix_lt {l : List ByteArray} {s : ByteArray} : l.idxOf s < l.length ↔ s ∈ l := by
  haveI := ba_lawful
  exact List.idxOf_lt_length_iff
theorem ix_get {l : List ByteArray} {s : ByteArray} (h : l.idxOf s < l.length) : l[l.idxOf s] = s := by
  haveI := ba_lawful
  exact List.getElem_idxOf h
theorem ix_app {l r : List ByteArray} {s : ByteArray} (h : s ∈ l) : (l ++ r).idxOf s = l.idxOf s := by
  haveI := ba_lawful
  rw [List.idxOf_append, if_pos h]
theorem ix_app_not {l r : List ByteArray} {s : ByteArray} (h : s ∉ l) : (l ++ r).idxOf s = r.idxOf s + l.length := by
  haveI := ba_lawful
  rw [List.idxOf_append, if_neg h]

set_option maxRecDepth 100000 in
set_option maxHeartbeats 1000000 in
theorem allValid_any (v : Value) (l : List ByteArray) (w : World) (hl : StrS w v l) (hs : l.length ≤ 4194304) (hT : BytesAt w) (hw0 : 1 < w.heap.size) :
    Calls Tryz.prog 57 #[v] w fun e w' => e = .returned (.bool (l.all vld)) ∧ Below w.heap.size w w' := by
  obtain ⟨ao, cap, rfl, hr⟩ := hl
  have HT := hide hT
  have HR := hide hr
  clear hT hr
  go_enter Tryz.func57, Tryz.ntmps57
  go_wp2
  go_loopw [7] (fun i wr => ∃ k : Nat, k ≤ l.length ∧ i = .int .i64 k ∧ Hid (∀ j (h : j < l.length), j < k → vld l[j] = true) ∧ Below w.heap.size w wr) (fun i _ => l.length - (intOf i).toNat)
  case atStart => exact ⟨0, Nat.zero_le _, rfl, hide (fun j _ hj => absurd hj (Nat.not_lt_zero _)), Below.refl _ _⟩
  case round =>
    obtain ⟨k, hk, rfl, hok, hb⟩ := hrel
    by_cases hlt : k < l.length
    · obtain ⟨g, o, rfl, hc⟩ := (HR.out.below hb) k hlt
      have i0 : (0 : Int) ≤ (k : Int) := by omega
      have i2 : (k : Int) < (l.length : Int) := by omega
      by_cases hv : vld l[k] = true
      · go_wp2_with (go_at_call 31; refine (valid_any _ _ (HT.out.below hb hw0) (Nat.lt_of_lt_of_le hw0 hb.size)).mono ?_; rintro e w' ⟨rfl, hb'⟩; rw [hv])
        go_roundw
        case rel => exact ⟨k + 1, by omega, by go_num, hide (fun j hj hjk => if e : j = k then by subst e; exact hv else hok.out j hj (by omega)), hb.trans (hb'.mono hb.size)⟩
        case measure => simp [intOf]; omega
      · have hv' : vld l[k] = false := by simpa using hv
        have e : l.all vld = false := by rw [List.all_eq_false]; exact ⟨l[k], List.getElem_mem hlt, by simp [hv']⟩
        clear hv
        go_wp2_with (go_at_call 31; refine (valid_any _ _ (HT.out.below hb hw0) (Nat.lt_of_lt_of_le hw0 hb.size)).mono ?_; rintro e w' ⟨rfl, hb'⟩; rw [hv'])
        go_ret
        exact ⟨by first | (rw [e]; rfl) | rfl, hb.trans (hb'.mono hb.size)⟩
    · have i2 : ¬ (k : Int) < (l.length : Int) := by omega
      have e : l.all vld = true := by
        rw [List.all_eq_true]
        intro s hs
        obtain ⟨j, hj, rfl⟩ := List.getElem_of_mem hs
        exact hok.out j hj (by omega)
      go_wp2
      go_ret
      exact ⟨by first | (rw [e]; rfl) | rfl, hb⟩


def kOf (s : ByteArray) : Lit := .string s.data.toList
theorem kOf_inj {s t : ByteArray} (h : kOf s = kOf t) : s = t := by
  cases s; cases t
  simp only [kOf, Lit.string.injEq] at h
  congr 1
  exact Array.toList_inj.1 h
theorem kLit (s : ByteArray) : WideAt.IsKeyLit (kOf s) := trivial
theorem law : Keyed Tryz.prog 9 := string_keyed Tryz.underlying9
theorem zero3 (w : World) : (zeroValue 3).run Tryz.prog w = .ok (.int .i64 0) w := by kernel_rfl

structure IsPl (D : DataW Unit) (l : List ByteArray) : Prop where
  tidy : Tidy D
  has : ∀ s, Maps.has D (kOf s) = l.contains s
  at_ : ∀ s, s ∈ l → ∀ z, D.atKey (kOf s) z = .lit (.int .i64 (l.idxOf s : Nat))
  le : Maps.size D ≤ l.length
  nod : Maps.size D = l.length ↔ l.Nodup

theorem isPl_nil : IsPl (.map []) [] := ⟨tidy_empty, fun s => rfl, fun s h => (by cases h), Nat.le_refl _, ⟨fun _ => List.nodup_nil, fun _ => rfl⟩⟩

theorem contains_snoc (l : List ByteArray) (s t : ByteArray) : (l ++ [s]).contains t = (l.contains t || decide (t = s)) := by
  rw [Bool.eq_iff_iff, mem_c, Bool.or_eq_true, mem_c, decide_eq_true_iff]
  simp

theorem IsPl.old {D : DataW Unit} {l : List ByteArray} {s : ByteArray} (h : IsPl D l) (hs : s ∈ l) : IsPl D (l ++ [s]) := by
  refine ⟨h.tidy, fun t => ?_, fun t ht z => ?_, ?_, ?_⟩
  · rw [h.has, contains_snoc]
    by_cases e : t = s
    · subst e; simp [mem_c.2 hs]
    · simp [e]
  · have ht' : t ∈ l := by
      rcases List.mem_append.1 ht with h1 | h1
      · exact h1
      · simp at h1; subst h1; exact hs
    rw [h.at_ t ht' z, ix_app ht']
  · have := h.le; simp; omega
  · have := h.le
    constructor
    · intro e; simp at e; omega
    · intro e
      rw [List.nodup_append] at e
      exact absurd rfl (e.2.2 s hs s (by simp))
theorem IsPl.new {D : DataW Unit} {l : List ByteArray} {s : ByteArray} (h : IsPl D l) (hs : s ∉ l) : IsPl (D.put (kOf s) (.lit (.int .i64 (l.length : Nat)))) (l ++ [s]) := by
  have hn : Maps.has D (kOf s) = false := by rw [h.has]; exact not_mem_c.2 hs
  have hsz : Maps.size (D.put (kOf s) (.lit (.int .i64 (l.length : Nat)))) = Maps.size D + 1 := by rw [size_put h.tidy, hn]; rfl
  refine ⟨h.tidy.put (kLit s) _, fun t => ?_, fun t ht z => ?_, ?_, ?_⟩
  · rw [contains_snoc]
    by_cases e : t = s
    · subst e; rw [has_put_same h.tidy.isMap (kLit _)]; simp
    · rw [has_put_other (fun h => e (kOf_inj h)), h.has]; simp [e]
  · by_cases e : t = s
    · subst e
      rw [atKey_put_same h.tidy.isMap (kLit _), ix_app_not hs]
      haveI := ba_lawful
      simp
    · have ht' : t ∈ l := by
        rcases List.mem_append.1 ht with h1 | h1
        · exact h1
        · simp at h1; exact absurd h1 e
      rw [atKey_put_other (fun h => e (kOf_inj h)), h.at_ t ht' z, ix_app ht']
  · rw [hsz]; have := h.le; simp; omega
  · rw [hsz, List.length_append, List.length_singleton, Nat.add_right_cancel_iff, h.nod, List.nodup_append]
    constructor
    · intro hd; exact ⟨hd, by simp, fun a ha b hb he => by simp at hb; subst hb; subst he; exact hs ha⟩
    · intro hd; exact hd.1

/-- Block b is the map of the first places of l. -/
def Pls (w : World) (b n : Nat) (l : List ByteArray) : Prop := ∃ D : DataW Unit, w.ownsMap Tryz.prog 9 (plainElem Tryz.prog 3) b n D ∧ IsPl D l
theorem Pls.below {w w' : World} {b n : Nat} {l : List ByteArray} (h : Pls w b n l) (hb : Below w.heap.size w w') : Pls w' b n l := by
  obtain ⟨D, ho, hp⟩ := h
  exact ⟨D, ho.kept (row := none) ⟨hb.os, hb.tape, hb.output, hb.size, fun k hk _ => hb.block k hk⟩ (by simp), hp⟩

theorem mk_hint (n : Nat) (W : World) : (Instr.makeMap 87 (some (.int .i64 (n : Int)))).run Tryz.prog W = .ok (.map (some W.heap.size)) (W.alloc (.map #[] 0)) := by
  simp [Instr.makeMap, run_underlying Tryz.underlying87, asInt, asIntOf]

theorem key_mk {s : ByteArray} (h : s.size ≤ 1048576) : keyOf Tryz.prog 9 (.string s) = some (kOf s) := WideMaps.keyOf_string_mk Tryz.underlying9 (by unfold maxLen; omega)

set_option maxRecDepth 100000 in
set_option maxHeartbeats 1000000 in
theorem firstPlaces_any (v : Value) (l : List ByteArray) (w : World) (h : StrS w v l) (hs : Sml l) :
    Calls Tryz.prog 59 #[v] w fun e w' => e = .returned (.map (some w.heap.size)) ∧ Pls w' w.heap.size l.length l ∧ Below w.heap.size w w' := by
  obtain ⟨ao, cap, rfl, hr⟩ := h
  have HR := hide hr
  have hmk := mk_hint l.length
  have hlen := hs.1
  have HS := hide hs.2
  clear hr hs
  go_enter Tryz.func59, Tryz.ntmps59
  go_wp2
  go_loopw [13] (fun i wr => ∃ k : Nat, k ≤ l.length ∧ i = .int .i64 k ∧ Pls wr w.heap.size k (l.take k) ∧ Below w.heap.size w wr) (fun i _ => l.length - (intOf i).toNat)
  case atStart => exact ⟨0, Nat.zero_le _, rfl, ⟨_, World.ownsMap_made _ _ _ _, by simpa using isPl_nil⟩, (Below.refl _ _).alloc (Nat.le_refl _) _⟩
  case round =>
    obtain ⟨k, hk, rfl, ⟨D, hown, hpl⟩, hb⟩ := hrel
    clear hmk
    by_cases hlt : k < l.length
    · obtain ⟨g, o, rfl, q1⟩ := (HR.out.below hb) k hlt
      have i0 : (0 : Int) ≤ (k : Int) := by omega
      have i2 : (k : Int) < (l.length : Int) := by omega
      have hsz : (l[k]).size ≤ 1048576 := HS.out _ (List.getElem_mem hlt)
      have htk : l.take (k + 1) = l.take k ++ [l[k]] := by rw [List.take_succ_eq_append_getElem hlt]
      have hlk : (l.take k).length = k := by simp; omega
      have HTK := hide htk
      have HLK := hide hlk
      clear htk hlk
      generalize l[k] = s at q1 hsz HTK
      have hkey := key_mk hsz
      have HH := hide (hpl.has s)
      have HPL := hide hpl
      clear hpl
      by_cases hm : s ∈ l.take k
      · have hh : Maps.has D (kOf s) = true := by rw [HH.out]; exact mem_c.2 hm
        have HM := hide hm
        clear hm
        go_wp2_with (at_lookup; refine wpList_lookup_own_ok_int _ rfl _ _ 87 rfl 9 3 .i64 law Tryz.underlying87 Tryz.underlying3 (zero3 _) w.heap.size k D rfl hown _ _ rfl hkey ?_; intro c hat hwc; rw [hh])
        go_roundw
        case rel => exact ⟨k + 1, by omega, by go_num, ⟨D, hown.mono (by omega), by rw [HTK.out]; exact HPL.out.old HM.out⟩, hb⟩
        case measure => simp [intOf]; omega
      · have hh : Maps.has D (kOf s) = false := by rw [HH.out]; exact not_mem_c.2 hm
        have HM := hide hm
        clear hm
        go_wp2_with (first
          | (at_lookup; refine wpList_lookup_own_ok_int _ rfl _ _ 87 rfl 9 3 .i64 law Tryz.underlying87 Tryz.underlying3 (zero3 _) w.heap.size k D rfl hown _ _ rfl hkey ?_; intro c hat hwc; rw [hh])
          | (at_mapUpdate; refine wpList_mapUpdate_own _ rfl _ _ _ 87 rfl 9 3 law Tryz.underlying87 _ w.heap.size k D rfl hown (by unfold maxLen; omega) _ _ _ rfl rfl hkey _ [] (plainElem_int Tryz.underlying3 (WalkArith.wf_i64 (by omega))) ?_; intro w1 hown1 hgrow1))
        go_roundw
        case rel => exact ⟨k + 1, by omega, by go_num, ⟨_, hown1, by rw [HTK.out]; have := HPL.out.new HM.out; rw [HLK.out] at this; exact this⟩, hb.grown hgrow1 hb.size (fun j hj => by cases hj; exact Nat.le_refl _)⟩
        case measure => simp [intOf]; omega
    · have i2 : ¬ (k : Int) < (l.length : Int) := by omega
      have hke : k = l.length := by omega
      have HP := hide (And.intro hown hpl)
      have HK := hide hke
      clear hown hpl hke
      go_wp2
      go_ret
      refine ⟨rfl, ⟨D, ?_, ?_⟩, hb⟩
      · rw [← HK.out]; exact HP.out.1
      · have := HP.out.2; rw [HK.out, List.take_length] at this; exact this

set_option maxRecDepth 100000 in
set_option maxHeartbeats 1000000 in
theorem holdsTwice_any (v : Value) (l : List ByteArray) (w : World) (h : StrS w v l) (hs : Sml l) :
    Calls Tryz.prog 58 #[v] w fun e w' => e = .returned (.bool (!decide l.Nodup)) ∧ Below w.heap.size w w' := by
  have HS := hide h
  obtain ⟨ao, cap, rfl, hr⟩ := h
  clear hr
  go_enter Tryz.func58, Tryz.ntmps58
  go_wp2_with fail
  refine (firstPlaces_any _ l _ HS.out hs).mono ?_
  rintro e w1 ⟨rfl, ⟨D, hown, hpl⟩, hb⟩
  have hle := hpl.le
  have hd : decide ((Maps.size D : Int) < (l.length : Int)) = !decide l.Nodup := by
    rw [Bool.eq_iff_iff, Bool.not_eq_true', decide_eq_true_iff, decide_eq_false_iff_not, ← hpl.nod]
    omega
  have HD := hide hd
  have hl := fun ty => hown.len Tryz.underlying87 ty
  have hm : Maps.size D ≤ 4194304 := by have := hs.1; omega
  generalize Maps.size D = m at *
  clear hpl hd HS hown hle
  go_wp2
  go_ret
  exact ⟨by rw [← HD.out]; first | rfl | simp, hb⟩


def OwnS (w : World) (B : Nat) (v : Value) (l : List ByteArray) : Prop := w.ownsRow B 9 1 v l.length (strV l)
def OwnN (w : World) (B : Nat) (v : Value) (l : List Nat) : Prop := w.ownsRow B 3 1 v l.length (intV l)
theorem strV_length (l : List ByteArray) : (strV l).length = l.length := by simp [strV]
theorem intV_length (l : List Nat) : (intV l).length = l.length := by simp [intV]
theorem strV_one (l : List ByteArray) : ∀ u ∈ strV l, u.oneCell' = true := by
  intro u hu
  obtain ⟨k, _, rfl⟩ := List.mem_map.1 hu
  rfl
theorem OwnS.str {w : World} {B : Nat} {v : Value} {l : List ByteArray} (h : OwnS w B v l) : StrS w v l := by
  rcases h.2 with ⟨rfl, hn⟩ | ⟨g, cap, cur, rfl, hb, hg, hnc, hcm, hcs, htake⟩
  · exact ⟨none, 0, by rw [hn], fun k hk => by omega⟩
  · refine ⟨_, cap, rfl, fun k hk => ⟨g, 0, rfl, ?_⟩⟩
    have h' : w.ownsRow B 9 1 (.slice (some ⟨g, 0, none⟩) l.length cap) l.length (strV l) := h
    rw [Nat.zero_add, h'.cellAt k (by omega)]
    simp [strV, List.getElem?_eq_getElem hk]
theorem clone_any (v : Value) (l : List ByteArray) (w : World) (h : StrS w v l) (hs : l.length ≤ 4194304) :
    Calls Tryz.prog 34 #[v] w fun e w' => ∃ v', e = .returned v' ∧ OwnS w' w.heap.size v' l ∧ Below w.heap.size w w' := by
  obtain ⟨ao, cap, rfl, hr⟩ := h
  exact cloneS_any w ao cap l hr hs


theorem results_tmp4 {fn : Func} {t u v x : Tmp} (h : fn.results = #[.tmp t, .tmp u, .tmp v, .tmp x]) (tmps : Array Value) (P : Program) (w : World) :
    (results fn tmps).run P w = .ok (.tuple #[tmps.getD t undef, tmps.getD u undef, tmps.getD v undef, tmps.getD x undef]) w := by
  simp [results, h]

/-- All names of a, behind them those of b that a has not. -/
def mrg (a b : List ByteArray) : List ByteArray := a ++ b.filter fun s => !a.contains s
def qOf (a b : List ByteArray) : List Nat := b.map fun s => (mrg a b).idxOf s
theorem qOf_length (a b : List ByteArray) : (qOf a b).length = b.length := by simp [qOf]

theorem mrg_nil (a : List ByteArray) : mrg a [] = a := by simp [mrg]
theorem mrg_snoc_old {a c : List ByteArray} {s : ByteArray} (h : s ∈ a) : mrg a (c ++ [s]) = mrg a c := by
  simp [mrg, List.filter_append, mem_c.2 h]
theorem mrg_snoc_new {a c : List ByteArray} {s : ByteArray} (h : s ∉ a) : mrg a (c ++ [s]) = mrg a c ++ [s] := by
  simp [mrg, List.filter_append, not_mem_c.2 h]
theorem mem_mrg {a b : List ByteArray} {s : ByteArray} : s ∈ mrg a b ↔ s ∈ a ∨ s ∈ b := by
  simp only [mrg, List.mem_append, List.mem_filter, Bool.not_eq_true']
  constructor
  · rintro (h | h)
    · exact .inl h
    · exact .inr h.1
  · rintro (h | h)
    · exact .inl h
    · by_cases hs : s ∈ a
      · exact .inl hs
      · exact .inr ⟨h, not_mem_c.2 hs⟩
theorem mrg_len (a b : List ByteArray) : (mrg a b).length ≤ a.length + b.length := by
  have := List.length_filter_le (fun s => !a.contains s) b
  simp [mrg]; exact this
theorem mrg_nodup {a b : List ByteArray} (ha : a.Nodup) (hb : b.Nodup) : (mrg a b).Nodup := by
  rw [mrg, List.nodup_append]
  refine ⟨ha, hb.filter _, ?_⟩
  intro x hx y hy he
  subst he
  rw [List.mem_filter] at hy
  have := mem_c.2 hx
  simp [this] at hy

theorem mrg_split (a c d : List ByteArray) (s : ByteArray) (h : s ∉ a) : mrg a (c ++ ([s] ++ d)) = mrg a c ++ ([s] ++ d.filter fun t => !a.contains t) := by
  simp [mrg, List.filter_append, not_mem_c.2 h]
theorem q_old {a b : List ByteArray} {s : ByteArray} (h : s ∈ a) : (mrg a b).idxOf s = a.idxOf s := ix_app h
theorem q_new {a b : List ByteArray} {k : Nat} (hk : k < b.length) (hb : b.Nodup) (h : b[k] ∉ a) : (mrg a b).idxOf b[k] = (mrg a (b.take k)).length := by
  have e : b = b.take k ++ ([b[k]] ++ b.drop (k + 1)) := by
    rw [List.singleton_append, ← List.drop_eq_getElem_cons hk, List.take_append_drop]
  have e2 : mrg a b = mrg a (b.take k) ++ ([b[k]] ++ (b.drop (k + 1)).filter fun s => !a.contains s) := by
    have := mrg_split a (b.take k) (b.drop (k + 1)) b[k] h
    rw [← e] at this
    exact this
  have hn : b[k] ∉ mrg a (b.take k) := by
    rw [mem_mrg]
    rintro (h1 | h1)
    · exact h h1
    · obtain ⟨j, hj, hje⟩ := List.getElem_of_mem h1
      rw [List.getElem_take] at hje
      have hj' : j < k := by simp at hj; omega
      have := (List.getElem_inj hb).1 hje
      omega
  rw [e2, ix_app_not hn]
  haveI := ba_lawful
  simp

/-- The first k of L, noughts behind. -/
def fillTo (L : List Nat) (k : Nat) : List Nat := L.take k ++ List.replicate (L.length - k) 0
theorem fillTo_length (L : List Nat) (k : Nat) (h : k ≤ L.length) : (fillTo L k).length = L.length := by simp [fillTo]; omega
theorem fillTo_zero (L : List Nat) : intV (fillTo L 0) = List.replicate L.length (.int .i64 0) := by simp [fillTo, intV]
theorem fillTo_full (L : List Nat) : fillTo L L.length = L := by simp [fillTo]
theorem fillTo_set (L : List Nat) (k : Nat) (h : k < L.length) (v : Int) (hv : v = (L[k] : Nat)) : (intV (fillTo L k)).set k (.int .i64 v) = intV (fillTo L (k + 1)) := by
  apply List.ext_getElem?
  intro j
  rw [List.getElem?_set]
  have l1 : (intV (fillTo L k)).length = L.length := by rw [intV_length, fillTo_length L k (by omega)]
  by_cases e : k = j
  · subst e
    rw [if_pos rfl, if_pos (by omega)]
    simp only [intV, fillTo, List.getElem?_map]
    rw [List.getElem?_append_left (by simp; omega), List.getElem?_take_of_lt (by omega), List.getElem?_eq_getElem h]
    simp [hv]
  · rw [if_neg e]
    simp only [intV, fillTo, List.getElem?_map]
    congr 1
    by_cases hj : j < k
    · rw [List.getElem?_append_left (by simp; omega), List.getElem?_append_left (by simp; omega), List.getElem?_take_of_lt hj, List.getElem?_take_of_lt (by omega)]
    · rw [List.getElem?_append_right (by simp; omega), List.getElem?_append_right (by simp; omega), List.getElem?_replicate, List.getElem?_replicate]
      simp only [List.length_take]
      by_cases h2 : j < L.length
      · rw [if_pos (by omega), if_pos (by omega)]
      · rw [if_neg (by omega), if_neg (by omega)]



set_option maxRecDepth 100000 in
set_option maxHeartbeats 1000000 in
theorem merge_noname (va vb : Value) (a b : List ByteArray) (w : World) (ha : StrS w va a) (hb : StrS w vb b) (la : a.length ≤ 2097152) (lb : b.length ≤ 2097152)
    (h : ¬ (a.all vld = true ∧ b.all vld = true)) (hT : BytesAt w) (hw0 : 1 < w.heap.size) :
    Calls Tryz.prog 32 #[va, vb] w fun e w' => e = .returned (.tuple #[.slice none 0 0, .slice none 0 0, .slice none 0 0, .int .i64 20]) ∧ Below w.heap.size w w' := by
  by_cases h1 : a.all vld = true
  · have h2 : b.all vld = false := by
      cases hx : b.all vld
      · rfl
      · exact absurd ⟨h1, hx⟩ h
    clear h
    have HT := hide hT
    clear hT
    go_enter Tryz.func32, Tryz.ntmps32
    go_wp2_with fail
    refine (allValid_any va a _ ha (by omega) HT.out hw0).mono ?_
    rintro e w1 ⟨rfl, d1⟩
    rw [h1]
    clear ha
    go_wp2_with fail
    refine (allValid_any vb b _ (hb.below d1) (by omega) (HT.out.below d1 hw0) (Nat.lt_of_lt_of_le hw0 d1.size)).mono ?_
    rintro e w2 ⟨rfl, d2⟩
    rw [h2]
    have d := d1.trans (d2.mono d1.size)
    clear hb d1 d2
    go_wp2
    (try simp only [Exit.inBlock, Exit.then])
    refine bodyPost_ret (results_tmp4 rfl _ _ _) rfl ?_
    exact ⟨rfl, d⟩
  · have h1' : a.all vld = false := by simpa using h1
    clear h h1
    have HT := hide hT
    clear hT
    go_enter Tryz.func32, Tryz.ntmps32
    go_wp2_with fail
    refine (allValid_any va a _ ha (by omega) HT.out hw0).mono ?_
    rintro e w1 ⟨rfl, d1⟩
    rw [h1']
    clear ha hb
    go_wp2
    (try simp only [Exit.inBlock, Exit.then])
    refine bodyPost_ret (results_tmp4 rfl _ _ _) rfl ?_
    exact ⟨rfl, d1⟩

set_option maxRecDepth 100000 in
set_option maxHeartbeats 1000000 in
theorem merge_twice (va vb : Value) (a b : List ByteArray) (w : World) (ha : StrS w va a) (hb : StrS w vb b) (la : a.length ≤ 2097152) (lb : b.length ≤ 2097152) (sa : Sml a) (sb : Sml b)
    (h1 : a.all vld = true) (h2 : b.all vld = true) (h : ¬ (a.Nodup ∧ b.Nodup)) (hT : BytesAt w) (hw0 : 1 < w.heap.size) :
    Calls Tryz.prog 32 #[va, vb] w fun e w' => e = .returned (.tuple #[.slice none 0 0, .slice none 0 0, .slice none 0 0, .int .i64 21]) ∧ Below w.heap.size w w' := by
  have HT := hide hT
  clear hT
  by_cases n1 : a.Nodup
  · have n2 : (!decide b.Nodup) = true := by simp; exact fun hx => h ⟨n1, hx⟩
    have n1' : (!decide a.Nodup) = false := by simp [n1]
    have SS := hide (And.intro sa sb)
    clear h n1 sa sb
    go_enter Tryz.func32, Tryz.ntmps32
    go_wp2_with fail
    refine (allValid_any va a _ ha (by omega) HT.out hw0).mono ?_
    rintro e w1 ⟨rfl, d1⟩
    rw [h1]
    go_wp2_with fail
    refine (allValid_any vb b _ (hb.below d1) (by omega) (HT.out.below d1 hw0) (Nat.lt_of_lt_of_le hw0 d1.size)).mono ?_
    rintro e w2 ⟨rfl, d2⟩
    rw [h2]
    have d := d1.trans (d2.mono d1.size)
    replace ha := ha.below d
    replace hb := hb.below d
    clear d1 d2
    go_wp2_with fail
    refine (holdsTwice_any va a _ ha SS.out.1).mono ?_
    rintro e w3 ⟨rfl, d3⟩
    rw [n1']
    replace hb := hb.below d3
    replace d := d.trans (d3.mono d.size)
    clear d3 ha
    go_wp2_with fail
    refine (holdsTwice_any vb b _ hb SS.out.2).mono ?_
    rintro e w4 ⟨rfl, d4⟩
    rw [n2]
    replace d := d.trans (d4.mono d.size)
    clear d4 hb
    go_wp2
    (try simp only [Exit.inBlock, Exit.then])
    refine bodyPost_ret (results_tmp4 rfl _ _ _) rfl ?_
    exact ⟨rfl, d⟩
  · have n1' : (!decide a.Nodup) = true := by simp [n1]
    have SS := hide (And.intro sa sb)
    clear h n1 sa sb
    go_enter Tryz.func32, Tryz.ntmps32
    go_wp2_with fail
    refine (allValid_any va a _ ha (by omega) HT.out hw0).mono ?_
    rintro e w1 ⟨rfl, d1⟩
    rw [h1]
    go_wp2_with fail
    refine (allValid_any vb b _ (hb.below d1) (by omega) (HT.out.below d1 hw0) (Nat.lt_of_lt_of_le hw0 d1.size)).mono ?_
    rintro e w2 ⟨rfl, d2⟩
    rw [h2]
    have d := d1.trans (d2.mono d1.size)
    replace ha := ha.below d
    clear d1 d2 hb
    go_wp2_with fail
    refine (holdsTwice_any va a _ ha SS.out.1).mono ?_
    rintro e w3 ⟨rfl, d3⟩
    rw [n1']
    replace d := d.trans (d3.mono d.size)
    clear d3 ha
    go_wp2
    (try simp only [Exit.inBlock, Exit.then])
    refine bodyPost_ret (results_tmp4 rfl _ _ _) rfl ?_
    exact ⟨rfl, d⟩



theorem OwnS.below {w w' : World} {B : Nat} {v : Value} {l : List ByteArray} (h : OwnS w B v l) (hb : Below w.heap.size w w') : OwnS w' B v l :=
  World.ownsRow.kept h (row := none) ⟨hb.os, hb.tape, hb.output, hb.size, fun k hk _ => hb.block k hk⟩ (by cases v.ownBlock <;> simp)
theorem OwnN.below {w w' : World} {B : Nat} {v : Value} {l : List Nat} (h : OwnN w B v l) (hb : Below w.heap.size w w') : OwnN w' B v l :=
  World.ownsRow.kept h (row := none) ⟨hb.os, hb.tape, hb.output, hb.size, fun k hk _ => hb.block k hk⟩ (by cases v.ownBlock <;> simp)
theorem OwnS.mono {w : World} {B B' : Nat} {v : Value} {l : List ByteArray} (h : OwnS w B v l) (hb : B' ≤ B) : OwnS w B' v l :=
  ⟨h.1, h.2.imp id fun ⟨g, cap, cur, h1, h2, h3⟩ => ⟨g, cap, cur, h1, by omega, h3⟩⟩
theorem row_mono {w : World} {B B' : Nat} {e : TypeId} {n : Nat} {v : Value} {xs : List Value} (h : w.ownsRow B e 1 v n xs) (hb : B' ≤ B) : w.ownsRow B' e 1 v n xs :=
  ⟨h.1, h.2.imp id fun ⟨g, cap, cur, h1, h2, h3⟩ => ⟨g, cap, cur, h1, by omega, h3⟩⟩
theorem row_below {w w' : World} {B : Nat} {e : TypeId} {n : Nat} {v : Value} {xs : List Value} (h : w.ownsRow B e 1 v n xs) (hb : Below w.heap.size w w') : w'.ownsRow B e 1 v n xs :=
  World.ownsRow.kept h (row := none) ⟨hb.os, hb.tape, hb.output, hb.size, fun k hk _ => hb.block k hk⟩ (by cases v.ownBlock <;> simp)

/-- What Merge holds in the round k of its second loop. -/
structure Mg (w : World) (a b : List ByteArray) (bm gp gq n m k : Nat) (v : Value) (wr : World) : Prop where
  all : OwnS wr w.heap.size v (mrg a (b.take k))
  np : v.ownBlock ≠ some gp
  nq : v.ownBlock ≠ some gq
  nm : v.ownBlock ≠ some bm
  p : wr.ownsRow w.heap.size 3 1 (.slice (some ⟨gp, 0, none⟩) n n) n (intV (List.range n))
  q : wr.ownsRow w.heap.size 3 1 (.slice (some ⟨gq, 0, none⟩) m m) m (intV (fillTo (qOf a b) k))
  pl : Pls wr bm n a
  below : Below w.heap.size w wr
  pq : gp ≠ gq
  mq : bm ≠ gq
  lt : gp < wr.heap.size ∧ gq < wr.heap.size ∧ bm < wr.heap.size

theorem Mg.stored {w : World} {a b : List ByteArray} {bm gp gq n m k : Nat} {v : Value} {wr : World} (h : Mg w a b bm gp gq n m k v wr) (hk : k < b.length) (_hm : m = b.length)
    (v' : Value) (wx : World) (x : Int) (hx : x = ((mrg a b).idxOf b[k] : Nat)) (hx' : Mg w a b bm gp gq n m k v wr → OwnS wx w.heap.size v' (mrg a (b.take (k + 1))) ∧ v'.ownBlock ≠ some gp ∧ v'.ownBlock ≠ some gq ∧ v'.ownBlock ≠ some bm ∧
      wx.ownsRow w.heap.size 3 1 (.slice (some ⟨gp, 0, none⟩) n n) n (intV (List.range n)) ∧ wx.ownsRow w.heap.size 3 1 (.slice (some ⟨gq, 0, none⟩) m m) m (intV (fillTo (qOf a b) k)) ∧ Pls wx bm n a ∧ Below w.heap.size w wx ∧ wr.heap.size ≤ wx.heap.size) :
    Mg w a b bm gp gq n m (k + 1) v' (wx.setCell ⟨gq, k, none⟩ (.int .i64 x)) := by
  obtain ⟨o1, o2, o3, o4, o5, o6, ⟨D, o7, o7'⟩, o8, o9⟩ := hx' h
  have st := o6.stored k (.int .i64 x)
  have hgq := (o6.lt gq rfl).1
  refine ⟨World.ownsRow.kept o1 st.2 (.inr o3), o2, o3, o4, World.ownsRow.kept o5 st.2 (.inr (by simp [Value.ownBlock]; exact h.pq)), ?_, ⟨D, o7.setCell h.mq _, o7'⟩, o8.setCell hgq _, h.pq, h.mq, ?_⟩
  · have := st.1
    rwa [fillTo_set (qOf a b) k (by rw [qOf_length]; exact hk) x (by rw [hx]; simp [qOf])] at this
  · have := st.2.size
    have := h.lt
    omega

theorem Mg.old {w : World} {a b : List ByteArray} {bm gp gq n m k : Nat} {v : Value} {wr : World} (h : Mg w a b bm gp gq n m k v wr) (hk : k < b.length) (hm : m = b.length) (hs : b[k] ∈ a) (x : Int) (hx : x = (a.idxOf b[k] : Nat)) :
    Mg w a b bm gp gq n m (k + 1) v (wr.setCell ⟨gq, k, none⟩ (.int .i64 x)) :=
  h.stored hk hm v wr x (by rw [hx, q_old hs]) fun h => ⟨by rw [List.take_succ_eq_append_getElem hk, mrg_snoc_old hs]; exact h.all, h.np, h.nq, h.nm, h.p, h.q, h.pl, h.below, Nat.le_refl _⟩

theorem Mg.new {w : World} {a b : List ByteArray} {bm gp gq n m k : Nat} {v : Value} {wr : World} (h : Mg w a b bm gp gq n m k v wr) (hk : k < b.length) (hm : m = b.length) (hs : b[k] ∉ a) (nb : b.Nodup) (t : TypeId) (v' : Value) (w1 : World)
    (ho : w1.ownsRow w.heap.size 9 1 v' ((mrg a (b.take k)).length + 1) (strV (mrg a (b.take k)) ++ [.string b[k]]))
    (hg : (wr.alloc (.cells #[.string b[k]] t)).grownBy w1 v.ownBlock) (hloc : v'.ownBlock = v.ownBlock ∨ v'.ownBlock = some (wr.alloc (.cells #[.string b[k]] t)).heap.size) (x : Int) (hx : x = ((mrg a (b.take k)).length : Nat)) :
    Mg w a b bm gp gq n m (k + 1) v' (w1.setCell ⟨gq, k, none⟩ (.int .i64 x)) := by
  have hsz : (wr.alloc (.cells #[.string b[k]] t)).heap.size = wr.heap.size + 1 := by simp
  have hlt := h.lt
  refine h.stored hk hm v' w1 x (by rw [hx, q_new hk nb hs]) fun h => ⟨?_, ?_, ?_, ?_, ?_, ?_, ?_, ?_, ?_⟩
  · rw [List.take_succ_eq_append_getElem hk, mrg_snoc_new hs]
    show w1.ownsRow w.heap.size 9 1 v' (mrg a (b.take k) ++ [b[k]]).length (strV (mrg a (b.take k) ++ [b[k]]))
    rw [List.length_append, List.length_singleton]
    simpa [strV] using ho
  · rcases hloc with e | e
    · rw [e]; exact h.np
    · rw [e, hsz]; simp; omega
  · rcases hloc with e | e
    · rw [e]; exact h.nq
    · rw [e, hsz]; simp; omega
  · rcases hloc with e | e
    · rw [e]; exact h.nm
    · rw [e, hsz]; simp; omega
  · exact World.ownsRow.kept (h.p.alloc _) hg (.inr (fun e => h.np (by simpa [Value.ownBlock] using e.symm)))
  · exact World.ownsRow.kept (h.q.alloc _) hg (.inr (fun e => h.nq (by simpa [Value.ownBlock] using e.symm)))
  · obtain ⟨D, o, hp⟩ := h.pl
    exact ⟨D, (o.alloc _).kept hg (fun e => h.nm e.symm), hp⟩
  · exact (h.below.alloc h.below.size _).grown hg (by rw [hsz]; have := h.below.size; omega) (fun j hj => (World.ownsRow.lt h.all j hj).1)
  · have := hg.size; omega



set_option maxRecDepth 100000 in
set_option maxHeartbeats 4000000 in
theorem merge_ok (va vb : Value) (a b : List ByteArray) (w : World) (ha : StrS w va a) (hb : StrS w vb b) (la : a.length ≤ 2097152) (lb : b.length ≤ 2097152) (sa : Sml a) (sb : Sml b)
    (h1 : a.all vld = true) (h2 : b.all vld = true) (n1 : a.Nodup) (n2 : b.Nodup) (hT : BytesAt w) (hw0 : 1 < w.heap.size) :
    Calls Tryz.prog 32 #[va, vb] w fun e w' => ∃ v p q, e = .returned (.tuple #[v, p, q, .int .i64 0]) ∧ OwnS w' w.heap.size v (mrg a b) ∧ OwnN w' w.heap.size p (List.range a.length) ∧ OwnN w' w.heap.size q (qOf a b) ∧ Below w.heap.size w w' := by
  obtain ⟨i3, hi3, hz30, hz31, hz32⟩ := info_parts info3
  obtain ⟨i9, hi9, hz90, hz91, hz92⟩ := info_parts info9
  have HT := hide hT
  have NN := hide (And.intro n1 n2)
  have n1' : (!decide a.Nodup) = false := by simp [n1]
  have n2' : (!decide b.Nodup) = false := by simp [n2]
  have SS := hide (And.intro sa sb)
  have HA := hide (And.intro ha hb)
  obtain ⟨a1, c1, rfl, r1⟩ := ha
  obtain ⟨a2, c2, rfl, r2⟩ := hb
  have HR := hide r2
  clear hT n1 n2 sa sb r1 r2
  go_enter Tryz.func32, Tryz.ntmps32
  go_wp2_with fail
  refine (allValid_any _ a _ HA.out.1 (by omega) HT.out hw0).mono ?_
  rintro e w1 ⟨rfl, d⟩
  rw [h1]
  go_wp2_with fail
  refine (allValid_any _ b _ (HA.out.2.below d) (by omega) (HT.out.below d hw0) (Nat.lt_of_lt_of_le hw0 d.size)).mono ?_
  rintro e w2 ⟨rfl, d2⟩
  rw [h2]
  replace d := d.trans (d2.mono d.size)
  clear d2
  go_wp2_with fail
  refine (holdsTwice_any _ a _ (HA.out.1.below d) SS.out.1).mono ?_
  rintro e w3 ⟨rfl, d3⟩
  rw [n1']
  replace d := d.trans (d3.mono d.size)
  clear d3
  go_wp2_with fail
  refine (holdsTwice_any _ b _ (HA.out.2.below d) SS.out.2).mono ?_
  rintro e w4 ⟨rfl, d4⟩
  rw [n2']
  replace d := d.trans (d4.mono d.size)
  clear d4
  go_wp2_with fail
  refine (clone_any _ a _ (HA.out.1.below d) (by omega)).mono ?_
  rintro e w5 ⟨v, rfl, ov, d5⟩
  have ov' := ov.mono d.size
  have vlt : ∀ k, v.ownBlock = some k → k < w5.heap.size := fun k hk => (World.ownsRow.lt ov k hk).2
  replace d := d.trans (d5.mono d.size)
  clear d5 ov
  go_wp2_with fail
  refine (firstPlaces_any _ a _ (HA.out.1.below d) SS.out.1).mono ?_
  rintro e w6 ⟨rfl, pl, d6⟩
  have ov := ov'.below d6
  have hlt6 : w5.heap.size < w6.heap.size := by obtain ⟨D, o, _⟩ := pl; exact o.lt
  replace d := d.trans (d6.mono d.size)
  have HV := hide (And.intro ov (And.intro pl (And.intro vlt hlt6)))
  have HD := hide d
  clear d6 ov ov' pl vlt hlt6 d
  go_wp2_with (at_make; refine wpList_make_full _ rfl _ _ 22 rfl w6.heap.size 3 i3 (.int .i64 0) 1 Tryz.underlying22 hi3 hz30 hz31 _ _ _ _ a.length rfl rfl rfl rfl ?_ ?_ ?_ ?_)
  · rw [hz32]; omega
  · unfold maxLen; omega
  · exact Nat.le_refl _
  · intro w7 hp hg
    rw [toList_madeCells_one, ← List.length_range (n := a.length), ← fillTo_zero (List.range a.length), List.length_range] at hp
    have d7 : Below w6.heap.size w6 w7 := (Below.refl _ _).grown hg (Nat.le_refl _) (by intro k hk; cases hk)
    have HP := hide (And.intro hp d7)
    have hge7 : w6.heap.size < w7.heap.size := (hp.lt _ rfl).2
    clear hp hg d7
    go_wp2
    go_loopw [40] (fun i wr => ∃ k : Nat, k ≤ a.length ∧ i = .int .i64 k ∧ wr.ownsRow w6.heap.size 3 1 (.slice (some ⟨w6.heap.size, 0, none⟩) a.length a.length) a.length (intV (fillTo (List.range a.length) k)) ∧ Below w6.heap.size w6 wr) (fun i _ => a.length - (intOf i).toNat)
    case atStart => exact ⟨0, Nat.zero_le _, rfl, HP.out.1, HP.out.2⟩
    case round =>
      obtain ⟨k, hk, rfl, hp, dr⟩ := hrel
      clear HP
      by_cases hlt : k < a.length
      · have i0 : (0 : Int) ≤ (k : Int) := by omega
        have i2 : (k : Int) < (a.length : Int) := by omega
        obtain ⟨u, hu⟩ : ∃ u, wr.cell? ⟨w6.heap.size, k, none⟩ = some u := ⟨_, (hp.cellAt k (by omega)).trans (List.getElem?_eq_getElem (by rw [intV_length, fillTo_length _ _ (by simp; omega)]; simp; omega))⟩
        have hf : wr.frozen? ⟨w6.heap.size, k, none⟩ = false := hp.frozenAt _
        have HP := hide (And.intro hp dr)
        clear hp dr
        go_wp2
        go_roundw
        case rel =>
          refine ⟨k + 1, by omega, by go_num, ?_, HP.out.2.setCell (Nat.le_refl _) _⟩
          have := (HP.out.1.stored k (.int .i64 (k : Int))).1
          rwa [fillTo_set _ k (by simp; omega) _ (by simp)] at this
        case measure => simp [intOf]; omega
      · have i2 : ¬ (k : Int) < (a.length : Int) := by omega
        have hke : k = a.length := by omega
        have hp' : wr.ownsRow w6.heap.size 3 1 (.slice (some ⟨w6.heap.size, 0, none⟩) a.length a.length) a.length (intV (List.range a.length)) := by
          have e := fillTo_full (List.range a.length)
          rw [List.length_range] at e
          rw [hke, e] at hp
          exact hp
        have hpl : Pls wr w5.heap.size a.length a := HV.out.2.1.below dr
        have hov : OwnS wr w.heap.size v a := HV.out.1.below dr
        have dd : Below w.heap.size w wr := HD.out.trans (dr.mono HD.out.size)
        have hgp : w6.heap.size < wr.heap.size := (hp'.lt _ rfl).2
        have HP := hide (And.intro hp' (And.intro hpl (And.intro hov dd)))
        clear hp hp' hpl hov dd dr hke
        go_wp2_with (at_make; refine wpList_make_full _ rfl _ _ 22 rfl wr.heap.size 3 i3 (.int .i64 0) 1 Tryz.underlying22 hi3 hz30 hz31 _ _ _ _ b.length rfl rfl rfl rfl (by rw [hz32]; omega) (by unfold maxLen; omega) (Nat.le_refl _) ?_)
        · intro w8 hq hg
          rw [toList_madeCells_one, ← qOf_length a b, ← fillTo_zero (qOf a b), qOf_length] at hq
          have d8 : Below wr.heap.size wr w8 := (Below.refl _ _).grown hg (Nat.le_refl _) (by intro k hk; cases hk)
          have hge8 : wr.heap.size < w8.heap.size := (hq.lt _ rfl).2
          have MG : Mg w a b w5.heap.size w6.heap.size wr.heap.size a.length b.length 0 v w8 := by
            obtain ⟨p1, p2, p3, p4⟩ := HP.out
            obtain ⟨v1, v2, v3, v4⟩ := HV.out
            have hd := HD.out.size
            have vne : ∀ g, w5.heap.size ≤ g → v.ownBlock ≠ some g := fun g hg e => by have := v3 g e; omega
            refine ⟨?_, vne _ (by omega), vne _ (by omega), vne _ (by omega), row_mono (row_below p1 d8) hd, row_mono hq (by have := p4.size; omega), p2.below d8, p4.trans (d8.mono p4.size), by omega, by omega, by omega, by omega, by omega⟩
            rw [List.take_zero, mrg_nil]; exact p3.below d8
          have HM := hide MG
          clear hq hg d8 MG HP HV hge8
          generalize wr.heap.size = gq at HM ⊢
          go_wp2
          go_loopw [8, 53] (fun vv i wr => ∃ k : Nat, k ≤ b.length ∧ i = .int .i64 k ∧ Hid (Mg w a b w5.heap.size w6.heap.size gq a.length b.length k vv wr)) (fun _ i _ => b.length - (intOf i).toNat)
          case atStart => exact ⟨0, Nat.zero_le _, rfl, HM⟩
          case round =>
            obtain ⟨k, hk, rfl, MG⟩ := hrel
            clear HM
            by_cases hlb : k < b.length
            · obtain ⟨g, o, rfl, q1⟩ := (HR.out.below MG.out.below) k hlb
              have j0 : (0 : Int) ≤ (k : Int) := by omega
              have j2 : (k : Int) < (b.length : Int) := by omega
              have hsz : (b[k]).size ≤ 1048576 := SS.out.2.2 _ (List.getElem_mem hlb)
              obtain ⟨s, hs⟩ : ∃ s, s = b[k] := ⟨_, rfl⟩
              rw [← hs] at q1 hsz
              have hkey := key_mk hsz
              obtain ⟨D, hown, hpl⟩ := MG.out.pl
              have hlq : (intV (fillTo (qOf a b) k)).length = b.length := by rw [intV_length, fillTo_length _ _ (by rw [qOf_length]; omega), qOf_length]
              by_cases hm : s ∈ a
              · have hh : Maps.has D (kOf s) = true := by rw [hpl.has]; exact mem_c.2 hm
                have hat' := hpl.at_ s hm (.lit (.int .i64 0))
                obtain ⟨u, hu⟩ : ∃ u, wr.cell? ⟨gq, k, none⟩ = some u := ⟨_, (MG.out.q.cellAt k (by omega)).trans (List.getElem?_eq_getElem (by omega))⟩
                have hf : wr.frozen? ⟨gq, k, none⟩ = false := MG.out.q.frozenAt _
                have HH := hide (And.intro hm (And.intro hs hat'))
                clear hm hs hat' hpl hlq
                go_wp2_with (at_lookup; refine wpList_lookup_own_ok_int _ rfl _ _ 87 rfl 9 3 .i64 law Tryz.underlying87 Tryz.underlying3 (zero3 _) w5.heap.size a.length D rfl hown _ _ rfl hkey ?_; intro c hat hwc; rw [hh])
                go_roundw
                case rel =>
                  obtain ⟨hm, hs, hat'⟩ := HH.out
                  refine ⟨k + 1, by omega, by go_num, hide (MG.out.old hlb rfl (hs ▸ hm) c ?_)⟩
                  rw [hat'] at hat
                  injection hat with e
                  injection e with _ e
                  rw [← hs]; exact e.symm
                case measure => simp [intOf]; omega
              · have hh : Maps.has D (kOf s) = false := by rw [hpl.has]; exact not_mem_c.2 hm
                have HH := hide (And.intro hm hs)
                have hL := mrg_len a (b.take k)
                have hL2 : (b.take k).length ≤ b.length := by simp; omega
                have hL3 : (mrg a (b.take k)).length ≤ 4194304 := by omega
                obtain ⟨ao, cp, rfl, _⟩ := MG.out.all.str
                obtain ⟨n, hn⟩ : ∃ n, n = (mrg a (b.take k)).length := ⟨_, rfl⟩
                have hov : wr.ownsRow w.heap.size 9 1 (.slice ao n cp) n (strV (mrg a (b.take k))) := by rw [hn]; exact MG.out.all
                have hn4 : n ≤ 4194304 := by omega
                rw [← hn] at MG
                rw [← hn]
                have HN := hide (And.intro hn hlq)
                clear hm hs hpl hL hL2 hL3 hlq hn
                have hws := MG.out.below.size
                go_wp2_with (first
                  | (at_lookup; refine wpList_lookup_own_ok_int _ rfl _ _ 87 rfl 9 3 .i64 law Tryz.underlying87 Tryz.underlying3 (zero3 _) w5.heap.size a.length D rfl hown _ _ rfl hkey ?_; intro c hat hwc; rw [hh])
                  | (at_builtin; refine wpList_append_own_at _ rfl _ _ _ rfl w.heap.size 9 i9 _ 1 16 Tryz.underlying26 hi9 hz90 hz91 hz92 rfl (by omega) (.slice ao n cp) n (strV (mrg a (b.take k))) rfl (hov.alloc _) ⟨wr.heap.size, 0, none⟩ 1 1 [.string s] rfl rfl (cell_one_new _ _ _) (strV_one [s]) (by unfold maxLen; omega) (by omega) (by simp; omega) ?_))
                intro v' w9 ho hgr hnil hloc
                obtain ⟨hm, hs⟩ := HH.out
                obtain ⟨hn, hlq⟩ := HN.out
                have hq9 : w9.ownsRow w.heap.size 3 1 (.slice (some ⟨gq, 0, none⟩) b.length b.length) b.length (intV (fillTo (qOf a b) k)) := World.ownsRow.kept (MG.out.q.alloc _) hgr (.inr (fun e => MG.out.nq (by simpa [Value.ownBlock] using e.symm)))
                obtain ⟨u, hu⟩ : ∃ u, w9.cell? ⟨gq, k, none⟩ = some u := ⟨_, (hq9.cellAt k (by omega)).trans (List.getElem?_eq_getElem (by omega))⟩
                have hf : w9.frozen? ⟨gq, k, none⟩ = false := hq9.frozenAt _
                have HO := hide (And.intro ho (And.intro hgr hloc))
                clear ho hgr hnil hloc hm hs hn hlq hq9 hov
                go_wp2
                go_roundw
                case rel =>
                  obtain ⟨hm, hs⟩ := HH.out
                  obtain ⟨hn, hlq⟩ := HN.out
                  obtain ⟨ho, hgr, hloc⟩ := HO.out
                  subst hs
                  refine ⟨k + 1, by omega, by go_num, hide (MG.out.new hlb rfl hm NN.out.2 _ v' w9 ?_ hgr (hloc.imp id (fun h => by rw [h]; simp)) _ ?_)⟩
                  · rw [← hn]; exact ho
                  · rw [hn]
                case measure => simp [intOf]; omega
            · have j2 : ¬ (k : Int) < (b.length : Int) := by omega
              have hke : k = b.length := by omega
              have HK := hide hke
              clear hke
              go_wp2
              (try simp only [Exit.inBlock, Exit.then])
              refine bodyPost_ret (results_tmp4 rfl _ _ _) rfl ?_
              have M := MG.out
              rw [HK.out] at M
              refine ⟨_, _, _, rfl, ?_, ?_, ?_, M.below⟩
              · have := M.all; rwa [List.take_length] at this
              · have := M.p
                show World.ownsRow _ _ _ _ _ (List.range a.length).length _
                rw [List.length_range]; exact this
              · have := M.q
                have e := fillTo_full (qOf a b)
                rw [qOf_length] at e
                rw [e] at this
                show World.ownsRow _ _ _ _ _ (qOf a b).length _
                rw [qOf_length]; exact this


end Go.Proofs.YtmagchclmmphaabGreatDoor.nm
