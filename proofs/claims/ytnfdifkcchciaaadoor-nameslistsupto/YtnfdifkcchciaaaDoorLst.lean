import Derived.Test.YtnfdifkcchciaaaDoorVal
namespace Go.Proofs.YtnfdifkcchciaaaDoor
open Go.RowKit Go.Maps

theorem below_drewN' {B : Nat} {w w' : World} (h : Below B w w') (q : Nat) : Below B w (w'.drewN q) := ⟨h.os, h.tape, h.output, h.size, h.block⟩

set_option maxRecDepth 100000 in
set_option maxHeartbeats 1000000 in
/-- Two lists of one content. -/
theorem same_any (v1 v2 : Value) (l : List ByteArray) (w : World) (h1 : StrS w v1 l) (h2 : StrS w v2 l) (hs : l.length ≤ 4194304) :
    Calls Tryd.prog 15 #[v1, v2] w fun e w' => e = .returned (.bool true) ∧ Below w.heap.size w w' := by
  obtain ⟨a1, c1, rfl, r1⟩ := h1
  obtain ⟨a2, c2, rfl, r2⟩ := h2
  have HR := hide (And.intro r1 r2)
  clear r1 r2
  go_enter Tryd.func15, Tryd.ntmps15
  go_wp2
  go_loopw [13] (fun i wr => ∃ k : Nat, k ≤ l.length ∧ i = .int .i64 k ∧ Below w.heap.size w wr) (fun i _ => l.length - (intOf i).toNat)
  case atStart => exact ⟨0, Nat.zero_le _, rfl, Below.refl _ _⟩
  case round =>
    obtain ⟨k, hk, rfl, hb⟩ := hrel
    by_cases hlt : k < l.length
    · obtain ⟨g1, o1, rfl, q1⟩ := (HR.out.1.below hb) k hlt
      obtain ⟨g2, o2, rfl, q2⟩ := (HR.out.2.below hb) k hlt
      have i0 : (0 : Int) ≤ (k : Int) := by omega
      have i2 : (k : Int) < (l.length : Int) := by omega
      generalize l[k] = s at q1 q2
      go_wp2_with fail
      go_quiet (fail)
      go_wp2
      go_roundw
      case rel => exact ⟨k + 1, by omega, by go_num, by first | exact hb.drew | exact below_drewN' hb _ | exact hb⟩
      case measure => simp [intOf]; omega
    · have i2 : ¬ (k : Int) < (l.length : Int) := by omega
      go_wp2
      go_ret
      exact ⟨rfl, hb⟩

/-- A list of numbers as it lies at an address. -/
def ReadsN (w : World) (ao : Option Addr) (l : List Nat) : Prop := ∀ k (hk : k < l.length), ∃ g o, ao = some ⟨g, o, none⟩ ∧ w.cell? ⟨g, o + k, none⟩ = some (.int .i64 (l[k] : Nat))
def IntS (w : World) (v : Value) (l : List Nat) : Prop := ∃ ao cap, v = .slice ao l.length cap ∧ ReadsN w ao l
theorem ReadsN.below {w w' : World} {ao : Option Addr} {l : List Nat} (h : ReadsN w ao l) (hb : Below w.heap.size w w') : ReadsN w' ao l := fun k hk => by
  obtain ⟨g, o, rfl, hc⟩ := h k hk
  exact ⟨g, o, rfl, (hb.cell (p := ⟨g, o + k, none⟩) (World.block_lt_of_cell? w _ hc)).trans hc⟩
theorem IntS.below {w w' : World} {v : Value} {l : List Nat} (h : IntS w v l) (hb : Below w.heap.size w w') : IntS w' v l := by
  obtain ⟨ao, cap, rfl, hr⟩ := h
  exact ⟨ao, cap, rfl, hr.below hb⟩

set_option maxRecDepth 100000 in
set_option maxHeartbeats 1000000 in
theorem sameInts_any (v1 v2 : Value) (l : List Nat) (w : World) (h1 : IntS w v1 l) (h2 : IntS w v2 l) (hs : l.length ≤ 4194304) :
    Calls Tryd.prog 28 #[v1, v2] w fun e w' => e = .returned (.bool true) ∧ Below w.heap.size w w' := by
  obtain ⟨a1, c1, rfl, r1⟩ := h1
  obtain ⟨a2, c2, rfl, r2⟩ := h2
  have HR := hide (And.intro r1 r2)
  clear r1 r2
  go_enter Tryd.func28, Tryd.ntmps28
  go_wp2
  go_loopw [13] (fun i wr => ∃ k : Nat, k ≤ l.length ∧ i = .int .i64 k ∧ Below w.heap.size w wr) (fun i _ => l.length - (intOf i).toNat)
  case atStart => exact ⟨0, Nat.zero_le _, rfl, Below.refl _ _⟩
  case round =>
    obtain ⟨k, hk, rfl, hb⟩ := hrel
    by_cases hlt : k < l.length
    · obtain ⟨g1, o1, rfl, q1⟩ := (HR.out.1.below hb) k hlt
      obtain ⟨g2, o2, rfl, q2⟩ := (HR.out.2.below hb) k hlt
      have i0 : (0 : Int) ≤ (k : Int) := by omega
      have i2 : (k : Int) < (l.length : Int) := by omega
      generalize l[k] = s at q1 q2
      go_wp2_with fail
      go_quiet (fail)
      go_wp2
      go_roundw
      case rel => exact ⟨k + 1, by omega, by go_num, by first | exact hb.drew | exact below_drewN' hb _ | exact hb⟩
      case measure => simp [intOf]; omega
    · have i2 : ¬ (k : Int) < (l.length : Int) := by omega
      go_wp2
      go_ret
      exact ⟨rfl, hb⟩

theorem ba_lawful : LawfulBEq ByteArray := by
  have hb : ∀ a b : ByteArray, (a == b) = true ↔ a = b := by
    intro a b
    cases a; cases b
    show ((_ : Array UInt8) == _) = true ↔ _
    simp
  exact { eq_of_beq := fun {a b} h => (hb a b).1 h, rfl := fun {a} => (hb a a).2 rfl }
theorem mem_c {l : List ByteArray} {s : ByteArray} : l.contains s = true ↔ s ∈ l := by
  haveI := ba_lawful
  exact List.contains_iff_mem
theorem not_mem_c {l : List ByteArray} {s : ByteArray} : l.contains s = false ↔ s ∉ l := by
  rw [← Bool.not_eq_true, mem_c]
theorem ix_lt {l : List ByteArray} {s : ByteArray} : l.idxOf s < l.length ↔ s ∈ l := by
  haveI := ba_lawful
  exact List.idxOf_lt_length_iff
theorem ix_get {l : List ByteArray} {s : ByteArray} (h : l.idxOf s < l.length) : l[l.idxOf s] = s := by
  haveI := ba_lawful
  exact List.getElem_idxOf h
theorem ix_app {l r : List ByteArray} {s : ByteArray} (h : s ∈ l) : (l ++ r).idxOf s = l.idxOf s := by
  haveI := ba_lawful
  rw [List.idxOf_append, if_pos h]
theorem ix_app_not {l r : List ByteArray} {s : ByteArray} (h : s ∉ l) : (l ++ r).idxOf s = r.idxOf s + l.length := by
  haveI := ba_lawful
  rw [List.idxOf_append, if_neg h]

/-- Where a text stands first; -1: nowhere. -/
def plc (l : List ByteArray) (s : ByteArray) : Int := if l.contains s then (l.idxOf s : Int) else -1
theorem plc_mem {l : List ByteArray} {s : ByteArray} (h : s ∈ l) : plc l s = (l.idxOf s : Int) := by unfold plc; rw [if_pos (mem_c.2 h)]
theorem plc_not {l : List ByteArray} {s : ByteArray} (h : s ∉ l) : plc l s = -1 := by unfold plc; rw [if_neg (fun h' => h (mem_c.1 h'))]

theorem idxOf_le (l : List ByteArray) (k : Nat) (hk : k < l.length) : l.idxOf l[k] ≤ k := by
  haveI := ba_lawful
  induction l generalizing k with
  | nil => exact absurd hk (Nat.not_lt_zero _)
  | cons x r ih =>
    rw [List.idxOf_cons]
    cases k with
    | zero => simp
    | succ k =>
      have := ih k (by simpa using hk)
      simp only [List.getElem_cons_succ]
      cases x == r[k]'(by simpa using hk) <;> simp
      omega

theorem idxOf_first (l : List ByteArray) (s : ByteArray) (k : Nat) (hk : k < l.length) (he : l[k] = s) (hn : ∀ j (h : j < l.length), j < k → l[j] ≠ s) : l.idxOf s = k := by
  have hm : s ∈ l := he ▸ List.getElem_mem hk
  have hlt := ix_lt.2 hm
  have hg := ix_get hlt
  rcases Nat.lt_trichotomy (l.idxOf s) k with h | h | h
  · exact absurd hg (hn _ hlt h)
  · exact h
  · have := idxOf_le l k hk
    rw [he] at this
    omega

set_option maxRecDepth 100000 in
set_option maxHeartbeats 1000000 in
theorem place_ref (v : Value) (l : List ByteArray) (s : ByteArray) (w : World) (h : StrS w v l) (hs : l.length ≤ 4194304) :
    Calls Tryd.prog 18 #[v, .string s] w fun e w' => e = .returned (.int .i64 (plc l s)) ∧ w' = w := by
  obtain ⟨ao, cap, rfl, hr⟩ := h
  have HR := hide hr
  clear hr
  go_enter Tryd.func18, Tryd.ntmps18
  go_wp2
  go_loopw [5] (fun i wr => ∃ k : Nat, k ≤ l.length ∧ i = .int .i64 k ∧ Hid (∀ j (h : j < l.length), j < k → l[j] ≠ s) ∧ wr = w) (fun i _ => l.length - (intOf i).toNat)
  case atStart => exact ⟨0, Nat.zero_le _, rfl, hide (fun j _ hj => absurd hj (Nat.not_lt_zero _)), rfl⟩
  case round =>
    obtain ⟨k, hk, rfl, hn, rfl⟩ := hrel
    by_cases hlt : k < l.length
    · obtain ⟨g, o, rfl, q1⟩ := HR.out k hlt
      have i0 : (0 : Int) ≤ (k : Int) := by omega
      have i2 : (k : Int) < (l.length : Int) := by omega
      obtain ⟨x, hx⟩ : ∃ x, x = l[k] := ⟨_, rfl⟩
      rw [← hx] at q1
      by_cases he : x = s
      · have e : plc l s = (k : Int) := by
          have h := idxOf_first l s k hlt (by rw [← hx, he]) hn.out
          rw [plc_mem (by rw [← he, hx]; exact List.getElem_mem hlt), h]
        have hbq : (x.toList == s.toList) = true := by rw [str_beq]; simp [he]
        have HE := hide e
        clear he hx hn e
        go_wp2
        go_ret
        exact ⟨by rw [HE.out]; rfl, rfl⟩
      · have hbq : (x.toList == s.toList) = false := by rw [str_beq]; simp [he]
        have HX := hide (And.intro hx he)
        clear he hx
        go_wp2
        go_roundw
        case rel => exact ⟨k + 1, by omega, by go_num, hide (fun j hj hjk => if e : j = k then by subst e; rw [← HX.out.1]; exact HX.out.2 else hn.out j hj (by omega)), trivial⟩
        case measure => simp [intOf]; omega
    · have i2 : ¬ (k : Int) < (l.length : Int) := by omega
      have e : plc l s = -1 := by
        refine plc_not ?_
        intro hm
        obtain ⟨j, hj, hjs⟩ := List.getElem_of_mem hm
        exact hn.out j hj (by omega) hjs
      have HE := hide e
      clear e
      go_wp2
      go_ret
      exact ⟨by rw [HE.out]; rfl, rfl⟩

theorem nodup_iff (l : List ByteArray) : l.Nodup ↔ ∀ k (hk : k < l.length), l.idxOf l[k] = k := by
  constructor
  · intro h k hk
    refine idxOf_first l _ k hk rfl (fun j hj hjk he => ?_)
    exact absurd ((List.getElem_inj h).1 he) (by omega)
  · intro h
    rw [List.nodup_iff_pairwise_ne, List.pairwise_iff_getElem]
    intro i j hi hj hij he
    have h1 := h i hi
    have h2 := h j hj
    rw [he] at h1
    omega

set_option maxRecDepth 100000 in
set_option maxHeartbeats 1000000 in
theorem once_any (v : Value) (l : List ByteArray) (w : World) (h : StrS w v l) (hs : l.length ≤ 4194304) :
    Calls Tryd.prog 45 #[v] w fun e w' => e = .returned (.int .i64 (if l.Nodup then 0 else 21)) ∧ w' = w := by
  have HS := hide h
  obtain ⟨ao, cap, rfl, hr⟩ := h
  have HR := hide hr
  clear hr
  go_enter Tryd.func45, Tryd.ntmps45
  go_wp2
  go_loopw [3] (fun i wr => ∃ k : Nat, k ≤ l.length ∧ i = .int .i64 k ∧ Hid (∀ j (h : j < l.length), j < k → l.idxOf l[j] = j) ∧ wr = w) (fun i _ => l.length - (intOf i).toNat)
  case atStart => exact ⟨0, Nat.zero_le _, rfl, hide (fun j _ hj => absurd hj (Nat.not_lt_zero _)), rfl⟩
  case round =>
    obtain ⟨k, hk, rfl, hn, rfl⟩ := hrel
    by_cases hlt : k < l.length
    · obtain ⟨g, o, rfl, q1⟩ := HR.out k hlt
      have i0 : (0 : Int) ≤ (k : Int) := by omega
      have i2 : (k : Int) < (l.length : Int) := by omega
      obtain ⟨x, hx⟩ : ∃ x, x = l[k] := ⟨_, rfl⟩
      have hp : plc l x = (l.idxOf x : Int) := plc_mem (by rw [hx]; exact List.getElem_mem hlt)
      rw [← hx] at q1
      by_cases he : l.idxOf x = k
      · have hp2 : plc l x = (k : Int) := by rw [hp, he]
        have HX := hide (And.intro hx he)
        clear he hx hp
        go_wp2_with (go_at_call 18; refine (place_ref _ l x _ HS.out hs).mono ?_; rintro e w' ⟨rfl, rfl⟩; rw [hp2])
        go_roundw
        case rel => exact ⟨k + 1, by omega, by go_num, hide (fun j hj hjk => if e : j = k then by subst e; rw [← HX.out.1]; exact HX.out.2 else hn.out j hj (by omega)), trivial⟩
        case measure => simp [intOf]; omega
      · have e : ¬ l.Nodup := fun h => he (by rw [hx]; exact (nodup_iff l).1 h k hlt)
        obtain ⟨m, hm⟩ : ∃ m, l.idxOf x = m := ⟨_, rfl⟩
        have hp2 : plc l x = (m : Int) := by rw [hp, hm]
        have hne : ((m : Int) != (k : Int)) = true := by rw [bne_iff_ne]; omega
        have HE := hide e
        clear he hx hp e hm
        go_wp2_with (go_at_call 18; refine (place_ref _ l x _ HS.out hs).mono ?_; rintro e w' ⟨rfl, rfl⟩; rw [hp2])
        go_ret
        exact ⟨by simp, rfl⟩
    · have i2 : ¬ (k : Int) < (l.length : Int) := by omega
      have e : l.Nodup := (nodup_iff l).2 fun j hj => hn.out j hj (by omega)
      have HE := hide e
      clear e
      go_wp2
      go_ret
      exact ⟨by simp, rfl⟩

end Go.Proofs.YtnfdifkcchciaaaDoor
