import Derived.Test.YtmagchclmmphaabGreatDoorBV
import Derived.Lib.Strings
import Derived.Laws.DeepStrings4
import Derived.Lib.BufferWrite
import Derived.Lib.UnsafeStr
import Derived.Laws.MakeOwn
namespace Go.Proofs.YtmagchclmmphaabGreatDoor
open Go.RowKit Go.Maps
attribute [local go_sem] Oper.semAt_some

/-- The longest runs of such bytes, as where they begin and end: i bytes have gone by, the run at hand began at a. -/
def spansFrom (h : Nat → Bool) : List Nat → Nat → Nat → List (Nat × Nat)
  | [], i, a => if a < i then [(a, i)] else []
  | b :: t, i, a => if h b then spansFrom h t (i + 1) a else (if a < i then [(a, i)] else []) ++ spansFrom h t (i + 1) (i + 1)
def spans (h : Nat → Bool) (s : ByteArray) : List (Nat × Nat) := spansFrom h (bts s) 0 0
def pieceV (s : ByteArray) (x : Nat × Nat) : Value := .string (s.extract x.1 x.2)

theorem isNoFeed_any (s : ByteArray) (w : World) : Calls Tryz.prog 80 #[.string s] w fun e w' => e = .returned (.bool (!decide (s = ⟨#[10]⟩))) ∧ Below w.heap.size w w' := by
  go_enter Tryz.func80, Tryz.ntmps80
  go_wp2
  go_ret
  refine ⟨?_, Below.refl _ _⟩
  have := str_beq s ⟨#[10]⟩
  have e : (⟨#[10]⟩ : ByteArray).toList = [10] := by rw [ByteArray.toList_eq]
  rw [e] at this
  show Ending.returned (Value.bool (!(s.toList == [10]))) = _
  rw [this]

theorem cut_any (s : ByteArray) (f : Nat) (w : World) :
    Calls Tryz.prog 79 #[.string s, .func (.func f) #[] #[]] w fun e w' => e = .returned (.func (.func 102) #[] #[.pointer (some ⟨w.heap.size, 0, none⟩), .pointer (some ⟨w.heap.size + 1, 0, none⟩)]) ∧ w' = (w.alloc (.cells #[.string s] 9)).alloc (.cells #[.func (.func f) #[] #[]] 56) := by
  go_enter Tryz.func79, Tryz.ntmps79
  go_wp2
  go_ret
  exact ⟨rfl, rfl⟩

/-- What a round keeps for the pieces' iterator: its two boxes, and the table of bytes. -/
structure KpC (bt bh : Nat) (W W' : World) : Prop where
  size : W.heap.size ≤ W'.heap.size
  t : W'.heap[bt]? = W.heap[bt]?
  h : W'.heap[bh]? = W.heap[bh]?
  tab : W'.heap[0]? = W.heap[0]?
theorem KpC.refl (bt bh : Nat) (W : World) : KpC bt bh W W := ⟨Nat.le_refl _, rfl, rfl, rfl⟩
theorem KpC.trans {bt bh : Nat} {A B C : World} (h : KpC bt bh A B) (k : KpC bt bh B C) : KpC bt bh A C := ⟨Nat.le_trans h.size k.size, k.t.trans h.t, k.h.trans h.h, k.tab.trans h.tab⟩
theorem KpC.below {bt bh : Nat} {W W' : World} (d : Below W.heap.size W W') (h1 : bt < W.heap.size) (h2 : bh < W.heap.size) (h3 : 1 < W.heap.size) : KpC bt bh W W' := ⟨d.size, d.block _ h1, d.block _ h2, d.block 0 (Nat.lt_of_succ_lt h3)⟩

/-- A test of one byte, as a function of the program. -/
def TestsB (f : Nat) (h : Nat → Bool) : Prop := ∀ (b : UInt8) (W : World), BytesAt W → 1 < W.heap.size → Calls Tryz.prog f #[.string ⟨#[b]⟩] W fun e w' => e = .returned (.bool (h b.toNat)) ∧ Below W.heap.size W w'

/-- What the iterator holds: how much it has handed on. -/
structure CutI (s : ByteArray) (h : Nat → Bool) (bt bh f : Nat) (W0 : World) (k a c : Nat) (wr : World) : Prop where
  kp : KpC bt bh W0 wr
  t : wr.heap[bt]? = some (.cells #[.string s] 9 (0, 0))
  hb : wr.heap[bh]? = some (.cells #[.func (.func f) #[] #[]] 56 (0, 0))
  tab : BytesAt wr
  pos : 1 < wr.heap.size
  cle : c ≤ (spans h s).length
  rest : k ≤ s.size → a ≤ k ∧ (spans h s).drop c = spansFrom h ((bts s).drop k) k a
  done : s.size < k → c = (spans h s).length
theorem BytesAt.same {w w' : World} (h : BytesAt w) (e : w'.heap[0]? = w.heap[0]?) : BytesAt w' := fun j hj => (World.cell?_of_block (a := ⟨0, j, none⟩) e).trans (h j hj)
theorem drop_head {α : Type} {l : List α} {c : Nat} {x : α} {r : List α} (h : l.drop c = x :: r) : ∃ hc : c < l.length, l[c] = x ∧ l.drop (c + 1) = r := by
  have hc : c < l.length := by
    rcases Nat.lt_or_ge c l.length with h1 | h1
    · exact h1
    · rw [List.drop_eq_nil_of_le h1] at h; cases h
  rw [List.drop_eq_getElem_cons hc] at h
  injection h with h2 h3
  exact ⟨hc, h2, h3⟩
theorem bts_drop (s : ByteArray) (k : Nat) (hk : k < s.size) : (bts s).drop k = s[k].toNat :: (bts s).drop (k + 1) := by
  rw [List.drop_eq_getElem_cons (by rw [bts_len]; exact hk), bts_get s k hk]
theorem one_byte (s : ByteArray) (k : Nat) (hk : k < s.size) : s.extract k (k + 1) = ⟨#[s[k]]⟩ := by
  have h1 : (s.extract k (k + 1)).data.toList = [s[k]] := by
    rw [Lib.extract_data, List.drop_eq_getElem_cons (by simpa using hk), show k + 1 - k = 1 by omega]
    simp [ByteArray.getElem_eq_getElem_data]
  have h2 : (s.extract k (k + 1)).data = #[s[k]] := by
    apply Array.toList_inj.1
    rw [h1]
  cases hx : s.extract k (k + 1) with
  | mk d => rw [hx] at h2; simp at h2; rw [h2]
theorem slice_any (s : ByteArray) (a b : Nat) (W : World) (hab : a ≤ b) (hb : b ≤ s.size) : (Instr.slice 9 (.string s) (some (.int .i64 (a : Int))) (some (.int .i64 (b : Int))) none).run Tryz.prog W = .ok (.string (s.extract a b)) W := by
  rw [run_slice_string_if _ _ _ _ _ _ _ Tryz.underlying9, if_pos ⟨by omega, by omega⟩, if_pos ⟨by omega, by omega⟩, Int.toNat_natCast, Int.toNat_natCast]
theorem round_any {m : Nat} (m' : Nat) {l : Nat} {f : FuncId} {tmps : Array Value} {assign body : Code} {w : World} {R : Ending → World → Prop}
    (h : RoundIn Fence.wide m Tryz.prog l f tmps assign body w R) : RoundIn Fence.wide m' Tryz.prog l f tmps assign body w R := ⟨h.1, fun c cs _ => h.2 c cs (room_wide _)⟩
section
variable {s : ByteArray} {h : Nat → Bool} {bt bh f : Nat} {W0 : World} {k a c : Nat} {wr wx : World}
theorem CutI.on (C : CutI s h bt bh f W0 k a c wr) (d : Below wr.heap.size wr wx) : CutI s h bt bh f W0 k a c wx := by
  have e1 := (Array.getElem?_eq_some_iff.1 C.t).1
  have e2 := (Array.getElem?_eq_some_iff.1 C.hb).1
  exact ⟨C.kp.trans (KpC.below d e1 e2 C.pos), (d.block _ e1).trans C.t, (d.block _ e2).trans C.hb, C.tab.below d C.pos, Nat.lt_of_lt_of_le C.pos d.size, C.cle, C.rest, C.done⟩
theorem CutI.round (C : CutI s h bt bh f W0 k a c wr) (d : KpC bt bh wr wx) : CutI s h bt bh f W0 k a c wx :=
  ⟨C.kp.trans d, d.t.trans C.t, d.h.trans C.hb, C.tab.same d.tab, Nat.lt_of_lt_of_le C.pos d.size, C.cle, C.rest, C.done⟩
theorem CutI.goes (C : CutI s h bt bh f W0 k a c wr) (hk : k < s.size) (hb : h s[k].toNat = true) : CutI s h bt bh f W0 (k + 1) a c wr := by
  obtain ⟨ha, hr⟩ := C.rest (by omega)
  refine ⟨C.kp, C.t, C.hb, C.tab, C.pos, C.cle, fun _ => ⟨by omega, ?_⟩, fun e => by omega⟩
  rw [hr, bts_drop s k hk, spansFrom, if_pos hb]
theorem CutI.none (C : CutI s h bt bh f W0 k a c wr) (hk : k < s.size) (hb : h s[k].toNat = false) (hak : ¬ a < k) : CutI s h bt bh f W0 (k + 1) (k + 1) c wr := by
  obtain ⟨ha, hr⟩ := C.rest (by omega)
  refine ⟨C.kp, C.t, C.hb, C.tab, C.pos, C.cle, fun _ => ⟨Nat.le_refl _, ?_⟩, fun e => by omega⟩
  rw [hr, bts_drop s k hk, spansFrom, if_neg (by simp [hb]), if_neg hak, List.nil_append]
theorem CutI.hand (C : CutI s h bt bh f W0 k a c wr) (hk : k < s.size) (hb : h s[k].toNat = false) (hak : a < k) : (∃ hc : c < (spans h s).length, (spans h s)[c] = (a, k)) ∧ ∀ wy, KpC bt bh wr wy → CutI s h bt bh f W0 (k + 1) (k + 1) (c + 1) wy := by
  obtain ⟨ha, hr⟩ := C.rest (by omega)
  rw [bts_drop s k hk, spansFrom, if_neg (by simp [hb]), if_pos hak, List.singleton_append] at hr
  obtain ⟨hc, h1, h2⟩ := drop_head hr
  refine ⟨⟨hc, h1⟩, fun wy d => ?_⟩
  have C2 := C.round d
  exact ⟨C2.kp, C2.t, C2.hb, C2.tab, C2.pos, hc, fun _ => ⟨Nat.le_refl _, h2⟩, fun e => by omega⟩
theorem CutI.last (C : CutI s h bt bh f W0 k a c wr) (hk : k = s.size) (hak : ¬ a < k) : CutI s h bt bh f W0 (k + 1) (k + 1) c wr := by
  obtain ⟨ha, hr⟩ := C.rest (by omega)
  refine ⟨C.kp, C.t, C.hb, C.tab, C.pos, C.cle, fun e => by omega, fun _ => ?_⟩
  have e : (bts s).drop k = [] := List.drop_eq_nil_of_le (by rw [bts_len]; omega)
  rw [e, spansFrom, if_neg hak] at hr
  have := congrArg List.length hr
  rw [List.length_drop, List.length_nil] at this
  have := C.cle
  omega
theorem CutI.handLast (C : CutI s h bt bh f W0 k a c wr) (hk : k = s.size) (hak : a < k) : (∃ hc : c < (spans h s).length, (spans h s)[c] = (a, k)) ∧ ∀ wy, KpC bt bh wr wy → CutI s h bt bh f W0 (k + 1) (k + 1) (c + 1) wy := by
  obtain ⟨ha, hr⟩ := C.rest (by omega)
  have e : (bts s).drop k = [] := List.drop_eq_nil_of_le (by rw [bts_len]; omega)
  rw [e, spansFrom, if_pos hak] at hr
  obtain ⟨hc, h1, h2⟩ := drop_head hr
  refine ⟨⟨hc, h1⟩, fun wy d => ?_⟩
  have C2 := C.round d
  have := congrArg List.length h2
  rw [List.length_drop, List.length_nil] at this
  exact ⟨C2.kp, C2.t, C2.hb, C2.tab, C2.pos, hc, fun e => by omega, fun _ => by omega⟩
end
theorem cutK {w0 w1 w2 : World} {a b : Addr} {x y : Value} (h : w1.cell? a = some x ∧ w1.cell? b = some y ∧ Below w0.heap.size w0 w1) (d : Below w1.heap.size w1 w2) : w2.cell? a = some x ∧ w2.cell? b = some y ∧ Below w0.heap.size w0 w2 :=
  ⟨(d.cell (World.block_lt_of_cell? _ _ h.1)).trans h.1, (d.cell (World.block_lt_of_cell? _ _ h.2.1)).trans h.2.1, h.2.2.trans (d.mono h.2.2.size)⟩
theorem cutS {w0 w1 : World} {a b : Addr} {x y : Option Value} (h : w1.cell? a = x ∧ w1.cell? b = y ∧ Below w0.heap.size w0 w1) : Below w0.heap.size w0 w1 := h.2.2

set_option maxRecDepth 100000 in
set_option maxHeartbeats 4000000 in
theorem cut_seq_feed (n : Nat) (h : Nat → Bool) (hf : TestsB 80 h) (s : ByteArray) (hs : s.size ≤ 134217728) (bt bh : Nat) (w : World) (ht : w.heap[bt]? = some (.cells #[.string s] 9 (0, 0))) (hh : w.heap[bh]? = some (.cells #[.func (.func 80) #[] #[]] 56 (0, 0))) (hT : BytesAt w) (h1 : 1 < w.heap.size) :
    SeqP n 102 #[.pointer (some ⟨bt, 0, none⟩), .pointer (some ⟨bh, 0, none⟩)] ((spans h s).map (pieceV s)) (KpC bt bh) w := by
  intro l J W hW hJ hY h0
  have hbt := (Array.getElem?_eq_some_iff.1 ht).1
  have hbh := (Array.getElem?_eq_some_iff.1 hh).1
  have C0 : CutI s h bt bh 80 W 0 0 0 W := ⟨KpC.refl _ _ _, (hW.block _ hbt).trans ht, (hW.block _ hbh).trans hh, hT.below hW h1, Nat.lt_of_lt_of_le h1 hW.size, Nat.zero_le _, fun _ => ⟨Nat.le_refl _, rfl⟩, fun e => by omega⟩
  have c0 : W.cell? ⟨bt, 0, none⟩ = some (.string s) := cell_of C0.t rfl
  have HC0 := hide C0
  have HJ0 := hide h0
  have HY := hide hY
  have HJ := hide hJ
  have HF := hide hf
  clear hW hbt hbh C0 ht hh hT h1 h0 hY hJ hf
  refine callsIn_of_wp Tryz.func102 rfl trivial ?_ rfl
  simp only [Tryz.ntmps102, List.size_toArray, List.length_cons, List.length_nil, Nat.reduceAdd, Nat.reduceSub, Array.replicate_succ, Array.replicate_zero, List.push_toArray, List.append_toArray, List.nil_append, List.cons_append]
  gi_wp2
  gi_loopw [4, 9] (fun st i wr => ∃ k a c : Nat, k ≤ s.size + 1 ∧ st = .int .i64 a ∧ i = .int .i64 k ∧ Hid (CutI s h bt bh 80 W k a c wr) ∧ Hid (J c wr)) (fun _ i _ => s.size + 1 - (intOf i).toNat)
  case atStart => exact ⟨0, 0, 0, Nat.zero_le _, rfl, rfl, HC0, HJ0⟩
  case round =>
    obtain ⟨k, a, c, hk, rfl, rfl, C, HJc⟩ := hrel
    clear HC0 HJ0 c0
    have c1 : wr.cell? ⟨bt, 0, none⟩ = some (.string s) := cell_of C.out.t rfl
    have c2 : wr.cell? ⟨bh, 0, none⟩ = some (.func (.func 80) #[] #[]) := cell_of C.out.hb rfl
    by_cases hlt : k < s.size
    · have k0 : (k : Int) < (s.size : Int) + 1 := by omega
      have k1 : (k : Int) < (s.size : Int) := by omega
      have k2 : (0 : Int) ≤ (k : Int) := by omega
      have hsl : ∀ W', (Instr.slice 9 (.string s) (some (.int .i64 k)) (some (.int .i64 ((k : Int) + 1))) none).run Tryz.prog W' = .ok (.string ⟨#[s[k]]⟩) W' := fun W' => by
        have := slice_any s k (k + 1) W' (by omega) (by omega)
        rw [one_byte s k hlt] at this
        exact this
      have hsl2 : a ≤ k → ∀ W', (Instr.slice 9 (.string s) (some (.int .i64 a)) (some (.int .i64 k)) none).run Tryz.prog W' = .ok (.string (s.extract a k)) W' := fun ha W' => slice_any s a k W' ha (by omega)
      have HSL := hide hsl2
      clear hsl2
      have hwr : IntKind.i64.wrap ((k : Int) + 1) = (k : Int) + 1 := by rw [IntKind.wrap_i64]; omega
      have cc := HF.out s[k]
      have CG := C.out.goes hlt
      have CN := C.out.none hlt
      have CH := C.out.hand hlt
      generalize hbk : s[k] = b at *
      obtain ⟨v, hv⟩ : ∃ v, h b.toNat = v := ⟨_, rfl⟩
      rw [hv] at cc CG CN CH
      have HCG := hide (And.intro CG (And.intro CN CH))
      clear CG CN CH hv hbk
      gi_wp2
      refine wpIn_wide.2 ?_
      go_region_held3 (fun w' => w'.cell? ⟨bt, 0, none⟩ = some (.string s) ∧ w'.cell? ⟨bh, 0, none⟩ = some (.func (.func 80) #[] #[]) ∧ Below wr.heap.size wr w')
        (first | exact ⟨c1, c2, (Below.refl _ _).drew⟩ | exact cutK (by assumption) hbX | go_keep)
        ((go_at_call 80; refine (cc _ (by exact C.out.tab.below (cutS (by assumption)) C.out.pos) (by exact Nat.lt_of_lt_of_le C.out.pos (cutS (by assumption)).size)).mono ?_; rintro e wX ⟨rfl, hbX⟩))
      rename_i hS
      have HD := hide hS.2.2
      have c1 := hS.1
      have HJX := hide (HJ.out c _ _ HJc.out HD.out)
      clear hS hbX cc hsl c2
      cases v with
      | true =>
        have CX := hide ((HCG.out.1 rfl).on HD.out)
        gi_wp2
        go_roundw
        case rel => exact ⟨k + 1, a, c, by omega, rfl, by go_num, CX, HJX⟩
        case measure => simp [intOf]; omega
      | false =>
        by_cases hak : a < k
        · have hai : (a : Int) < (k : Int) := by omega
          have hsl2 := HSL.out (by omega)
          obtain ⟨⟨hc, he⟩, hcy⟩ := HCG.out.2.2 rfl hak
          have hcE : c < ((spans h s).map (pieceV s)).length := by rw [List.length_map]; exact hc
          obtain ⟨fn, tmps, assign, body, hyy, hR⟩ := HY.out c wX hcE HJX.out
          rw [List.getElem_map, he] at hyy
          dsimp only [pieceV] at hyy
          have HCY := hide hcy
          clear hcy he
          gi_wp2
          refine ⟨(fun h => by cases h), (round_any _ hR).mono ?_⟩
          rintro e W3 ⟨rfl, hJ3, hk3⟩
          have CX := hide (HCY.out W3 ((KpC.below HD.out (Array.getElem?_eq_some_iff.1 C.out.t).1 (Array.getElem?_eq_some_iff.1 C.out.hb).1 C.out.pos).trans hk3))
          have HJ3 := hide hJ3
          clear hJ3 hk3
          gi_wp2
          go_roundw
          case rel => exact ⟨k + 1, k + 1, c + 1, by omega, by go_num, by go_num, CX, HJ3⟩
          case measure => simp [intOf]; omega
        · have hai : ¬ (a : Int) < (k : Int) := by omega
          have CX := hide ((HCG.out.2.1 rfl hak).on HD.out)
          gi_wp2
          refine ⟨fun f hf => (by cases hf), ?_⟩
          gi_wp2
          go_roundw
          case rel => exact ⟨k + 1, k + 1, c, by omega, by go_num, by go_num, CX, HJX⟩
          case measure => simp [intOf]; omega
    · by_cases hke : k = s.size
      · have k0 : (k : Int) < (s.size : Int) + 1 := by omega
        have k1 : ¬ (k : Int) < (s.size : Int) := by omega
        have k2 : decide ((k : Int) < (s.size : Int)) = false := decide_eq_false k1
        have k3 : decide (k < s.size) = false := decide_eq_false hlt
        by_cases hak : a < k
        · have hai : (a : Int) < (k : Int) := by omega
          have hsl2 : ∀ W', (Instr.slice 9 (.string s) (some (.int .i64 a)) (some (.int .i64 k)) none).run Tryz.prog W' = .ok (.string (s.extract a k)) W' := fun W' => slice_any s a k W' (by omega) (by omega)
          have HKE := hide hke
          clear hke hlt
          gi_wp2
          refine wpIn_wide.2 ?_
          go_quiet (fail)
          have HD : Hid (Below wr.heap.size wr (wr.drewN nq)) := ⟨rfl, rfl, rfl, Nat.le_refl _, fun _ _ => rfl⟩
          have HJX := hide (HJ.out c _ _ HJc.out HD.out)
          obtain ⟨⟨hc, he⟩, hcy⟩ := C.out.handLast HKE.out hak
          have hcE : c < ((spans h s).map (pieceV s)).length := by rw [List.length_map]; exact hc
          obtain ⟨fn, tmps, assign, body, hyy, hR⟩ := HY.out c _ hcE HJX.out
          rw [List.getElem_map, he] at hyy
          dsimp only [pieceV] at hyy
          have HCY := hide hcy
          clear hcy he
          gi_wp2
          refine ⟨(fun h => by cases h), (round_any _ hR).mono ?_⟩
          rintro e W3 ⟨rfl, hJ3, hk3⟩
          have CX := hide (HCY.out W3 ((KpC.below HD.out (Array.getElem?_eq_some_iff.1 C.out.t).1 (Array.getElem?_eq_some_iff.1 C.out.hb).1 C.out.pos).trans hk3))
          have HJ3 := hide hJ3
          clear hJ3 hk3
          gi_wp2
          go_roundw
          case rel => exact ⟨k + 1, k + 1, c + 1, by have := HKE.out; omega, by go_num, by go_num, CX, HJ3⟩
          case measure => have := HKE.out; simp [intOf]; omega
        · have hai : ¬ (a : Int) < (k : Int) := by omega
          have HKE := hide hke
          clear hke hlt
          gi_wp2
          refine wpIn_wide.2 ?_
          go_quiet (fail)
          have HD : Hid (Below wr.heap.size wr (wr.drewN nq)) := ⟨rfl, rfl, rfl, Nat.le_refl _, fun _ _ => rfl⟩
          have HJX := hide (HJ.out c _ _ HJc.out HD.out)
          have CX := hide ((C.out.last HKE.out hak).on HD.out)
          gi_wp2
          refine ⟨fun f hf => (by cases hf), ?_⟩
          gi_wp2
          go_roundw
          case rel => exact ⟨k + 1, k + 1, c, by have := HKE.out; omega, by go_num, by go_num, CX, HJX⟩
          case measure => have := HKE.out; simp [intOf]; omega
      · have k0 : ¬ (k : Int) < (s.size : Int) + 1 := by omega
        have hce := C.out.done (by omega)
        gi_wp2
        go_end0
        exact ⟨⟨_, rfl⟩, by first | (rw [List.length_map, ← hce]; exact HJc.out) | (rw [← hce]; exact HJc.out)⟩

set_option maxRecDepth 100000 in
set_option maxHeartbeats 4000000 in
theorem cut_seq_name (n : Nat) (h : Nat → Bool) (hf : TestsB 31 h) (s : ByteArray) (hs : s.size ≤ 134217728) (bt bh : Nat) (w : World) (ht : w.heap[bt]? = some (.cells #[.string s] 9 (0, 0))) (hh : w.heap[bh]? = some (.cells #[.func (.func 31) #[] #[]] 56 (0, 0))) (hT : BytesAt w) (h1 : 1 < w.heap.size) :
    SeqP n 102 #[.pointer (some ⟨bt, 0, none⟩), .pointer (some ⟨bh, 0, none⟩)] ((spans h s).map (pieceV s)) (KpC bt bh) w := by
  intro l J W hW hJ hY h0
  have hbt := (Array.getElem?_eq_some_iff.1 ht).1
  have hbh := (Array.getElem?_eq_some_iff.1 hh).1
  have C0 : CutI s h bt bh 31 W 0 0 0 W := ⟨KpC.refl _ _ _, (hW.block _ hbt).trans ht, (hW.block _ hbh).trans hh, hT.below hW h1, Nat.lt_of_lt_of_le h1 hW.size, Nat.zero_le _, fun _ => ⟨Nat.le_refl _, rfl⟩, fun e => by omega⟩
  have c0 : W.cell? ⟨bt, 0, none⟩ = some (.string s) := cell_of C0.t rfl
  have HC0 := hide C0
  have HJ0 := hide h0
  have HY := hide hY
  have HJ := hide hJ
  have HF := hide hf
  clear hW hbt hbh C0 ht hh hT h1 h0 hY hJ hf
  refine callsIn_of_wp Tryz.func102 rfl trivial ?_ rfl
  simp only [Tryz.ntmps102, List.size_toArray, List.length_cons, List.length_nil, Nat.reduceAdd, Nat.reduceSub, Array.replicate_succ, Array.replicate_zero, List.push_toArray, List.append_toArray, List.nil_append, List.cons_append]
  gi_wp2
  gi_loopw [4, 9] (fun st i wr => ∃ k a c : Nat, k ≤ s.size + 1 ∧ st = .int .i64 a ∧ i = .int .i64 k ∧ Hid (CutI s h bt bh 31 W k a c wr) ∧ Hid (J c wr)) (fun _ i _ => s.size + 1 - (intOf i).toNat)
  case atStart => exact ⟨0, 0, 0, Nat.zero_le _, rfl, rfl, HC0, HJ0⟩
  case round =>
    obtain ⟨k, a, c, hk, rfl, rfl, C, HJc⟩ := hrel
    clear HC0 HJ0 c0
    have c1 : wr.cell? ⟨bt, 0, none⟩ = some (.string s) := cell_of C.out.t rfl
    have c2 : wr.cell? ⟨bh, 0, none⟩ = some (.func (.func 31) #[] #[]) := cell_of C.out.hb rfl
    by_cases hlt : k < s.size
    · have k0 : (k : Int) < (s.size : Int) + 1 := by omega
      have k1 : (k : Int) < (s.size : Int) := by omega
      have k2 : (0 : Int) ≤ (k : Int) := by omega
      have hsl : ∀ W', (Instr.slice 9 (.string s) (some (.int .i64 k)) (some (.int .i64 ((k : Int) + 1))) none).run Tryz.prog W' = .ok (.string ⟨#[s[k]]⟩) W' := fun W' => by
        have := slice_any s k (k + 1) W' (by omega) (by omega)
        rw [one_byte s k hlt] at this
        exact this
      have hsl2 : a ≤ k → ∀ W', (Instr.slice 9 (.string s) (some (.int .i64 a)) (some (.int .i64 k)) none).run Tryz.prog W' = .ok (.string (s.extract a k)) W' := fun ha W' => slice_any s a k W' ha (by omega)
      have HSL := hide hsl2
      clear hsl2
      have hwr : IntKind.i64.wrap ((k : Int) + 1) = (k : Int) + 1 := by rw [IntKind.wrap_i64]; omega
      have cc := HF.out s[k]
      have CG := C.out.goes hlt
      have CN := C.out.none hlt
      have CH := C.out.hand hlt
      generalize hbk : s[k] = b at *
      obtain ⟨v, hv⟩ : ∃ v, h b.toNat = v := ⟨_, rfl⟩
      rw [hv] at cc CG CN CH
      have HCG := hide (And.intro CG (And.intro CN CH))
      clear CG CN CH hv hbk
      gi_wp2
      refine wpIn_wide.2 ?_
      go_region_held3 (fun w' => w'.cell? ⟨bt, 0, none⟩ = some (.string s) ∧ w'.cell? ⟨bh, 0, none⟩ = some (.func (.func 31) #[] #[]) ∧ Below wr.heap.size wr w')
        (first | exact ⟨c1, c2, (Below.refl _ _).drew⟩ | exact cutK (by assumption) hbX | go_keep)
        ((go_at_call 31; refine (cc _ (by exact C.out.tab.below (cutS (by assumption)) C.out.pos) (by exact Nat.lt_of_lt_of_le C.out.pos (cutS (by assumption)).size)).mono ?_; rintro e wX ⟨rfl, hbX⟩))
      rename_i hS
      have HD := hide hS.2.2
      have c1 := hS.1
      have HJX := hide (HJ.out c _ _ HJc.out HD.out)
      clear hS hbX cc hsl c2
      cases v with
      | true =>
        have CX := hide ((HCG.out.1 rfl).on HD.out)
        gi_wp2
        go_roundw
        case rel => exact ⟨k + 1, a, c, by omega, rfl, by go_num, CX, HJX⟩
        case measure => simp [intOf]; omega
      | false =>
        by_cases hak : a < k
        · have hai : (a : Int) < (k : Int) := by omega
          have hsl2 := HSL.out (by omega)
          obtain ⟨⟨hc, he⟩, hcy⟩ := HCG.out.2.2 rfl hak
          have hcE : c < ((spans h s).map (pieceV s)).length := by rw [List.length_map]; exact hc
          obtain ⟨fn, tmps, assign, body, hyy, hR⟩ := HY.out c wX hcE HJX.out
          rw [List.getElem_map, he] at hyy
          dsimp only [pieceV] at hyy
          have HCY := hide hcy
          clear hcy he
          gi_wp2
          refine ⟨(fun h => by cases h), (round_any _ hR).mono ?_⟩
          rintro e W3 ⟨rfl, hJ3, hk3⟩
          have CX := hide (HCY.out W3 ((KpC.below HD.out (Array.getElem?_eq_some_iff.1 C.out.t).1 (Array.getElem?_eq_some_iff.1 C.out.hb).1 C.out.pos).trans hk3))
          have HJ3 := hide hJ3
          clear hJ3 hk3
          gi_wp2
          go_roundw
          case rel => exact ⟨k + 1, k + 1, c + 1, by omega, by go_num, by go_num, CX, HJ3⟩
          case measure => simp [intOf]; omega
        · have hai : ¬ (a : Int) < (k : Int) := by omega
          have CX := hide ((HCG.out.2.1 rfl hak).on HD.out)
          gi_wp2
          refine ⟨fun f hf => (by cases hf), ?_⟩
          gi_wp2
          go_roundw
          case rel => exact ⟨k + 1, k + 1, c, by omega, by go_num, by go_num, CX, HJX⟩
          case measure => simp [intOf]; omega
    · by_cases hke : k = s.size
      · have k0 : (k : Int) < (s.size : Int) + 1 := by omega
        have k1 : ¬ (k : Int) < (s.size : Int) := by omega
        have k2 : decide ((k : Int) < (s.size : Int)) = false := decide_eq_false k1
        have k3 : decide (k < s.size) = false := decide_eq_false hlt
        by_cases hak : a < k
        · have hai : (a : Int) < (k : Int) := by omega
          have hsl2 : ∀ W', (Instr.slice 9 (.string s) (some (.int .i64 a)) (some (.int .i64 k)) none).run Tryz.prog W' = .ok (.string (s.extract a k)) W' := fun W' => slice_any s a k W' (by omega) (by omega)
          have HKE := hide hke
          clear hke hlt
          gi_wp2
          refine wpIn_wide.2 ?_
          go_quiet (fail)
          have HD : Hid (Below wr.heap.size wr (wr.drewN nq)) := ⟨rfl, rfl, rfl, Nat.le_refl _, fun _ _ => rfl⟩
          have HJX := hide (HJ.out c _ _ HJc.out HD.out)
          obtain ⟨⟨hc, he⟩, hcy⟩ := C.out.handLast HKE.out hak
          have hcE : c < ((spans h s).map (pieceV s)).length := by rw [List.length_map]; exact hc
          obtain ⟨fn, tmps, assign, body, hyy, hR⟩ := HY.out c _ hcE HJX.out
          rw [List.getElem_map, he] at hyy
          dsimp only [pieceV] at hyy
          have HCY := hide hcy
          clear hcy he
          gi_wp2
          refine ⟨(fun h => by cases h), (round_any _ hR).mono ?_⟩
          rintro e W3 ⟨rfl, hJ3, hk3⟩
          have CX := hide (HCY.out W3 ((KpC.below HD.out (Array.getElem?_eq_some_iff.1 C.out.t).1 (Array.getElem?_eq_some_iff.1 C.out.hb).1 C.out.pos).trans hk3))
          have HJ3 := hide hJ3
          clear hJ3 hk3
          gi_wp2
          go_roundw
          case rel => exact ⟨k + 1, k + 1, c + 1, by have := HKE.out; omega, by go_num, by go_num, CX, HJ3⟩
          case measure => have := HKE.out; simp [intOf]; omega
        · have hai : ¬ (a : Int) < (k : Int) := by omega
          have HKE := hide hke
          clear hke hlt
          gi_wp2
          refine wpIn_wide.2 ?_
          go_quiet (fail)
          have HD : Hid (Below wr.heap.size wr (wr.drewN nq)) := ⟨rfl, rfl, rfl, Nat.le_refl _, fun _ _ => rfl⟩
          have HJX := hide (HJ.out c _ _ HJc.out HD.out)
          have CX := hide ((C.out.last HKE.out hak).on HD.out)
          gi_wp2
          refine ⟨fun f hf => (by cases hf), ?_⟩
          gi_wp2
          go_roundw
          case rel => exact ⟨k + 1, k + 1, c, by have := HKE.out; omega, by go_num, by go_num, CX, HJX⟩
          case measure => have := HKE.out; simp [intOf]; omega
      · have k0 : ¬ (k : Int) < (s.size : Int) + 1 := by omega
        have hce := C.out.done (by omega)
        gi_wp2
        go_end0
        exact ⟨⟨_, rfl⟩, by first | (rw [List.length_map, ← hce]; exact HJc.out) | (rw [← hce]; exact HJc.out)⟩
end Go.Proofs.YtmagchclmmphaabGreatDoor
namespace Go.Proofs.YtmagchclmmphaabGreatDoor
open Go.RowKit Go.Maps

theorem info5 : (Tryz.prog.info? 5).map (fun i => (i.zero, i.size, i.bytes)) = some (some (.int .u8 0), 1, 1) := by kernel_rfl

set_option maxRecDepth 100000 in
set_option maxHeartbeats 1000000 in
/-- A fresh copy of a text that is not empty. -/
theorem copy_lite (s : ByteArray) (w : World) (h0 : s.size ≠ 0) (hlim : s.size ≤ 134217728) :
    Calls Tryz.prog 136 #[.string s] w fun e w' => e = .returned (.string s) ∧ Below w.heap.size w w' := by
  obtain ⟨i0, hi, hz0, hz1, hz2⟩ := info_parts info5
  have hinfo : (Tryz.prog.info? 5).map (·.size) = some 1 := by rw [hi]; simp [hz1]
  have hco : Tryz.prog.cellsOf 5 = 1 := by kernel_rfl
  obtain ⟨M, hM⟩ : ∃ M, M = madeCells (Value.int .u8 0).cells (((s.size : Nat) : Int).toNat * i0.size) := ⟨_, rfl⟩
  have hMs : M.size = s.size := by rw [hM, size_madeCells, hz1]; simp
  have hmk : ∀ W : World, (Instr.makeSlice 82 (.int .i64 (s.size : Int)) (.int .i64 (s.size : Int))).run Tryz.prog W = .ok (.slice (some ⟨W.heap.size, 0, none⟩) s.size s.size) (W.alloc (.cells M 5)) := fun W => by
    have h := run_make (P := Tryz.prog) W 82 5 i0 (.int .u8 0) Tryz.underlying82 hi hz0 .i64 .i64 (s.size : Int) (s.size : Int) (by omega) (by omega) (by rw [hz2]; omega) (by omega)
    rw [← hM] at h
    simpa using h
  have hcp := Lib.run_copy_row_string (P := Tryz.prog) (w.alloc (.cells M 5)) 82 9 3 5 w.heap.size 0 s.size s.size s M 5 Tryz.underlying82 hinfo (heap_alloc_new w _) (Nat.le_refl _) (by omega)
  obtain ⟨Y, hY⟩ : ∃ Y, Y = (M.toList.take 0 ++ Lib.byteCells s.data.toList ++ M.toList.drop (0 + s.size)).toArray := ⟨_, rfl⟩
  rw [← hY] at hcp
  have hYl : Y.toList = Lib.byteCells s.data.toList := by
    rw [hY, List.toList_toArray, List.take_zero, List.nil_append, List.drop_of_length_le (by rw [Array.length_toList]; omega), List.append_nil]
  have hgY : ((w.alloc (.cells M 5)).setRow w.heap.size Y).heap[w.heap.size]? = some (.cells Y 5 (0, 0)) := setRow_heap _ _ M _ 5 (0, 0) (heap_alloc_new w _)
  have hne : s.data.toList ≠ [] := fun e => h0 (by rw [Lib.size_eq, e]; rfl)
  have hYs : Y.size = s.size := by rw [← Array.length_toList, hYl, Lib.byteCells_length, ← Lib.size_eq]
  have hUS := Lib.run_unsafeString_row (P := Tryz.prog) ((w.alloc (.cells M 5)).setRow w.heap.size Y) 141 3 9 5 Tryz.underlying141 hco w.heap.size Y.size (by unfold World.shape?; rw [hgY]) s.data.toList hne (by rw [← Lib.size_eq]; omega) (by rw [← Lib.size_eq]; omega)
    (fun j x hx => Lib.cells_of_row hgY Y.size j _ (by rw [List.take_of_length_le (by rw [Array.length_toList]; exact Nat.le_refl _), hYl]; simp [Lib.byteCells, hx]))
  rw [← Lib.size_eq] at hUS
  have hb1 : Below w.heap.size w (w.alloc (.cells M 5)) := (Below.refl _ w).alloc (Nat.le_refl _) _
  have hb2 : Below w.heap.size (w.alloc (.cells M 5)) ((w.alloc (.cells M 5)).setRow w.heap.size Y) := ⟨rfl, rfl, rfl, by simp, fun k hk => setRow_other _ _ _ _ (by omega)⟩
  have HB := hide (Lib.below_freeze (hb1.trans hb2) (p := ⟨w.heap.size, 0, none⟩) (Nat.le_refl _) s.size)
  have hz : ((s.size : Int) == 0) = false := by rw [beq_eq_false_iff_ne]; omega
  have hps : (0 : Int) < (s.size : Int) := by omega
  have hps2 : 0 < s.size := by omega
  clear hY hb1 hb2 hYl hM hgY hne hYs hMs hi hz0 hz1 hz2 hinfo hco h0
  go_enter Tryz.func136, Tryz.ntmps136
  go_wp2
  go_ret
  exact ⟨rfl, HB.out⟩

set_option maxRecDepth 100000 in
set_option maxHeartbeats 1000000 in
theorem copy_str (s : ByteArray) (w : World) (h0 : s.size ≠ 0) (hlim : s.size ≤ 134217728) :
    Calls Tryz.prog 106 #[.string s] w fun e w' => e = .returned (.string s) ∧ Below w.heap.size w w' := by
  go_enter Tryz.func106, Tryz.ntmps106
  go_wp2_with fail
  refine (copy_lite s _ h0 hlim).mono ?_
  rintro e w1 ⟨rfl, d⟩
  go_wp2
  go_ret
  exact ⟨rfl, d⟩

end Go.Proofs.YtmagchclmmphaabGreatDoor
namespace Go.Proofs.YtmagchclmmphaabGreatDoor
open Go.RowKit Go.Maps

/-- An arity's sign. -/
def digB (n : Nat) : ByteArray := ⟨#[UInt8.ofNat (48 + n)]⟩
set_option maxRecDepth 100000 in
set_option maxHeartbeats 1000000 in
theorem small_zero (w : World) : Calls Tryz.prog 145 #[.int .i64 0] w fun e w' => e = .returned (.string (digB 0)) ∧ w' = w := by
  go_enter Tryz.func145, Tryz.ntmps145
  go_wp2
  go_ret
  exact ⟨by simp; decide, rfl⟩
set_option maxRecDepth 100000 in
set_option maxHeartbeats 1000000 in
theorem small_one (w : World) : Calls Tryz.prog 145 #[.int .i64 1] w fun e w' => e = .returned (.string (digB 1)) ∧ w' = w := by
  go_enter Tryz.func145, Tryz.ntmps145
  go_wp2
  go_ret
  exact ⟨by simp; decide, rfl⟩
set_option maxRecDepth 100000 in
set_option maxHeartbeats 1000000 in
theorem fmt_any (n : Nat) (hn : n ≤ 1) (w : World) : Calls Tryz.prog 128 #[.int .i64 (n : Nat), .int .i64 10] w fun e w' => e = .returned (.string (digB n)) ∧ w' = w := by
  have i1 : (0 : Int) ≤ (n : Int) := by omega
  have i2 : (n : Int) < 100 := by omega
  have hsm : Calls Tryz.prog 145 #[.int .i64 (n : Nat)] w fun e w' => e = .returned (.string (digB n)) ∧ w' = w := by
    match n, hn with
    | 0, _ => exact small_zero w
    | 1, _ => exact small_one w
  go_enter Tryz.func128, Tryz.ntmps128
  go_wp2_with (go_at_call 145; refine hsm.mono ?_; rintro e w' ⟨rfl, hw⟩; obtain rfl := hw.symm)
  go_ret
  exact ⟨rfl, rfl⟩
set_option maxRecDepth 100000 in
set_option maxHeartbeats 1000000 in
theorem itoa_any (n : Nat) (hn : n ≤ 1) (w : World) : Calls Tryz.prog 74 #[.int .i64 (n : Nat)] w fun e w' => e = .returned (.string (digB n)) ∧ w' = w := by
  have h53 : Calls Tryz.prog 100 #[.int .i64 (n : Nat)] w fun e w' => e = .returned (.string (digB n)) ∧ w' = w := by
    go_enter Tryz.func100, Tryz.ntmps100
    go_wp2_with (go_at_call 128; refine (fmt_any n hn _).mono ?_; rintro e w' ⟨rfl, hw⟩; obtain rfl := hw.symm)
    go_ret
    exact ⟨rfl, rfl⟩
  go_enter Tryz.func74, Tryz.ntmps74
  go_wp2_with (go_at_call 100; refine h53.mono ?_; rintro e w' ⟨rfl, hw⟩; obtain rfl := hw.symm)
  go_ret
  exact ⟨rfl, rfl⟩
end Go.Proofs.YtmagchclmmphaabGreatDoor
