import Derived.Test.YtmagchclmmphaabGreatDoorBW
import Derived.Test.YtmagchclmmphaabGreatDoorCL
import Derived.Test.YtmagchclmmphaabGreatDoorVL
import Derived.Laws.Concat
import Derived.Deep.RegionHeld3
namespace Go.Proofs.YtmagchclmmphaabGreatDoor
open Go.RowKit Go.Maps
attribute [local go_sem] Oper.semAt_some

def bl : ByteArray := ⟨#[32]⟩
/-- Names, a blank ahead of each. -/
def namesT (l : List ByteArray) : ByteArray := l.foldl (fun t s => t ++ (bl ++ s)) ⟨#[]⟩
def onT (t : ByteArray) (l : List ByteArray) : ByteArray := l.foldl (fun t s => t ++ (bl ++ s)) t
theorem onT_next {t : ByteArray} {l : List ByteArray} {k : Nat} (h : k < l.length) : onT t (l.take (k + 1)) = onT t (l.take k) ++ (bl ++ l[k]) := by
  unfold onT
  rw [List.take_succ_eq_append_getElem h, List.foldl_append]; rfl
theorem bl_size (s : ByteArray) : (bl ++ s).size = 1 + s.size := by rw [ByteArray.size_append]; rfl
theorem onT_size (t : ByteArray) (l : List ByteArray) (m : Nat) (h : ∀ s ∈ l, s.size ≤ m) : (onT t l).size ≤ t.size + l.length * (m + 1) := by
  induction l generalizing t with
  | nil => simp [onT]
  | cons s l ih =>
    have h1 := ih (t ++ (bl ++ s)) (fun x hx => h x (by simp [hx]))
    have h2 := h s (by simp)
    rw [ByteArray.size_append, bl_size] at h1
    show (onT (t ++ (bl ++ s)) l).size ≤ _
    rw [List.length_cons, Nat.succ_mul]
    omega

set_option maxRecDepth 100000 in
set_option maxHeartbeats 2000000 in
theorem wnames_any (B b : Nat) (t : ByteArray) (ao : Option Addr) (cap : Nat) (l : List ByteArray) (w : World) (h : Hid (Bd B b t w)) (hB : Hid (B ≤ w.heap.size)) (hR : Hid (ReadsS w ao l)) (hl : l.length ≤ 4194304) (hs : Hid (t.size ≤ 1099511627776 ∧ ∀ s ∈ l, s.size ≤ 1048576)) (hlow : Hid (∀ g o, ao = some ⟨g, o, none⟩ → 0 < l.length → g < B)) :
    Calls Tryz.prog 75 #[.pointer (some ⟨b, 0, none⟩), .slice ao l.length cap] w fun e w' => e = .returned (.tuple #[]) ∧ Bd B b (onT t l) w' ∧ Below B w w' := by
  go_enter Tryz.func75, Tryz.ntmps75
  go_wp2_with fail
  go_loopw [8] (fun i wr => ∃ k : Nat, k ≤ l.length ∧ i = .int .i64 k ∧ Hid (Bd B b (onT t (l.take k)) wr) ∧ Hid (Below B w wr)) (fun i _ => l.length - (intOf i).toNat)
  case atStart => exact ⟨0, Nat.zero_le _, rfl, hide (by simpa [onT] using h.out), hide (Below.refl _ _)⟩
  case round =>
    obtain ⟨k, hk, rfl, HD, HB⟩ := hrel
    by_cases hlt : k < l.length
    · obtain ⟨g, o, rfl, q0⟩ := hR.out k hlt
      have hg := hlow.out g o rfl (by omega)
      have q1 := (HB.out.cell (p := ⟨g, o + k, none⟩) hg).trans q0
      have hsz := onT_size t (l.take k) 1048576 (fun s hs' => hs.out.2 s (List.mem_of_mem_take hs'))
      have hxs := hs.out.2 _ (List.getElem_mem hlt)
      have HN := hide (onT_next (t := t) hlt)
      have i2 : (k : Int) < (l.length : Int) := by omega
      have i3 : (0 : Int) ≤ (k : Int) := by omega
      obtain ⟨s, hsx⟩ : ∃ s, l[k] = s := ⟨_, rfl⟩
      rw [hsx] at q1 hxs HN
      have hle : (onT t (l.take k)).size + (⟨#[32]⟩ ++ s : ByteArray).size ≤ 140737488355328 := by
        have := bl_size s
        have h3 := hs.out.1
        rw [show (⟨#[32]⟩ ++ s : ByteArray).size = (bl ++ s).size from rfl, this]
        rw [List.length_take] at hsz
        have h4 : min k l.length * (1048576 + 1) ≤ 4194304 * (1048576 + 1) := Nat.mul_le_mul_right _ (by omega)
        omega
      have hcat : ¬ ((⟨#[32]⟩ : ByteArray).size + s.size > 9223372036854775807) := by have : (⟨#[32]⟩ : ByteArray).size = 1 := rfl; omega
      clear q0 hsx hsz hxs
      go_wp2_with fail
      refine (wstr_any B b (onT t (l.take k)) _ _ HD hle (hide (Nat.le_trans hB.out HB.out.size))).mono ?_
      rintro e w2 ⟨rfl, h2, d2, _⟩
      have HH := hide (And.intro h2 d2)
      clear hle hcat h2 d2
      go_wp2_with fail
      exact ⟨⟨k + 1, by omega, by go_num, hide (by rw [HN.out]; exact HH.out.1), hide (HB.out.trans HH.out.2)⟩, by simp [intOf]; omega⟩
    · obtain rfl : k = l.length := by omega
      have i2 : ¬ (l.length : Int) < (l.length : Int) := by omega
      go_wp2
      go_end0
      have := HD.out
      rw [List.take_length] at this
      exact ⟨rfl, this, HB.out⟩
end Go.Proofs.YtmagchclmmphaabGreatDoor
namespace Go.Proofs.YtmagchclmmphaabGreatDoor
open Go.RowKit Go.Maps
attribute [local go_sem] Oper.semAt_some

/-! ### The canonical text -/
def opT (x : OpT) : ByteArray := bl ++ x.1 ++ ⟨#[58]⟩ ++ digB x.2
def opsT (t : ByteArray) (O : List OpT) : ByteArray := O.foldl (fun t x => t ++ opT x) t
def ruT (r : RuT) : ByteArray := r.1 ++ ⟨#[40]⟩ ++ r.2.1 ++ ⟨#[41, 32, 45, 62, 32]⟩ ++ r.2.2 ++ ⟨#[10]⟩
def rulesT (t : ByteArray) (R : List RuT) : ByteArray := R.foldl (fun t x => t ++ ruT x) t
def w1T (O : List OpT) : ByteArray := opsT (⟨#[]⟩ ++ ⟨#[79, 112, 115]⟩) O
def w2T (ti : ByteArray) (O : List OpT) : ByteArray := w1T O ++ (⟨#[10, 65, 117, 116, 111, 109, 97, 116, 111, 110, 32]⟩ ++ ti ++ ⟨#[10, 83, 116, 97, 116, 101, 115]⟩)
def w3T (ti : ByteArray) (O : List OpT) (S : List ByteArray) : ByteArray := onT (w2T ti O) S ++ ⟨#[10, 70, 105, 110, 97, 108, 32, 83, 116, 97, 116, 101, 115]⟩
def w4T (ti : ByteArray) (O : List OpT) (S F : List ByteArray) : ByteArray := onT (w3T ti O S) F ++ ⟨#[10, 84, 114, 97, 110, 115, 105, 116, 105, 111, 110, 115, 10]⟩
def writeT (ti : ByteArray) (O : List OpT) (S F : List ByteArray) (R : List RuT) : ByteArray := rulesT (w4T ti O S F) R
theorem foldT_next {α : Type} (f : α → ByteArray) {t : ByteArray} {l : List α} {k : Nat} (h : k < l.length) : (l.take (k + 1)).foldl (fun t x => t ++ f x) t = (l.take k).foldl (fun t x => t ++ f x) t ++ f l[k] := by
  rw [List.take_succ_eq_append_getElem h, List.foldl_append]; rfl
theorem foldT_size {α : Type} (f : α → ByteArray) (t : ByteArray) (l : List α) (m : Nat) (h : ∀ s ∈ l, (f s).size ≤ m) : (l.foldl (fun t x => t ++ f x) t).size ≤ t.size + l.length * m := by
  induction l generalizing t with
  | nil => simp
  | cons s l ih =>
    have h1 := ih (t ++ f s) (fun x hx => h x (by simp [hx]))
    have h2 := h s (by simp)
    rw [ByteArray.size_append] at h1
    rw [List.foldl_cons, List.length_cons, Nat.succ_mul]
    omega
theorem opT_size (x : OpT) (h : x.1.size ≤ 16) : (opT x).size ≤ 19 := by
  unfold opT
  rw [ByteArray.size_append, ByteArray.size_append, bl_size]
  have h1 : (⟨#[58]⟩ : ByteArray).size = 1 := rfl
  have h2 : (digB x.2).size = 1 := rfl
  omega
/-- What may be written. -/
structure WOk (ti : ByteArray) (O : List OpT) (S F : List ByteArray) (R : List RuT) : Prop where
  ti : ti.size ≤ 16
  o : ∀ x ∈ O, x.1.size ≤ 16 ∧ x.2 ≤ 1
  s : ∀ x ∈ S, x.size ≤ 16
  f : ∀ x ∈ F, x.size ≤ 16
  r : ∀ x ∈ R, x.1.size ≤ 16 ∧ x.2.1.size ≤ 16 ∧ x.2.2.size ≤ 16
  lo : O.length ≤ 4194304
  ls : S.length ≤ 4194304
  lf : F.length ≤ 4194304
  lr : R.length ≤ 4194304
theorem ruT_size (x : RuT) (h : x.1.size ≤ 16 ∧ x.2.1.size ≤ 16 ∧ x.2.2.size ≤ 16) : (ruT x).size ≤ 55 := by
  unfold ruT
  simp only [ByteArray.size_append]
  have h1 : (⟨#[40]⟩ : ByteArray).size = 1 := rfl
  have h2 : (⟨#[41, 32, 45, 62, 32]⟩ : ByteArray).size = 5 := rfl
  have h3 : (⟨#[10]⟩ : ByteArray).size = 1 := rfl
  omega
theorem WOk.sz1 {ti : ByteArray} {O : List OpT} {S F : List ByteArray} {R : List RuT} (h : WOk ti O S F R) (k : Nat) : (opsT (⟨#[]⟩ ++ ⟨#[79, 112, 115]⟩) (O.take k)).size ≤ 100000000 := by
  have h1 := foldT_size opT (⟨#[]⟩ ++ ⟨#[79, 112, 115]⟩) (O.take k) 19 (fun s hs => opT_size s (h.o s (List.mem_of_mem_take hs)).1)
  have h2 : ((⟨#[]⟩ ++ ⟨#[79, 112, 115]⟩ : ByteArray)).size = 3 := by rw [ByteArray.size_append]; rfl
  have h3 : (O.take k).length ≤ 4194304 := by rw [List.length_take]; have := h.lo; omega
  unfold opsT
  omega
theorem WOk.sz2 {ti : ByteArray} {O : List OpT} {S F : List ByteArray} {R : List RuT} (h : WOk ti O S F R) : (w2T ti O).size ≤ 200000000 := by
  have h1 := h.sz1 O.length
  rw [List.take_length] at h1
  have h2 : (⟨#[10, 65, 117, 116, 111, 109, 97, 116, 111, 110, 32]⟩ : ByteArray).size = 11 := rfl
  have h3 : (⟨#[10, 83, 116, 97, 116, 101, 115]⟩ : ByteArray).size = 7 := rfl
  have := h.ti
  unfold w2T w1T
  simp only [ByteArray.size_append] at *
  omega
theorem WOk.sz3 {ti : ByteArray} {O : List OpT} {S F : List ByteArray} {R : List RuT} (h : WOk ti O S F R) : (onT (w2T ti O) S).size ≤ 300000000 := by
  have h1 := onT_size (w2T ti O) S 16 h.s
  have := h.sz2
  have := h.ls
  omega
theorem WOk.sz4 {ti : ByteArray} {O : List OpT} {S F : List ByteArray} {R : List RuT} (h : WOk ti O S F R) : (onT (w3T ti O S) F).size ≤ 500000000 := by
  have h1 := onT_size (w3T ti O S) F 16 h.f
  have h2 := h.sz3
  have h3 : (w3T ti O S).size = (onT (w2T ti O) S).size + 13 := by unfold w3T; rw [ByteArray.size_append]; rfl
  have := h.lf
  omega
theorem WOk.sz5 {ti : ByteArray} {O : List OpT} {S F : List ByteArray} {R : List RuT} (h : WOk ti O S F R) (k : Nat) : (rulesT (w4T ti O S F) (R.take k)).size ≤ 1000000000 := by
  have h1 := foldT_size ruT (w4T ti O S F) (R.take k) 55 (fun s hs => ruT_size s (h.r s (List.mem_of_mem_take hs)))
  have h2 := h.sz4
  have h3 : (w4T ti O S F).size = (onT (w3T ti O S) F).size + 13 := by unfold w4T; rw [ByteArray.size_append]; rfl
  have h4 : (R.take k).length ≤ 4194304 := by rw [List.length_take]; have := h.lr; omega
  unfold rulesT
  omega
theorem Bd.new {B b : Nat} {w : World} (hB : B ≤ b) (h : w.heap[b]? = some (.cells #[.pointer none, .slice none 0 0] 97 (0, 0))) : Bd B b ⟨#[]⟩ w :=
  .inl ⟨hB, .slice none 0 0, h, World.ownsRow_nil _ _ _ _, by simp [Value.ownBlock]⟩

theorem Bd.on {B b : Nat} {t : ByteArray} {w w' : World} (h : Bd B b t w) (d : Below w.heap.size w w') : Bd B b t w' := by
  have one : ∀ p, Lib.BuilderAt 97 5 B b p (Lib.strCells t) w → Lib.BuilderAt 97 5 B b p (Lib.strCells t) w' := fun p ⟨h1, v, h2, h3, h4⟩ => ⟨h1, v, (d.block b (Array.getElem?_eq_some_iff.1 h2).1).trans h2, owns_below h3 d, h4⟩
  exact h.imp (one _) (one _)
theorem Bx5.lo {W W' : World} {X B : Nat} {v0 v1 v2 v3 v4 : Value} (h : Bx5 W X v0 v1 v2 v3 v4) (hX : X < B) (d : Below B W W') : Bx5 W' X v0 v1 v2 v3 v4 :=
  ⟨(d.cell (p := ⟨X, 0, none⟩) hX).trans h.1, (d.cell (p := ⟨X, 1, none⟩) hX).trans h.2.1, (d.cell (p := ⟨X, 2, none⟩) hX).trans h.2.2.1, (d.cell (p := ⟨X, 3, none⟩) hX).trans h.2.2.2.1, (d.cell (p := ⟨X, 4, none⟩) hX).trans h.2.2.2.2⟩
/-- What a round of the ops' loop reads. -/
theorem op_keep {X B : Nat} {W0 W W' : World} {s : ByteArray} {a : Int} (hX : X ≠ B) (h : W.cell? ⟨X, 0, none⟩ = some (.string s) ∧ W.cell? ⟨X, 1, none⟩ = some (.int .i64 a) ∧ Hid (W.heap[X]? = some (.cells #[.string s, .int .i64 a] 66 (0, 0)) ∧ Below B W0 W)) (d : Below B W W') (k : KpB B W W') :
    W'.cell? ⟨X, 0, none⟩ = some (.string s) ∧ W'.cell? ⟨X, 1, none⟩ = some (.int .i64 a) ∧ Hid (W'.heap[X]? = some (.cells #[.string s, .int .i64 a] 66 (0, 0)) ∧ Below B W0 W') := by
  have hx := k X _ 66 _ (by decide) hX h.2.2.out.1
  exact ⟨cell_of hx rfl, cell_of hx rfl, hide ⟨hx, h.2.2.out.2.trans d⟩⟩

set_option maxRecDepth 100000 in
set_option maxHeartbeats 4000000 in
theorem write_any (w : World) (ti : ByteArray) (ao asx af ar : Option Addr) (co cs cf cr : Nat) (O : List OpT) (S F : List ByteArray) (R : List RuT) (hO : Hid (RdOp w ao O)) (hS : Hid (ReadsS w asx S)) (hF : Hid (ReadsS w af F)) (hR : Hid (RdRu w ar R)) (hk : Hid (WOk ti O S F R)) :
    Calls Tryz.prog 41 #[.agg #[.string ti, .slice ao O.length co, .slice asx S.length cs, .slice af F.length cf, .slice ar R.length cr]] w fun e w' => e = .returned (.string (writeT ti O S F R)) ∧ Below w.heap.size w w' := by
  obtain ⟨B, hBe⟩ : ∃ B, w.heap.size + 1 = B := ⟨_, rfl⟩
  have hlo := hk.out.lo
  have hls := hk.out.ls
  have hlf := hk.out.lf
  have hlr := hk.out.lr
  obtain ⟨W0, hW0⟩ : ∃ W0, (w.alloc (.cells #[.string ti, .slice ao O.length co, .slice asx S.length cs, .slice af F.length cf, .slice ar R.length cr] 32)).alloc (.cells #[.pointer none, .slice none 0 0] 97) = W0 := ⟨_, rfl⟩
  have d0 : Below w.heap.size w W0 := by rw [← hW0]; exact ((Below.refl _ _).alloc (Nat.le_refl _) _).alloc (by simp) _
  have b0 : W0.heap[w.heap.size]? = some (.cells #[.string ti, .slice ao O.length co, .slice asx S.length cs, .slice af F.length cf, .slice ar R.length cr] 32 (0, 0)) := by
    rw [← hW0]; exact (Below.heap_alloc _ _ _ (by simp)).trans (World.alloc_heap_new _ _)
  have b1 : W0.heap[B]? = some (.cells #[.pointer none, .slice none 0 0] 97 (0, 0)) := by
    rw [← hW0, ← hBe]
    have := World.alloc_heap_new (w.alloc (.cells #[.string ti, .slice ao O.length co, .slice asx S.length cs, .slice af F.length cf, .slice ar R.length cr] 32)) (.cells #[.pointer none, .slice none 0 0] 97)
    simpa using this
  have z0 : B + 1 = W0.heap.size := by rw [← hW0, ← hBe]; simp
  have HBX : Hid (Bx5 W0 w.heap.size (.string ti) (.slice ao O.length co) (.slice asx S.length cs) (.slice af F.length cf) (.slice ar R.length cr)) := hide ⟨cell_of b0 rfl, cell_of b0 rfl, cell_of b0 rfl, cell_of b0 rfl, cell_of b0 rfl⟩
  have HO := hide (hO.out.on d0)
  have HS := hide (hS.out.below d0)
  have HF := hide (hF.out.below d0)
  have HR := hide (hR.out.on d0)
  have H0 := hide (Bd.new (Nat.le_refl B) b1)
  have HD := hide (And.intro d0 z0)
  clear d0 b0 b1 z0
  go_enter Tryz.func41, Tryz.ntmps41
  go_wp2_with fail
  refine (wstr_any B B ⟨#[]⟩ _ _ H0 (by have : (⟨#[]⟩ : ByteArray).size = 0 := rfl; have : (⟨#[79, 112, 115]⟩ : ByteArray).size = 3 := rfl; omega) (hide (by have := HD.out.2; omega))).mono ?_
  rintro e w1 ⟨rfl, h1, d1, _⟩
  have H1 := hide h1
  have HB1 := hide d1
  have hXB : w.heap.size < B := by omega
  obtain ⟨c0, c1, c2, c3, c4⟩ := HBX.out.lo hXB d1
  clear h1 d1
  go_wp2_with fail
  go_loopw [12] (fun i wr => ∃ k : Nat, k ≤ O.length ∧ i = .int .i64 k ∧ Hid (Bd B B (opsT (⟨#[]⟩ ++ ⟨#[79, 112, 115]⟩) (O.take k)) wr) ∧ Hid (Below B W0 wr)) (fun i _ => O.length - (intOf i).toNat)
  case atStart => exact ⟨0, Nat.zero_le _, rfl, hide (by simpa [opsT] using H1.out), HB1⟩
  case round =>
    obtain ⟨k, hkl, rfl, HA, HB⟩ := hrel
    clear c0 c1 c2 c3 c4
    have DW := hide (HD.out.1.trans (HB.out.mono (by omega : w.heap.size ≤ B)))
    by_cases hlt : k < O.length
    · obtain ⟨g, o, rfl, q0, q1⟩ := (RdOp.on hO.out DW.out) k hlt
      have i2 : (k : Int) < (O.length : Int) := by omega
      have i3 : (0 : Int) ≤ (k : Int) := by omega
      have hxo := hk.out.o _ (List.getElem_mem hlt)
      have HN := hide (foldT_next opT (t := ⟨#[]⟩ ++ ⟨#[79, 112, 115]⟩) hlt)
      have hsz := hk.out.sz1 k
      obtain ⟨x, hx⟩ : ∃ x, O[k] = x := ⟨_, rfl⟩
      rw [hx] at q0 q1 hxo HN
      obtain ⟨s, a⟩ := x
      simp only at q0 q1 hxo
      have HXX := hide hx
      have hxo1 := hxo.1
      have hxo2 := hxo.2
      clear hx hxo
      have hc1 : ¬ ((⟨#[32]⟩ : ByteArray).size + s.size > 9223372036854775807) := by have : (⟨#[32]⟩ : ByteArray).size = 1 := rfl; omega
      have hc2 : ¬ ((⟨#[32]⟩ ++ s : ByteArray).size + (⟨#[58]⟩ : ByteArray).size > 9223372036854775807) := by rw [ByteArray.size_append]; have : (⟨#[32]⟩ : ByteArray).size = 1 := rfl; have : (⟨#[58]⟩ : ByteArray).size = 1 := rfl; omega
      have hc3 : ¬ ((⟨#[32]⟩ ++ s ++ ⟨#[58]⟩ : ByteArray).size + (digB a).size > 9223372036854775807) := by rw [ByteArray.size_append, ByteArray.size_append]; have : (⟨#[32]⟩ : ByteArray).size = 1 := rfl; have : (⟨#[58]⟩ : ByteArray).size = 1 := rfl; have : (digB a).size = 1 := rfl; omega
      have hXX : wr.heap.size ≠ B := by have := HD.out.2; have := HB.out.size; omega
      go_wp2_with fail
      have HBd := hide (HA.out.on (w' := (wr.alloc (.cells #[.string s, .int .i64 (a : Nat)] 66)).drew) ((Below.refl _ _).alloc (Nat.le_refl _) _).drew)
      have h51 : (wr.alloc (.cells #[.string s, .int .i64 (a : Nat)] 66)).drew.heap[wr.heap.size]? = some (.cells #[.string s, .int .i64 (a : Nat)] 66 (0, 0)) := World.alloc_heap_new _ _
      have k51 : (wr.alloc (.cells #[.string s, .int .i64 (a : Nat)] 66)).drew.cell? ⟨wr.heap.size, 0, none⟩ = some (.string s) ∧ (wr.alloc (.cells #[.string s, .int .i64 (a : Nat)] 66)).drew.cell? ⟨wr.heap.size, 1, none⟩ = some (.int .i64 (a : Nat)) ∧ Hid ((wr.alloc (.cells #[.string s, .int .i64 (a : Nat)] 66)).drew.heap[wr.heap.size]? = some (.cells #[.string s, .int .i64 (a : Nat)] 66 (0, 0)) ∧ Below B W0 (wr.alloc (.cells #[.string s, .int .i64 (a : Nat)] 66)).drew) :=
        ⟨cell_of h51 rfl, cell_of h51 rfl, hide ⟨h51, (HB.out.alloc (by have := HD.out.2; have := HB.out.size; omega) _).drew⟩⟩
      have hle : (opsT (⟨#[]⟩ ++ ⟨#[79, 112, 115]⟩) (O.take k)).size + (opT (s, a)).size ≤ 140737488355328 := by have := opT_size (s, a) hxo1; omega
      have hB2 : B ≤ (wr.alloc (.cells #[.string s, .int .i64 (a : Nat)] 66)).drew.heap.size := by have := HD.out.2; have := HB.out.size; simp; omega
      have he1 : ¬ (9223372036854775807 < (⟨#[32]⟩ : ByteArray).size + s.size) := hc1
      have he2 : ¬ (9223372036854775807 < (⟨#[32]⟩ ++ s : ByteArray).size + (⟨#[58]⟩ : ByteArray).size) := hc2
      have he3 : ¬ (9223372036854775807 < (⟨#[32]⟩ ++ s ++ ⟨#[58]⟩ : ByteArray).size + (digB a).size) := hc3
      have hf2 : ¬ (9223372036854775807 < (⟨#[32]⟩ : ByteArray).size + s.size + (⟨#[58]⟩ : ByteArray).size) := by rw [ByteArray.size_append] at he2; exact he2
      have hf3 : ¬ (9223372036854775807 < (⟨#[32]⟩ : ByteArray).size + s.size + (⟨#[58]⟩ : ByteArray).size + (digB a).size) := by rw [ByteArray.size_append, ByteArray.size_append] at he3; exact he3
      have hg1 : ¬ (9223372036854775807 < 1 + s.size) := by omega
      have hg2 : ¬ (9223372036854775807 < 1 + s.size + 1) := by omega
      have hg3 : ¬ (9223372036854775807 < 1 + s.size + 1 + (digB a).size) := by have : (digB a).size = 1 := rfl; omega
      clear h51 q0 q1
      go_region_held3 (fun W => W.cell? ⟨wr.heap.size, 0, none⟩ = some (.string s) ∧ W.cell? ⟨wr.heap.size, 1, none⟩ = some (.int .i64 (a : Nat)) ∧ Hid (W.heap[wr.heap.size]? = some (.cells #[.string s, .int .i64 (a : Nat)] 66 (0, 0)) ∧ Below B W0 W))
        (first | exact k51 | assumption | exact op_keep hXX k51 (by assumption) (by assumption))
        ((first
          | (go_at_call 74; refine (itoa_any a hxo2 _).mono ?_; rintro e wI ⟨rfl, hI⟩; obtain rfl := hI.symm)
          | (go_at_call 73; refine (wstr_any B B (opsT (⟨#[]⟩ ++ ⟨#[79, 112, 115]⟩) (O.take k)) _ _ HBd hle (hide hB2)).mono ?_; rintro e w2 ⟨rfl, h2, d2, k2⟩)))
      all_goals (
        rename_i hSS
        have HH := hide (And.intro h2 hSS.2.2.out.2)
        clear h2 d2 k2 hSS hle hc1 hc2 hc3 he1 he2 he3 hf2 hf3 hg1 hg2 hg3 k51
        go_wp2_with fail
        exact ⟨⟨k + 1, by omega, by go_num, hide (by unfold opsT; rw [HN.out]; exact HH.out.1), hide HH.out.2⟩, by simp [intOf]; omega⟩)
    · obtain rfl : k = O.length := by omega
      have i2 : ¬ (O.length : Int) < (O.length : Int) := by omega
      have H2 := hide (show Bd B B (w1T O) wr by have := HA.out; rwa [List.take_length] at this)
      have hT := hk.out.ti
      have hs2 := hk.out.sz2
      have hs1 := hk.out.sz1 O.length
      rw [List.take_length] at hs1
      have m1 : (⟨#[10, 65, 117, 116, 111, 109, 97, 116, 111, 110, 32]⟩ : ByteArray).size = 11 := rfl
      have m2 : (⟨#[10, 83, 116, 97, 116, 101, 115]⟩ : ByteArray).size = 7 := rfl
      have hc1 : ¬ ((⟨#[10, 65, 117, 116, 111, 109, 97, 116, 111, 110, 32]⟩ : ByteArray).size + ti.size > 9223372036854775807) := by omega
      have hc2 : ¬ ((⟨#[10, 65, 117, 116, 111, 109, 97, 116, 111, 110, 32]⟩ ++ ti : ByteArray).size + (⟨#[10, 83, 116, 97, 116, 101, 115]⟩ : ByteArray).size > 9223372036854775807) := by rw [ByteArray.size_append]; omega
      have hl2 : (w1T O).size + (⟨#[10, 65, 117, 116, 111, 109, 97, 116, 111, 110, 32]⟩ ++ ti ++ ⟨#[10, 83, 116, 97, 116, 101, 115]⟩ : ByteArray).size ≤ 140737488355328 := by
        rw [ByteArray.size_append, ByteArray.size_append]; unfold w1T; omega
      have hB2 : B ≤ wr.heap.size := by have := HD.out.2; have := HB.out.size; omega
      obtain ⟨c0, c1, c2, c3, c4⟩ := HBX.out.lo hXB HB.out
      clear HA hlt hkl m1 m2 hs1 hs2 DW
      go_wp2_with fail
      refine (wstr_any B B (w1T O) _ _ H2 hl2 (hide hB2)).mono ?_
      rintro e w3 ⟨rfl, h3, d3, _⟩
      have H3 := hide (show Bd B B (w2T ti O) w3 from h3)
      have HB3 := hide (HB.out.trans d3)
      clear h3 d3 c0 c1 c2 c3 c4 hc1 hc2 hl2
      obtain ⟨c0, c1, c2, c3, c4⟩ := HBX.out.lo hXB HB3.out
      go_wp2_with fail
      refine (wnames_any B B (w2T ti O) asx cs S w3 H3 (hide (by have := HB3.out.size; have := HD.out.2; omega)) (hide (hS.out.below (HD.out.1.trans (HB3.out.mono (by omega : w.heap.size ≤ B))))) hls (hide ⟨by have := hk.out.sz2; omega, fun s hs => Nat.le_trans (hk.out.s s hs) (by omega)⟩) (hide (fun g o e hp => by
        obtain ⟨g', o', e', c⟩ := hS.out 0 hp
        rw [e] at e'; cases e'
        have := World.block_lt_of_cell? w _ c
        simp only at this
        omega))).mono ?_
      rintro e w4 ⟨rfl, h4, d4⟩
      have H4 := hide h4
      have HB4 := hide (HB3.out.trans d4)
      clear h4 d4 c0 c1 c2 c3 c4
      obtain ⟨c0, c1, c2, c3, c4⟩ := HBX.out.lo hXB HB4.out
      go_wp2_with fail
      have hl4 : (onT (w2T ti O) S).size + (⟨#[10, 70, 105, 110, 97, 108, 32, 83, 116, 97, 116, 101, 115]⟩ : ByteArray).size ≤ 140737488355328 := by
        have := hk.out.sz3
        have : (⟨#[10, 70, 105, 110, 97, 108, 32, 83, 116, 97, 116, 101, 115]⟩ : ByteArray).size = 13 := rfl
        omega
      refine (wstr_any B B (onT (w2T ti O) S) _ _ H4 hl4 (hide (by have := HB4.out.size; have := HD.out.2; omega))).mono ?_
      rintro e w5 ⟨rfl, h5, d5, _⟩
      have H5 := hide (show Bd B B (w3T ti O S) w5 from h5)
      have HB5 := hide (HB4.out.trans d5)
      clear h5 d5 c0 c1 c2 c3 c4 hl4
      obtain ⟨c0, c1, c2, c3, c4⟩ := HBX.out.lo hXB HB5.out
      go_wp2_with fail
      refine (wnames_any B B (w3T ti O S) af cf F w5 H5 (hide (by have := HB5.out.size; have := HD.out.2; omega)) (hide (hF.out.below (HD.out.1.trans (HB5.out.mono (by omega : w.heap.size ≤ B))))) hlf (hide ⟨by
        have := hk.out.sz3
        have : (w3T ti O S).size = (onT (w2T ti O) S).size + 13 := by unfold w3T; rw [ByteArray.size_append]; rfl
        omega, fun s hs => Nat.le_trans (hk.out.f s hs) (by omega)⟩) (hide (fun g o e hp => by
        obtain ⟨g', o', e', c⟩ := hF.out 0 hp
        rw [e] at e'; cases e'
        have := World.block_lt_of_cell? w _ c
        simp only at this
        omega))).mono ?_
      rintro e w6 ⟨rfl, h6, d6⟩
      have H6 := hide h6
      have HB6 := hide (HB5.out.trans d6)
      clear h6 d6 c0 c1 c2 c3 c4
      obtain ⟨c0, c1, c2, c3, c4⟩ := HBX.out.lo hXB HB6.out
      go_wp2_with fail
      have hl6 : (onT (w3T ti O S) F).size + (⟨#[10, 84, 114, 97, 110, 115, 105, 116, 105, 111, 110, 115, 10]⟩ : ByteArray).size ≤ 140737488355328 := by
        have := hk.out.sz4
        have : (⟨#[10, 84, 114, 97, 110, 115, 105, 116, 105, 111, 110, 115, 10]⟩ : ByteArray).size = 13 := rfl
        omega
      refine (wstr_any B B (onT (w3T ti O S) F) _ _ H6 hl6 (hide (by have := HB6.out.size; have := HD.out.2; omega))).mono ?_
      rintro e w7 ⟨rfl, h7, d7, _⟩
      have H7 := hide (show Bd B B (w4T ti O S F) w7 from h7)
      have HB7 := hide (HB6.out.trans d7)
      clear h7 d7 c0 c1 c2 c3 c4 hl6
      obtain ⟨c0, c1, c2, c3, c4⟩ := HBX.out.lo hXB HB7.out
      go_wp2_with fail
      go_loopw [42] (fun i wr => ∃ k : Nat, k ≤ R.length ∧ i = .int .i64 k ∧ Hid (Bd B B (rulesT (w4T ti O S F) (R.take k)) wr) ∧ Hid (Below B W0 wr)) (fun i _ => R.length - (intOf i).toNat)
      case atStart => exact ⟨0, Nat.zero_le _, rfl, hide (by simpa [rulesT] using H7.out), HB7⟩
      case round =>
        obtain ⟨k, hkl, rfl, HA, HB⟩ := hrel
        clear c0 c1 c2 c3 c4
        have DW := hide (HD.out.1.trans (HB.out.mono (by omega : w.heap.size ≤ B)))
        by_cases hlt : k < R.length
        · obtain ⟨g, o, rfl, q0, q1, q2⟩ := (RdRu.on hR.out DW.out) k hlt
          have j2 : (k : Int) < (R.length : Int) := by omega
          have j3 : (0 : Int) ≤ (k : Int) := by omega
          have hxo := hk.out.r _ (List.getElem_mem hlt)
          have HN := hide (foldT_next ruT (t := w4T ti O S F) hlt)
          have hsz := hk.out.sz5 k
          obtain ⟨x, hx⟩ : ∃ x, R[k] = x := ⟨_, rfl⟩
          rw [hx] at q0 q1 q2 hxo HN
          have hru := ruT_size x hxo
          obtain ⟨x1, x2, x3⟩ := x
          simp only at q0 q1 q2 hxo
          have n1 : (⟨#[40]⟩ : ByteArray).size = 1 := rfl
          have n2 : (⟨#[41, 32, 45, 62, 32]⟩ : ByteArray).size = 5 := rfl
          have n3 : (⟨#[10]⟩ : ByteArray).size = 1 := rfl
          have hc1 : ¬ (x1.size + (⟨#[40]⟩ : ByteArray).size > 9223372036854775807) := by omega
          have hc2 : ¬ ((x1 ++ ⟨#[40]⟩ : ByteArray).size + x2.size > 9223372036854775807) := by rw [ByteArray.size_append]; omega
          have hc3 : ¬ ((x1 ++ ⟨#[40]⟩ ++ x2 : ByteArray).size + (⟨#[41, 32, 45, 62, 32]⟩ : ByteArray).size > 9223372036854775807) := by rw [ByteArray.size_append, ByteArray.size_append]; omega
          have hc4 : ¬ ((x1 ++ ⟨#[40]⟩ ++ x2 ++ ⟨#[41, 32, 45, 62, 32]⟩ : ByteArray).size + x3.size > 9223372036854775807) := by rw [ByteArray.size_append, ByteArray.size_append, ByteArray.size_append]; omega
          have hc5 : ¬ ((x1 ++ ⟨#[40]⟩ ++ x2 ++ ⟨#[41, 32, 45, 62, 32]⟩ ++ x3 : ByteArray).size + (⟨#[10]⟩ : ByteArray).size > 9223372036854775807) := by rw [ByteArray.size_append, ByteArray.size_append, ByteArray.size_append, ByteArray.size_append]; omega
          have hle : (rulesT (w4T ti O S F) (R.take k)).size + (ruT (x1, x2, x3)).size ≤ 140737488355328 := by omega
          have HXX := hide hx
          clear hx hxo hru n1 n2 n3 hsz
          go_wp2_with fail
          refine (wstr_any B B (rulesT (w4T ti O S F) (R.take k)) _ _ (hide (HA.out.on ((Below.refl _ _).alloc (Nat.le_refl _) _))) hle (hide (by have := HD.out.2; have := HB.out.size; simp; omega))).mono ?_
          rintro e w2 ⟨rfl, h2, d2, _⟩
          have HH := hide (And.intro h2 ((HB.out.alloc (by have := HD.out.2; have := HB.out.size; omega) _).trans d2))
          clear h2 d2 hle hc1 hc2 hc3 hc4 hc5 q0 q1 q2
          go_wp2_with fail
          exact ⟨⟨k + 1, by omega, by go_num, hide (by unfold rulesT; rw [HN.out]; exact HH.out.1), hide HH.out.2⟩, by simp [intOf]; omega⟩
        · obtain rfl : k = R.length := by omega
          have j2 : ¬ (R.length : Int) < (R.length : Int) := by omega
          have H8 := hide (show Bd B B (writeT ti O S F R) wr by have := HA.out; rwa [List.take_length] at this)
          go_wp2_with (go_at_call 76; refine (bstr_any B B (writeT ti O S F R) _ H8.out (by have := HD.out.2; have := HB.out.size; omega)).mono ?_; rintro e w9 ⟨rfl, d9⟩)
          go_ret
          exact ⟨rfl, DW.out.trans (d9.mono (by omega : w.heap.size ≤ B))⟩
end Go.Proofs.YtmagchclmmphaabGreatDoor
