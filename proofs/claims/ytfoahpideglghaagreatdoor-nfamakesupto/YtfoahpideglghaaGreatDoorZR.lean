import Derived.Test.YtfoahpideglghaaGreatDoorZq
import Derived.Test.YtfoahpideglghaaGreatDoorZj
import Derived.Test.YtfoahpideglghaaGreatDoorUn
import Derived.Test.YtfoahpideglghaaGreatDoorWS
namespace Go.Proofs.YtfoahpideglghaaGreatDoor
open Go.RowKit Go.Maps Go.Shelf

/-! ### What the constructions answer -/
structure Ans where
  n : Int
  m : Int
  s : List Int
  f : List Int
  e : List EdT
  er : Int
def badA (er : Int) : Ans := ⟨0, 0, [], [], [], er⟩
theorem Own.o {B : Nat} {w : World} {g1 k1 g2 k2 g3 k3 : Nat} {S F : List Int} {E : List EdT} (h : Own B w g1 k1 g2 k2 g3 k3 S F E) : OwnO B w (.slice (some ⟨g1, 0, none⟩) S.length k1) (.slice (some ⟨g2, 0, none⟩) F.length k2) (.slice (some ⟨g3, 0, none⟩) E.length k3) S F E :=
  ⟨h.s, h.f, h.e, fun g q q' => h.n12 (by simp only [Value.ownBlock, Option.some.injEq] at q q'; rw [q, q'])⟩
/-- The program's answer: lists of its own. -/
def AnsO (w : World) (r : Ans) (e : Ending) (w' : World) : Prop := ∃ b1 k1 b2 k2 b3 k3, e = .returned (.tuple #[.agg #[.int .i64 r.n, .int .i64 r.m, .slice b1 r.s.length k1, .slice b2 r.f.length k2, .slice b3 r.e.length k3], .int .i64 r.er]) ∧ Hid (OwnO w.heap.size w' (.slice b1 r.s.length k1) (.slice b2 r.f.length k2) (.slice b3 r.e.length k3) r.s r.f r.e) ∧ Below w.heap.size w w'
/-- The document's answer: lists in new memory. -/
def AnsR (w : World) (r : Ans) (e : Ending) (w' : World) : Prop := ∃ b1 k1 b2 k2 b3 k3, e = .returned (.tuple #[.agg #[.int .i64 r.n, .int .i64 r.m, .slice b1 r.s.length k1, .slice b2 r.f.length k2, .slice b3 r.e.length k3], .int .i64 r.er]) ∧ Hid (OwnD w.heap.size w' (.slice b1 r.s.length k1) (.slice b2 r.f.length k2) (.slice b3 r.e.length k3) r.s r.f r.e) ∧ Below w.heap.size w w'
theorem ansO_bad {w w' : World} {er : Int} {e : Ending} (he : e = .returned (.tuple #[.agg #[.int .i64 0, .int .i64 0, .slice none 0 0, .slice none 0 0, .slice none 0 0], .int .i64 er])) (d : Below w.heap.size w w') : AnsO w (badA er) e w' :=
  ⟨none, 0, none, 0, none, 0, he, hide ⟨⟨rfl, .inl ⟨rfl, rfl⟩⟩, ⟨rfl, .inl ⟨rfl, rfl⟩⟩, ⟨rfl, .inl ⟨rfl, rfl⟩⟩, fun g q => by cases q⟩, d⟩
theorem AnsO.r {w w' : World} {r : Ans} {e : Ending} (h : AnsO w r e w') : AnsR w r e w' := by
  obtain ⟨b1, k1, b2, k2, b3, k3, he, ho, d⟩ := h
  exact ⟨b1, k1, b2, k2, b3, k3, he, hide ⟨ho.out.s, ho.out.f, ho.out.e⟩, d⟩
def normAns (n m : Int) (St Fi : List Int) (Ed : List EdT) : Ans := if mayA n m St Fi Ed = true then ⟨n, m, riseL St, riseL Fi, riseE Ed, 0⟩ else badA 2
def revAns (n m : Int) (St Fi : List Int) (Ed : List EdT) : Ans := if mayA n m St Fi Ed = true then ⟨n, m, riseL Fi, riseL St, riseE (turnE Ed), 0⟩ else badA 2
def uniAns (n m n' m' : Int) (St Fi : List Int) (Ed : List EdT) (St' Fi' : List Int) (Ed' : List EdT) : Ans := if unErr n m n' m' St Fi Ed St' Fi' Ed' = 0 then ⟨n + n', m, riseL St ++ shL n (riseL St'), riseL Fi ++ shL n (riseL Fi'), riseE Ed ++ shEs n (riseE Ed'), 0⟩ else badA (unErr n m n' m' St Fi Ed St' Fi' Ed')
def widAns (n m k : Int) (St Fi To : List Int) (Ed : List EdT) : Ans := if mayA n m St Fi Ed = true then (if wideOk m k To = true then ⟨n, k, riseL St, riseL Fi, riseE (rlEs To Ed), 0⟩ else badA 1) else badA 2
theorem normal_ans (w : World) (n m : Int) (a1 a2 a3 : Option Addr) (c1 c2 c3 : Nat) (St Fi : List Int) (Ed : List EdT) (hA : Hid (RdA w a1 a2 a3 St Fi Ed)) (h1 : St.length ≤ 4194304) (h2 : Fi.length ≤ 4194304) (h3 : Ed.length ≤ 4194304) : Calls Tryz.prog 21 #[.agg #[.int .i64 n, .int .i64 m, .slice a1 St.length c1, .slice a2 Fi.length c2, .slice a3 Ed.length c3]] w (AnsO w (normAns n m St Fi Ed)) := by
  unfold normAns
  by_cases em : mayA n m St Fi Ed = true
  · rw [if_pos em]
    exact (normal_ok w n m a1 a2 a3 c1 c2 c3 St Fi Ed hA h1 h2 h3 em).mono fun e w' ⟨g1, k1, g2, k2, g3, k3, he, ho, d⟩ => ⟨_, k1, _, k2, _, k3, he, hide ho.o, d⟩
  · rw [if_neg em]
    exact (normal_bad w n m a1 a2 a3 c1 c2 c3 St Fi Ed hA h1 h2 h3 (by simpa using em)).mono fun e w' ⟨he, d⟩ => ansO_bad he d
theorem rnormal_ans (w : World) (n m : Int) (a1 a2 a3 : Option Addr) (c1 c2 c3 : Nat) (St Fi : List Int) (Ed : List EdT) (hA : Hid (RdA w a1 a2 a3 St Fi Ed)) (h1 : St.length ≤ 4194304) (h2 : Fi.length ≤ 4194304) (h3 : Ed.length ≤ 4194304) (hc : Ed.length ≤ c3) : Calls Tryz.prog 32 #[.agg #[.int .i64 n, .int .i64 m, .slice a1 St.length c1, .slice a2 Fi.length c2, .slice a3 Ed.length c3]] w (AnsR w (normAns n m St Fi Ed)) := by
  unfold normAns
  by_cases em : mayA n m St Fi Ed = true
  · rw [if_pos em]
    exact (rnormal_ok w n m a1 a2 a3 c1 c2 c3 St Fi Ed hA h1 h2 h3 hc em).mono fun e w' ⟨g1, k1, g2, k2, g3, k3, he, ho, d⟩ => ⟨_, k1, _, k2, _, k3, he, hide ⟨ho.out.s, ho.out.f, ho.out.e⟩, d⟩
  · rw [if_neg em]
    exact (rnormal_bad w n m a1 a2 a3 c1 c2 c3 St Fi Ed hA h1 h2 h3 (by simpa using em)).mono fun e w' ⟨he, d⟩ => (ansO_bad he d).r
theorem reverse_ans (w : World) (n m : Int) (a1 a2 a3 : Option Addr) (c1 c2 c3 : Nat) (St Fi : List Int) (Ed : List EdT) (hA : Hid (RdA w a1 a2 a3 St Fi Ed)) (h1 : St.length ≤ 4194304) (h2 : Fi.length ≤ 4194304) (h3 : Ed.length ≤ 4194304) : Calls Tryz.prog 23 #[.agg #[.int .i64 n, .int .i64 m, .slice a1 St.length c1, .slice a2 Fi.length c2, .slice a3 Ed.length c3]] w (AnsO w (revAns n m St Fi Ed)) := by
  unfold revAns
  by_cases em : mayA n m St Fi Ed = true
  · rw [if_pos em]
    exact (reverse_ok w n m a1 a2 a3 c1 c2 c3 St Fi Ed hA h1 h2 h3 em).mono fun e w' ⟨g1, k1, g2, k2, g3, k3, he, ho, d⟩ => ⟨_, k1, _, k2, _, k3, he, hide ho.o, d⟩
  · rw [if_neg em]
    exact (reverse_bad w n m a1 a2 a3 c1 c2 c3 St Fi Ed hA h1 h2 h3 (by simpa using em)).mono fun e w' ⟨he, d⟩ => ansO_bad he d
theorem rreverse_ans (w : World) (n m : Int) (a1 a2 a3 : Option Addr) (c1 c2 c3 : Nat) (St Fi : List Int) (Ed : List EdT) (hA : Hid (RdA w a1 a2 a3 St Fi Ed)) (h1 : St.length ≤ 4194304) (h2 : Fi.length ≤ 4194304) (h3 : Ed.length ≤ 4194304) (hc : Ed.length ≤ c3) : Calls Tryz.prog 34 #[.agg #[.int .i64 n, .int .i64 m, .slice a1 St.length c1, .slice a2 Fi.length c2, .slice a3 Ed.length c3]] w (AnsR w (revAns n m St Fi Ed)) := by
  unfold revAns
  by_cases em : mayA n m St Fi Ed = true
  · rw [if_pos em]
    exact rreverse_ok w n m a1 a2 a3 c1 c2 c3 St Fi Ed hA h1 h2 h3 hc em
  · rw [if_neg em]
    exact (rreverse_bad w n m a1 a2 a3 c1 c2 c3 St Fi Ed hA h1 h2 h3 (by simpa using em)).mono fun e w' ⟨he, d⟩ => (ansO_bad he d).r
theorem union_ans (w : World) (n m n' m' : Int) (a1 a2 a3 b1 b2 b3 : Option Addr) (c1 c2 c3 d1 d2 d3 : Nat) (St Fi : List Int) (Ed : List EdT) (St' Fi' : List Int) (Ed' : List EdT) (hA : Hid (RdA w a1 a2 a3 St Fi Ed)) (hB : Hid (RdA w b1 b2 b3 St' Fi' Ed')) (h1 : St.length ≤ 4194304) (h2 : Fi.length ≤ 4194304) (h3 : Ed.length ≤ 4194304) (h4 : St'.length ≤ 4194304) (h5 : Fi'.length ≤ 4194304) (h6 : Ed'.length ≤ 4194304) : Calls Tryz.prog 28 #[.agg #[.int .i64 n, .int .i64 m, .slice a1 St.length c1, .slice a2 Fi.length c2, .slice a3 Ed.length c3], .agg #[.int .i64 n', .int .i64 m', .slice b1 St'.length d1, .slice b2 Fi'.length d2, .slice b3 Ed'.length d3]] w (AnsO w (uniAns n m n' m' St Fi Ed St' Fi' Ed')) := by
  refine (union_any w n m n' m' a1 a2 a3 b1 b2 b3 c1 c2 c3 d1 d2 d3 St Fi Ed St' Fi' Ed' hA hB h1 h2 h3 h4 h5 h6).mono fun e w' h => ?_
  unfold uniAns
  rcases h with ⟨⟨h0, he⟩ | ⟨h0, g1, k1, g2, k2, g3, k3, he, ho⟩, d⟩
  · rw [if_neg h0]
    exact ansO_bad he d
  · rw [if_pos h0]
    exact ⟨_, k1, _, k2, _, k3, he, hide ho.o, d⟩
theorem runion_ans (w : World) (n m n' m' : Int) (a1 a2 a3 b1 b2 b3 : Option Addr) (c1 c2 c3 d1 d2 d3 : Nat) (St Fi : List Int) (Ed : List EdT) (St' Fi' : List Int) (Ed' : List EdT) (hA : Hid (RdA w a1 a2 a3 St Fi Ed)) (hB : Hid (RdA w b1 b2 b3 St' Fi' Ed')) (h1 : St.length ≤ 4194304) (h2 : Fi.length ≤ 4194304) (h3 : Ed.length ≤ 4194304) (h4 : St'.length ≤ 4194304) (h5 : Fi'.length ≤ 4194304) (h6 : Ed'.length ≤ 4194304) (hc : Ed.length ≤ c3) (hc' : Ed'.length ≤ d3) : Calls Tryz.prog 35 #[.agg #[.int .i64 n, .int .i64 m, .slice a1 St.length c1, .slice a2 Fi.length c2, .slice a3 Ed.length c3], .agg #[.int .i64 n', .int .i64 m', .slice b1 St'.length d1, .slice b2 Fi'.length d2, .slice b3 Ed'.length d3]] w (AnsR w (uniAns n m n' m' St Fi Ed St' Fi' Ed')) := by
  by_cases ea : mayA n m St Fi Ed = true
  · by_cases eb : mayA n' m' St' Fi' Ed' = true
    · have e2 : ¬ (mayA n m St Fi Ed = false ∨ mayA n' m' St' Fi' Ed' = false) := by simp [ea, eb]
      by_cases em : m = m'
      · by_cases hn : 4096 < n + n'
        · have e0 : unErr n m n' m' St Fi Ed St' Fi' Ed' = 8 := by unfold unErr; rw [if_neg e2, if_neg (by simpa using em), if_pos hn]
          unfold uniAns
          rw [e0, if_neg (by decide)]
          exact (runion_bad w n m n' m' a1 a2 a3 b1 b2 b3 c1 c2 c3 d1 d2 d3 St Fi Ed St' Fi' Ed' hA hB h1 h2 h3 h4 h5 h6 hc hc' ea eb 8 (Or.inr ⟨em, Or.inl hn, rfl⟩)).mono fun e w' ⟨he, d⟩ => (ansO_bad he d).r
        · by_cases hl : 65536 < (riseE Ed).length + (riseE Ed').length
          · have e0 : unErr n m n' m' St Fi Ed St' Fi' Ed' = 8 := by unfold unErr; rw [if_neg e2, if_neg (by simpa using em), if_neg hn, if_pos hl]
            unfold uniAns
            rw [e0, if_neg (by decide)]
            exact (runion_bad w n m n' m' a1 a2 a3 b1 b2 b3 c1 c2 c3 d1 d2 d3 St Fi Ed St' Fi' Ed' hA hB h1 h2 h3 h4 h5 h6 hc hc' ea eb 8 (Or.inr ⟨em, Or.inr hl, rfl⟩)).mono fun e w' ⟨he, d⟩ => (ansO_bad he d).r
          · have e0 : unErr n m n' m' St Fi Ed St' Fi' Ed' = 0 := by unfold unErr; rw [if_neg e2, if_neg (by simpa using em), if_neg hn, if_neg hl]
            unfold uniAns
            rw [if_pos e0]
            exact runion_ok w n m n' m' a1 a2 a3 b1 b2 b3 c1 c2 c3 d1 d2 d3 St Fi Ed St' Fi' Ed' hA hB h1 h2 h3 h4 h5 h6 hc hc' ea eb em (by omega) (by omega)
      · have e0 : unErr n m n' m' St Fi Ed St' Fi' Ed' = 6 := by unfold unErr; rw [if_neg e2, if_pos em]
        unfold uniAns
        rw [e0, if_neg (by decide)]
        exact (runion_bad w n m n' m' a1 a2 a3 b1 b2 b3 c1 c2 c3 d1 d2 d3 St Fi Ed St' Fi' Ed' hA hB h1 h2 h3 h4 h5 h6 hc hc' ea eb 6 (Or.inl ⟨em, rfl⟩)).mono fun e w' ⟨he, d⟩ => (ansO_bad he d).r
    · have e2 : mayA n m St Fi Ed = false ∨ mayA n' m' St' Fi' Ed' = false := Or.inr (by simpa using eb)
      have e0 : unErr n m n' m' St Fi Ed St' Fi' Ed' = 2 := by unfold unErr; rw [if_pos e2]
      unfold uniAns
      rw [e0, if_neg (by decide)]
      exact (runion_bad2 w n m n' m' a1 a2 a3 b1 b2 b3 c1 c2 c3 d1 d2 d3 St Fi Ed St' Fi' Ed' hA hB h1 h2 h3 h4 h5 h6 hc hc' e2).mono fun e w' ⟨he, d⟩ => (ansO_bad he d).r
  · have e2 : mayA n m St Fi Ed = false ∨ mayA n' m' St' Fi' Ed' = false := Or.inl (by simpa using ea)
    have e0 : unErr n m n' m' St Fi Ed St' Fi' Ed' = 2 := by unfold unErr; rw [if_pos e2]
    unfold uniAns
    rw [e0, if_neg (by decide)]
    exact (runion_bad2 w n m n' m' a1 a2 a3 b1 b2 b3 c1 c2 c3 d1 d2 d3 St Fi Ed St' Fi' Ed' hA hB h1 h2 h3 h4 h5 h6 hc hc' e2).mono fun e w' ⟨he, d⟩ => (ansO_bad he d).r
theorem widen_ans (w : World) (n m k : Int) (a1 a2 a3 a0 : Option Addr) (c1 c2 c3 c0 : Nat) (St Fi To : List Int) (Ed : List EdT) (hA : Hid (RdA w a1 a2 a3 St Fi Ed)) (hTo : Hid (RdN w a0 To)) (h1 : St.length ≤ 4194304) (h2 : Fi.length ≤ 4194304) (h3 : Ed.length ≤ 4194304) (h4 : To.length ≤ 4194304) : Calls Tryz.prog 29 #[.agg #[.int .i64 n, .int .i64 m, .slice a1 St.length c1, .slice a2 Fi.length c2, .slice a3 Ed.length c3], .int .i64 k, .slice a0 To.length c0] w (AnsO w (widAns n m k St Fi To Ed)) := by
  unfold widAns
  by_cases em : mayA n m St Fi Ed = true
  · rw [if_pos em]
    by_cases ew : wideOk m k To = true
    · rw [if_pos ew]
      exact (widen_ok w n m k a1 a2 a3 a0 c1 c2 c3 c0 St Fi To Ed hA hTo h1 h2 h3 h4 em ew).mono fun e w' ⟨g1, k1, g2, k2, g3, k3, he, ho, d⟩ => ⟨_, k1, _, k2, _, k3, he, hide ho.o, d⟩
    · rw [if_neg ew]
      exact (widen_arg w n m k a1 a2 a3 a0 c1 c2 c3 c0 St Fi To Ed hA hTo h1 h2 h3 h4 em (by simpa using ew)).mono fun e w' ⟨he, d⟩ => ansO_bad he d
  · rw [if_neg em]
    exact (widen_auto w n m k a1 a2 a3 a0 c1 c2 c3 c0 To.length St Fi Ed hA h1 h2 h3 (by simpa using em)).mono fun e w' ⟨he, d⟩ => ansO_bad he d
theorem rwiden_ans (w : World) (n m k : Int) (a1 a2 a3 a0 : Option Addr) (c1 c2 c3 c0 : Nat) (St Fi To : List Int) (Ed : List EdT) (hA : Hid (RdA w a1 a2 a3 St Fi Ed)) (hTo : Hid (RdN w a0 To)) (h1 : St.length ≤ 4194304) (h2 : Fi.length ≤ 4194304) (h3 : Ed.length ≤ 4194304) (h4 : To.length ≤ 4194304) (hc : Ed.length ≤ c3) : Calls Tryz.prog 36 #[.agg #[.int .i64 n, .int .i64 m, .slice a1 St.length c1, .slice a2 Fi.length c2, .slice a3 Ed.length c3], .int .i64 k, .slice a0 To.length c0] w (AnsR w (widAns n m k St Fi To Ed)) := by
  unfold widAns
  by_cases em : mayA n m St Fi Ed = true
  · rw [if_pos em]
    by_cases ew : wideOk m k To = true
    · rw [if_pos ew]
      exact rwiden_ok w n m k a1 a2 a3 a0 c1 c2 c3 c0 St Fi To Ed hA hTo h1 h2 h3 h4 hc em ew
    · rw [if_neg ew]
      exact (rwiden_arg w n m k a1 a2 a3 a0 c1 c2 c3 c0 St Fi To Ed hA hTo h1 h2 h3 h4 hc em (by simpa using ew)).mono fun e w' ⟨he, d⟩ => (ansO_bad he d).r
  · rw [if_neg em]
    exact (rwiden_auto w n m k a1 a2 a3 a0 c1 c2 c3 c0 St Fi To Ed hA h1 h2 h3 (by simpa using em)).mono fun e w' ⟨he, d⟩ => (ansO_bad he d).r
end Go.Proofs.YtfoahpideglghaaGreatDoor
namespace Go.Proofs.YtfoahpideglghaaGreatDoor
open Go.RowKit Go.Maps Go.Shelf

/-! ### Answers that lie apart -/
/-- The blocks of three rows. -/
def In3 (x1 x2 x3 : Value) (b : Nat) : Prop := x1.ownBlock = some b ∨ x2.ownBlock = some b ∨ x3.ownBlock = some b
theorem OwnO.d {B : Nat} {W : World} {x1 x2 x3 : Value} {S F : List Int} {E : List EdT} (h : OwnO B W x1 x2 x3 S F E) : OwnD B W x1 x2 x3 S F E := ⟨h.s, h.f, h.e⟩
theorem OwnD.lt {B : Nat} {W : World} {x1 x2 x3 : Value} {S F : List Int} {E : List EdT} (h : OwnD B W x1 x2 x3 S F E) (b : Nat) (hb : In3 x1 x2 x3 b) : B ≤ b ∧ b < W.heap.size := by
  rcases hb with q | q | q
  · exact h.s.lt b q
  · exact h.f.lt b q
  · exact h.e.lt b q
theorem OwnD.on {B : Nat} {W W' : World} {x1 x2 x3 : Value} {S F : List Int} {E : List EdT} (h : OwnD B W x1 x2 x3 S F E) (d : Below W.heap.size W W') : OwnD B W' x1 x2 x3 S F E := ⟨own_below h.s d, own_below h.f d, own_below h.e d⟩
theorem OwnD.only {B : Nat} {W W' : World} {R : Nat → Prop} {x1 x2 x3 : Value} {S F : List Int} {E : List EdT} (h : OwnD B W x1 x2 x3 S F E) (o : Only W W' R) (hn : ∀ b, In3 x1 x2 x3 b → ¬ R b) : OwnD B W' x1 x2 x3 S F E :=
  ⟨row_only h.s o fun b q => hn b (Or.inl q), row_only h.f o fun b q => hn b (Or.inr (Or.inl q)), row_only h.e o fun b q => hn b (Or.inr (Or.inr q))⟩
theorem OwnO.only {B : Nat} {W W' : World} {R : Nat → Prop} {x1 x2 x3 : Value} {S F : List Int} {E : List EdT} (h : OwnO B W x1 x2 x3 S F E) (o : Only W W' R) (hn : ∀ b, In3 x1 x2 x3 b → ¬ R b) : OwnO B W' x1 x2 x3 S F E :=
  have k := h.d.only o hn
  ⟨k.s, k.f, k.e, h.ne⟩
/-- What was answered earlier lies below what is answered later. -/
theorem in3_apart {B C : Nat} {W W' : World} {x1 x2 x3 y1 y2 y3 : Value} {S F S' F' : List Int} {E E' : List EdT} (h : OwnD B W x1 x2 x3 S F E) (h' : OwnD C W' y1 y2 y3 S' F' E') (hle : W.heap.size ≤ C) (b : Nat) (q : In3 x1 x2 x3 b) (q' : In3 y1 y2 y3 b) : False := by
  have := (h.lt b q).2
  have := (h'.lt b q').1
  omega
theorem row_not25 {W : World} {B e sz n p : Nat} {v : Value} {xs : List Value} {cs : Array Value} (h : W.ownsRow B e sz v n xs) (z : W.heap[p]? = some (.cells cs 25 (0, 0))) (he : e ≠ 25) : v.ownBlock ≠ some p := by
  intro q
  rcases h.2 with ⟨rfl, _⟩ | ⟨g, cap, cur, rfl, _, hg, _⟩
  · cases q
  · cases q
    rw [hg] at z
    cases z
    exact he rfl
/-- A box of an automaton is none of an answer's rows. -/
theorem in3_box {B p : Nat} {W : World} {x1 x2 x3 : Value} {S F : List Int} {E : List EdT} {cs : Array Value} (h : OwnD B W x1 x2 x3 S F E) (z : W.heap[p]? = some (.cells cs 25 (0, 0))) : ¬ In3 x1 x2 x3 p := by
  rintro (q | q | q)
  · exact row_not25 h.s z (by decide) q
  · exact row_not25 h.f z (by decide) q
  · exact row_not25 h.e z (by decide) q
theorem box_stays {B p : Nat} {W W' : World} {x1 x2 x3 : Value} {S F : List Int} {E : List EdT} {cs : Array Value} (h : OwnD B W x1 x2 x3 S F E) (o : Only W W' (In3 x1 x2 x3)) (z : W.heap[p]? = some (.cells cs 25 (0, 0))) : W'.heap[p]? = some (.cells cs 25 (0, 0)) :=
  (o.block p (Array.getElem?_eq_some_iff.1 z).1 (in3_box h z)).trans z
/-- Writing over what was answered leaves all that was there before. -/
theorem in3_below {B C : Nat} {W W' : World} {x1 x2 x3 : Value} {S F : List Int} {E : List EdT} (h : OwnD B W x1 x2 x3 S F E) (o : Only W W' (In3 x1 x2 x3)) (hC : C ≤ B) (hW : C ≤ W.heap.size) : Below C W W' :=
  o.toBelow hW fun b q => Nat.le_trans hC (h.lt b q).1
end Go.Proofs.YtfoahpideglghaaGreatDoor
namespace Go.Proofs.YtfoahpideglghaaGreatDoor
open Go.RowKit Go.Maps Go.Shelf

theorem OwnD.keep {B p : Nat} {w w' : World} {v1 v2 v3 : Value} {S F : List Int} {E : List EdT} {cs : Array Value} (h : OwnD B w v1 v2 v3 S F E) (z : w.heap[p]? = some (.cells cs 25 (0, 0))) (o : Only w w' (fun k => k = p)) : OwnD B w' v1 v2 v3 S F E := ⟨own_keep h.s z (by decide) o, own_keep h.f z (by decide) o, own_keep h.e z (by decide) o⟩
theorem mk_onlyR {B : Nat} {w w' : World} {R : Nat → Prop} {g c : Nat} {L : List Int} (h : Mk B w g c L) (o : Only w w' R) (hn : ¬ R g) : Mk B w' g c L := ⟨h.le, row_only h.rw o (fun k q => by cases q; exact hn)⟩
theorem mkE_onlyR {B : Nat} {w w' : World} {R : Nat → Prop} {g c : Nat} {L : List EdT} (h : MkE B w g c L) (o : Only w w' R) (hn : ¬ R g) : MkE B w' g c L := ⟨h.le, row_only h.rw o (fun k q => by cases q; exact hn)⟩
theorem twA_onlyR {B : Nat} {w w' : World} {R : Nat → Prop} {g1 k1 g2 k2 g3 k3 : Nat} {S F : List Int} {E : List EdT} (h : TwA B w g1 k1 g2 k2 g3 k3 S F E) (o : Only w w' R) (h1 : ¬ R g1) (h2 : ¬ R g2) (h3 : ¬ R g3) : TwA B w' g1 k1 g2 k2 g3 k3 S F E :=
  ⟨mk_onlyR h.s o h1, mk_onlyR h.f o h2, mkE_onlyR h.e o h3, h.n12, h.n13, h.n23⟩
def LenA (r : Ans) : Prop := r.s.length ≤ 4194000 ∧ r.f.length ≤ 4194000 ∧ r.e.length ≤ 4194000
theorem lenA_bad (er : Int) : LenA (badA er) := ⟨Nat.zero_le _, Nat.zero_le _, Nat.zero_le _⟩
theorem rev_len (n m : Int) (St Fi : List Int) (Ed : List EdT) (h1 : St.length ≤ 1048576) (h2 : Fi.length ≤ 1048576) (h3 : Ed.length ≤ 1048576) : LenA (revAns n m St Fi Ed) := by
  have t1 := riseL_len St
  have t2 := riseL_len Fi
  have t3 := riseE_len (turnE Ed)
  rw [turnE_len] at t3
  unfold revAns
  by_cases em : mayA n m St Fi Ed = true
  · rw [if_pos em]; exact ⟨by simp only; omega, by simp only; omega, by simp only; omega⟩
  · rw [if_neg em]; exact lenA_bad _
theorem uni_len (n m n' m' : Int) (St Fi : List Int) (Ed : List EdT) (St' Fi' : List Int) (Ed' : List EdT) (h1 : St.length ≤ 1048576) (h2 : Fi.length ≤ 1048576) (h3 : Ed.length ≤ 1048576) (h4 : St'.length ≤ 1048576) (h5 : Fi'.length ≤ 1048576) (h6 : Ed'.length ≤ 1048576) : LenA (uniAns n m n' m' St Fi Ed St' Fi' Ed') := by
  have t1 := riseL_len St
  have t2 := riseL_len Fi
  have t3 := riseE_len Ed
  have t4 := riseL_len St'
  have t5 := riseL_len Fi'
  have t6 := riseE_len Ed'
  unfold uniAns
  by_cases em : unErr n m n' m' St Fi Ed St' Fi' Ed' = 0
  · rw [if_pos em]; exact ⟨by simp only [List.length_append, shL, List.length_map]; omega, by simp only [List.length_append, shL, List.length_map]; omega, by simp only [List.length_append, shEs, List.length_map]; omega⟩
  · rw [if_neg em]; exact lenA_bad _
theorem wid_len (n m k : Int) (St Fi To : List Int) (Ed : List EdT) (h1 : St.length ≤ 1048576) (h2 : Fi.length ≤ 1048576) (h3 : Ed.length ≤ 1048576) : LenA (widAns n m k St Fi To Ed) := by
  have t1 := riseL_len St
  have t2 := riseL_len Fi
  have t3 := riseE_len (rlEs To Ed)
  simp only [rlEs, List.length_map] at t3
  unfold widAns
  by_cases em : mayA n m St Fi Ed = true
  · rw [if_pos em]
    by_cases ew : wideOk m k To = true
    · rw [if_pos ew]; exact ⟨by simp only; omega, by simp only; omega, by simp only [rlEs]; omega⟩
    · rw [if_neg ew]; exact lenA_bad _
  · rw [if_neg em]; exact lenA_bad _
end Go.Proofs.YtfoahpideglghaaGreatDoor
