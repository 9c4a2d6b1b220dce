import Derived.Test.YtfoahpideglghaaGreatDoorZN
import Derived.Test.YtfoahpideglghaaGreatDoorZG
import Derived.Test.YtfoahpideglghaaGreatDoorBW
import Derived.Test.YtfoahpideglghaaGreatDoorWS
namespace Go.Proofs.YtfoahpideglghaaGreatDoor
open Go.RowKit Go.Maps Go.Shelf
attribute [local go_sem] Oper.semAt_some

/-! ### The law's made -/
def g2 {α : Type} (p q : α) : Nat → α
  | 0 => p
  | _ => q
end Go.Proofs.YtfoahpideglghaaGreatDoor
namespace Go.Proofs.YtfoahpideglghaaGreatDoor
open Go.RowKit Go.Maps Go.Shelf
attribute [local go_sem] Oper.semAt_some

/-! ### The document's Widen -/
end Go.Proofs.YtfoahpideglghaaGreatDoor
namespace Go.Proofs.YtfoahpideglghaaGreatDoor
open Go.RowKit Go.Maps Go.Shelf

/-! ### What the constructions answer -/
structure Ans where
  n : Int
  m : Int
  s : List Int
  f : List Int
  e : List EdT
  er : Int
def badA (er : Int) : Ans := ⟨0, 0, [], [], [], er⟩
theorem Own.o {B : Nat} {w : World} {g1 k1 g2 k2 g3 k3 : Nat} {S F : List Int} {E : List EdT} (h : Own B w g1 k1 g2 k2 g3 k3 S F E) : OwnO B w (.slice (some ⟨g1, 0, none⟩) S.length k1) (.slice (some ⟨g2, 0, none⟩) F.length k2) (.slice (some ⟨g3, 0, none⟩) E.length k3) S F E :=
  ⟨h.s, h.f, h.e, fun g q q' => h.n12 (by simp only [Value.ownBlock, Option.some.injEq] at q q'; rw [q, q'])⟩
/-- The program's answer: lists of its own. -/
def AnsO (w : World) (r : Ans) (e : Ending) (w' : World) : Prop := ∃ b1 k1 b2 k2 b3 k3, e = .returned (.tuple #[.agg #[.int .i64 r.n, .int .i64 r.m, .slice b1 r.s.length k1, .slice b2 r.f.length k2, .slice b3 r.e.length k3], .int .i64 r.er]) ∧ Hid (OwnO w.heap.size w' (.slice b1 r.s.length k1) (.slice b2 r.f.length k2) (.slice b3 r.e.length k3) r.s r.f r.e) ∧ Below w.heap.size w w'
/-- The document's answer: lists in new memory. -/
def AnsR (w : World) (r : Ans) (e : Ending) (w' : World) : Prop := ∃ b1 k1 b2 k2 b3 k3, e = .returned (.tuple #[.agg #[.int .i64 r.n, .int .i64 r.m, .slice b1 r.s.length k1, .slice b2 r.f.length k2, .slice b3 r.e.length k3], .int .i64 r.er]) ∧ Hid (OwnD w.heap.size w' (.slice b1 r.s.length k1) (.slice b2 r.f.length k2) (.slice b3 r.e.length k3) r.s r.f r.e) ∧ Below w.heap.size w w'
theorem ansO_bad {w w' : World} {er : Int} {e : Ending} (he : e = .returned (.tuple #[.agg #[.int .i64 0, .int .i64 0, .slice none 0 0, .slice none 0 0, .slice none 0 0], .int .i64 er])) (d : Below w.heap.size w w') : AnsO w (badA er) e w' :=
  ⟨none, 0, none, 0, none, 0, he, hide ⟨⟨rfl, .inl ⟨rfl, rfl⟩⟩, ⟨rfl, .inl ⟨rfl, rfl⟩⟩, ⟨rfl, .inl ⟨rfl, rfl⟩⟩, fun g q => by cases q⟩, d⟩
theorem AnsO.r {w w' : World} {r : Ans} {e : Ending} (h : AnsO w r e w') : AnsR w r e w' := by
  obtain ⟨b1, k1, b2, k2, b3, k3, he, ho, d⟩ := h
  exact ⟨b1, k1, b2, k2, b3, k3, he, hide ⟨ho.out.s, ho.out.f, ho.out.e⟩, d⟩
def normAns (n m : Int) (St Fi : List Int) (Ed : List EdT) : Ans := if mayA n m St Fi Ed = true then ⟨n, m, riseL St, riseL Fi, riseE Ed, 0⟩ else badA 2
theorem normal_ans (w : World) (n m : Int) (a1 a2 a3 : Option Addr) (c1 c2 c3 : Nat) (St Fi : List Int) (Ed : List EdT) (hA : Hid (RdA w a1 a2 a3 St Fi Ed)) (h1 : St.length ≤ 4194304) (h2 : Fi.length ≤ 4194304) (h3 : Ed.length ≤ 4194304) : Calls Tryz.prog 21 #[.agg #[.int .i64 n, .int .i64 m, .slice a1 St.length c1, .slice a2 Fi.length c2, .slice a3 Ed.length c3]] w (AnsO w (normAns n m St Fi Ed)) := by
  unfold normAns
  by_cases em : mayA n m St Fi Ed = true
  · rw [if_pos em]
    exact (normal_ok w n m a1 a2 a3 c1 c2 c3 St Fi Ed hA h1 h2 h3 em).mono fun e w' ⟨g1, k1, g2, k2, g3, k3, he, ho, d⟩ => ⟨_, k1, _, k2, _, k3, he, hide ho.o, d⟩
  · rw [if_neg em]
    exact (normal_bad w n m a1 a2 a3 c1 c2 c3 St Fi Ed hA h1 h2 h3 (by simpa using em)).mono fun e w' ⟨he, d⟩ => ansO_bad he d
theorem rnormal_ans (w : World) (n m : Int) (a1 a2 a3 : Option Addr) (c1 c2 c3 : Nat) (St Fi : List Int) (Ed : List EdT) (hA : Hid (RdA w a1 a2 a3 St Fi Ed)) (h1 : St.length ≤ 4194304) (h2 : Fi.length ≤ 4194304) (h3 : Ed.length ≤ 4194304) (hc : Ed.length ≤ c3) : Calls Tryz.prog 32 #[.agg #[.int .i64 n, .int .i64 m, .slice a1 St.length c1, .slice a2 Fi.length c2, .slice a3 Ed.length c3]] w (AnsR w (normAns n m St Fi Ed)) := by
  unfold normAns
  by_cases em : mayA n m St Fi Ed = true
  · rw [if_pos em]
    exact (rnormal_ok w n m a1 a2 a3 c1 c2 c3 St Fi Ed hA h1 h2 h3 hc em).mono fun e w' ⟨g1, k1, g2, k2, g3, k3, he, ho, d⟩ => ⟨_, k1, _, k2, _, k3, he, hide ⟨ho.out.s, ho.out.f, ho.out.e⟩, d⟩
  · rw [if_neg em]
    exact (rnormal_bad w n m a1 a2 a3 c1 c2 c3 St Fi Ed hA h1 h2 h3 (by simpa using em)).mono fun e w' ⟨he, d⟩ => (ansO_bad he d).r
end Go.Proofs.YtfoahpideglghaaGreatDoor
namespace Go.Proofs.YtfoahpideglghaaGreatDoor
open Go.RowKit Go.Maps Go.Shelf

/-! ### Answers that lie apart -/
/-- The blocks of three rows. -/
def In3 (x1 x2 x3 : Value) (b : Nat) : Prop := x1.ownBlock = some b ∨ x2.ownBlock = some b ∨ x3.ownBlock = some b
theorem OwnO.d {B : Nat} {W : World} {x1 x2 x3 : Value} {S F : List Int} {E : List EdT} (h : OwnO B W x1 x2 x3 S F E) : OwnD B W x1 x2 x3 S F E := ⟨h.s, h.f, h.e⟩
theorem OwnD.lt {B : Nat} {W : World} {x1 x2 x3 : Value} {S F : List Int} {E : List EdT} (h : OwnD B W x1 x2 x3 S F E) (b : Nat) (hb : In3 x1 x2 x3 b) : B ≤ b ∧ b < W.heap.size := by
  rcases hb with q | q | q
  · exact h.s.lt b q
  · exact h.f.lt b q
  · exact h.e.lt b q
theorem OwnD.on {B : Nat} {W W' : World} {x1 x2 x3 : Value} {S F : List Int} {E : List EdT} (h : OwnD B W x1 x2 x3 S F E) (d : Below W.heap.size W W') : OwnD B W' x1 x2 x3 S F E := ⟨own_below h.s d, own_below h.f d, own_below h.e d⟩
theorem OwnD.only {B : Nat} {W W' : World} {R : Nat → Prop} {x1 x2 x3 : Value} {S F : List Int} {E : List EdT} (h : OwnD B W x1 x2 x3 S F E) (o : Only W W' R) (hn : ∀ b, In3 x1 x2 x3 b → ¬ R b) : OwnD B W' x1 x2 x3 S F E :=
  ⟨row_only h.s o fun b q => hn b (Or.inl q), row_only h.f o fun b q => hn b (Or.inr (Or.inl q)), row_only h.e o fun b q => hn b (Or.inr (Or.inr q))⟩
theorem OwnO.only {B : Nat} {W W' : World} {R : Nat → Prop} {x1 x2 x3 : Value} {S F : List Int} {E : List EdT} (h : OwnO B W x1 x2 x3 S F E) (o : Only W W' R) (hn : ∀ b, In3 x1 x2 x3 b → ¬ R b) : OwnO B W' x1 x2 x3 S F E :=
  have k := h.d.only o hn
  ⟨k.s, k.f, k.e, h.ne⟩
end Go.Proofs.YtfoahpideglghaaGreatDoor
namespace Go.Proofs.YtfoahpideglghaaGreatDoor
open Go.RowKit Go.Maps Go.Shelf

theorem OwnD.keep {B p : Nat} {w w' : World} {v1 v2 v3 : Value} {S F : List Int} {E : List EdT} {cs : Array Value} (h : OwnD B w v1 v2 v3 S F E) (z : w.heap[p]? = some (.cells cs 25 (0, 0))) (o : Only w w' (fun k => k = p)) : OwnD B w' v1 v2 v3 S F E := ⟨own_keep h.s z (by decide) o, own_keep h.f z (by decide) o, own_keep h.e z (by decide) o⟩
theorem mk_onlyR {B : Nat} {w w' : World} {R : Nat → Prop} {g c : Nat} {L : List Int} (h : Mk B w g c L) (o : Only w w' R) (hn : ¬ R g) : Mk B w' g c L := ⟨h.le, row_only h.rw o (fun k q => by cases q; exact hn)⟩
theorem mkE_onlyR {B : Nat} {w w' : World} {R : Nat → Prop} {g c : Nat} {L : List EdT} (h : MkE B w g c L) (o : Only w w' R) (hn : ¬ R g) : MkE B w' g c L := ⟨h.le, row_only h.rw o (fun k q => by cases q; exact hn)⟩
theorem twA_onlyR {B : Nat} {w w' : World} {R : Nat → Prop} {g1 k1 g2 k2 g3 k3 : Nat} {S F : List Int} {E : List EdT} (h : TwA B w g1 k1 g2 k2 g3 k3 S F E) (o : Only w w' R) (h1 : ¬ R g1) (h2 : ¬ R g2) (h3 : ¬ R g3) : TwA B w' g1 k1 g2 k2 g3 k3 S F E :=
  ⟨mk_onlyR h.s o h1, mk_onlyR h.f o h2, mkE_onlyR h.e o h3, h.n12, h.n13, h.n23⟩
end Go.Proofs.YtfoahpideglghaaGreatDoor
