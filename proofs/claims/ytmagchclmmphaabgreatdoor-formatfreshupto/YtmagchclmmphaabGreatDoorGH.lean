import Derived.Test.YtmagchclmmphaabGreatDoorGe
import Derived.Test.YtmagchclmmphaabGreatDoorBM
import Derived.Test.YtmagchclmmphaabGreatDoorPD
import Derived.Test.YtmagchclmmphaabGreatDoorFS
import Derived.Test.YtmagchclmmphaabGreatDoorFE
import Derived.Test.YtmagchclmmphaabGreatDoorRJ
namespace Go.Proofs.YtmagchclmmphaabGreatDoor
open Go.RowKit Go.Maps

/-! ### Answers: rows of their own, and what they read -/
theorem RdO.only {W W' : World} {ao : Option Addr} {n c : Nat} {L : List OpI} {M : Nat → Prop} (h : RdO W ao L) (o : Only W W' M) (hn : ∀ k, (Value.slice ao n c).ownBlock = some k → ¬ M k) : RdO W' ao L := fun j hj => by
  obtain ⟨g, f, rfl, c1, c2⟩ := h j hj
  have hb := o.block g (World.block_lt_of_cell? W _ c1) (hn g rfl)
  exact ⟨g, f, rfl, (World.cell?_of_block (w := W) hb).trans c1, (World.cell?_of_block (w := W) hb).trans c2⟩
theorem RdRu.only {W W' : World} {ao : Option Addr} {n c : Nat} {L : List RuT} {M : Nat → Prop} (h : RdRu W ao L) (o : Only W W' M) (hn : ∀ k, (Value.slice ao n c).ownBlock = some k → ¬ M k) : RdRu W' ao L := fun j hj => by
  obtain ⟨g, f, rfl, c1, c2, c3⟩ := h j hj
  have hb := o.block g (World.block_lt_of_cell? W _ c1) (hn g rfl)
  exact ⟨g, f, rfl, (World.cell?_of_block (w := W) hb).trans c1, (World.cell?_of_block (w := W) hb).trans c2, (World.cell?_of_block (w := W) hb).trans c3⟩
theorem RdE.only {W W' : World} {ao : Option Addr} {n c : Nat} {L : List EdT} {M : Nat → Prop} (h : RdE W ao L) (o : Only W W' M) (hn : ∀ k, (Value.slice ao n c).ownBlock = some k → ¬ M k) : RdE W' ao L := fun j hj => by
  obtain ⟨g, f, rfl, c1, c2, c3⟩ := h j hj
  have hb := o.block g (World.block_lt_of_cell? W _ c1) (hn g rfl)
  exact ⟨g, f, rfl, (World.cell?_of_block (w := W) hb).trans c1, (World.cell?_of_block (w := W) hb).trans c2, (World.cell?_of_block (w := W) hb).trans c3⟩
theorem RdN.only {W W' : World} {ao : Option Addr} {n c : Nat} {L : List Int} {M : Nat → Prop} (h : RdN W ao L) (o : Only W W' M) (hn : ∀ k, (Value.slice ao n c).ownBlock = some k → ¬ M k) : RdN W' ao L := fun j hj => by
  obtain ⟨g, f, rfl, c1⟩ := h j hj
  exact ⟨g, f, rfl, (World.cell?_of_block (w := W) (o.block g (World.block_lt_of_cell? W _ c1) (hn g rfl))).trans c1⟩
theorem ReadsS.only {W W' : World} {ao : Option Addr} {n c : Nat} {L : List ByteArray} {M : Nat → Prop} (h : ReadsS W ao L) (o : Only W W' M) (hn : ∀ k, (Value.slice ao n c).ownBlock = some k → ¬ M k) : ReadsS W' ao L := fun j hj => by
  obtain ⟨g, f, rfl, c1⟩ := h j hj
  exact ⟨g, f, rfl, (World.cell?_of_block (w := W) (o.block g (World.block_lt_of_cell? W _ c1) (hn g rfl))).trans c1⟩
theorem TwA.only {W W' : World} {b1 b2 b3 : Nat} {St Fi : List Int} {Ed : List EdT} {M : Nat → Prop} (h : TwA W b1 b2 b3 St Fi Ed) (o : Only W W' M) (h1 : ¬ M b1) (h2 : ¬ M b2) (h3 : ¬ M b3) : TwA W' b1 b2 b3 St Fi Ed := ⟨h.s.only o h1, h.f.only o h2, h.e.only o h3, h.ne⟩
/-- A content. -/
structure FlA (B H : Nat) (W : World) (O : List OpI) (S F : List ByteArray) (R : List RuT) (q1 q2 q3 q4 : Option Addr) (t1 t2 t3 t4 : Nat) : Prop where
  o : ∃ x, W.ownsRow B 66 2 (.slice q1 O.length t1) O.length x
  s : W.ownsRow B 9 1 (.slice q2 S.length t2) S.length (strV S)
  f : ∃ x, W.ownsRow B 9 1 (.slice q3 F.length t3) F.length x
  r : ∃ x, W.ownsRow B 68 3 (.slice q4 R.length t4) R.length x
  ne : ∀ b, (Value.slice q2 S.length t2).ownBlock = some b → (Value.slice q3 F.length t3).ownBlock ≠ some b
  ro : RdO W q1 O
  rs : ReadsS W q2 S
  rf : ReadsS W q3 F
  rr : RdRu W q4 R
  hi : ∀ i, i < 4 → ∀ k, ((g4 (Value.slice q1 O.length t1) (.slice q2 S.length t2) (.slice q3 F.length t3) (.slice q4 R.length t4)) i).ownBlock = some k → B ≤ k ∧ k < H
theorem FlA.only {B H : Nat} {W W' : World} {O : List OpI} {S F : List ByteArray} {R : List RuT} {q1 q2 q3 q4 : Option Addr} {t1 t2 t3 t4 : Nat} {M : Nat → Prop} (h : FlA B H W O S F R q1 q2 q3 q4 t1 t2 t3 t4) (o : Only W W' M) (hn : ∀ k, B ≤ k → k < H → ¬ M k) : FlA B H W' O S F R q1 q2 q3 q4 t1 t2 t3 t4 := by
  have n : ∀ i, i < 4 → ∀ k, ((g4 (Value.slice q1 O.length t1) (.slice q2 S.length t2) (.slice q3 F.length t3) (.slice q4 R.length t4)) i).ownBlock = some k → ¬ M k := fun i hi k q => hn k (h.hi i hi k q).1 (h.hi i hi k q).2
  obtain ⟨x1, h1⟩ := h.o
  obtain ⟨x3, h3⟩ := h.f
  obtain ⟨x4, h4⟩ := h.r
  exact ⟨⟨x1, row_only h1 o (n 0 (by omega))⟩, row_only h.s o (n 1 (by omega)), ⟨x3, row_only h3 o (n 2 (by omega))⟩, ⟨x4, row_only h4 o (n 3 (by omega))⟩, h.ne, h.ro.only o (n 0 (by omega)), h.rs.only o (n 1 (by omega)), h.rf.only o (n 2 (by omega)), h.rr.only o (n 3 (by omega)), h.hi⟩
theorem FlA.below {B H : Nat} {W W' : World} {O : List OpI} {S F : List ByteArray} {R : List RuT} {q1 q2 q3 q4 : Option Addr} {t1 t2 t3 t4 : Nat} (h : FlA B H W O S F R q1 q2 q3 q4 t1 t2 t3 t4) (d : Below W.heap.size W W') : FlA B H W' O S F R q1 q2 q3 q4 t1 t2 t3 t4 := h.only (Only.ofBelow (R := fun _ => False) d) fun _ _ _ z => z
theorem FlA.of {B : Nat} {W : World} {O : List OpI} {S F : List ByteArray} {R : List RuT} {q1 q2 q3 q4 : Option Addr} {t1 t2 t3 t4 : Nat} {x1 x3 x4 : List Value} (h1 : W.ownsRow B 66 2 (.slice q1 O.length t1) O.length x1) (h2 : W.ownsRow B 9 1 (.slice q2 S.length t2) S.length (strV S)) (h3 : W.ownsRow B 9 1 (.slice q3 F.length t3) F.length x3) (h4 : W.ownsRow B 68 3 (.slice q4 R.length t4) R.length x4) (hne : ∀ b, (Value.slice q2 S.length t2).ownBlock = some b → (Value.slice q3 F.length t3).ownBlock ≠ some b) (ro : RdO W q1 O) (rs : ReadsS W q2 S) (rf : ReadsS W q3 F) (rr : RdRu W q4 R) : FlA B W.heap.size W O S F R q1 q2 q3 q4 t1 t2 t3 t4 :=
  ⟨⟨_, h1⟩, h2, ⟨_, h3⟩, ⟨_, h4⟩, hne, ro, rs, rf, rr, fun i hi k q => by
    match i, hi, q with
    | 0, _, q => exact h1.lt k q
    | 1, _, q => exact h2.lt k q
    | 2, _, q => exact h3.lt k q
    | 3, _, q => exact h4.lt k q⟩
theorem FlA.ofFr {w W : World} {V : FrV} {q1 q2 q3 q4 : Option Addr} {t1 t2 t3 t4 : Nat} (h : FrO w W V (.slice q1 V.O.length t1) (.slice q2 V.S.length t2) (.slice q3 V.F.length t3) (.slice q4 V.R.length t4)) : FlA w.heap.size W.heap.size W (V.O.map opOI) V.S V.F V.R q1 q2 q3 q4 t1 t2 t3 t4 := by
  obtain ⟨_, _, _, _, _, _, _, _, e1, e2, e3, e4, hr⟩ := h.reads
  cases e1
  cases e2
  cases e3
  cases e4
  exact FlA.of (by rw [List.length_map]; exact h.o) h.s h.f h.r h.ne hr.o hr.s hr.f hr.r
theorem parse_own (s : ByteArray) (w : World) (hT : Hid (RowsAt w ∧ BytesAt w ∧ 1 < w.heap.size)) (hsz : s.size ≤ 129999999) (he : errF s = 0) :
    Calls Tryz.prog 13 #[.string s] w fun e w' => ∃ ao asx an ar co cs cn cr, e = .returned (.tuple #[.agg #[.string (tT s), .slice ao (oT s).length co, .slice asx (sT s).length cs, .slice an (fT s).length cn, .slice ar (rT s).length cr], .agg #[.int .i64 0, .int .i64 0]]) ∧ FlA w.heap.size w'.heap.size w' (oT s) (sT s) (fT s) (rT s) ao asx an ar co cs cn cr ∧ Below w.heap.size w w' := by
  refine (parse_ok s w hT hsz he).mono ?_
  rintro e w1 ⟨vo, vs, vn, vr, rfl, ro, rs, rn, rr, rd, d1⟩
  have hf : (finN (contF s)).length = (namesAt (finN (contF s)) (contF s).S).length := by simp [namesAt]
  rw [hf] at rn
  rw [text_cells] at rs
  obtain ⟨ao, co, rfl, qo⟩ := rdO_of ro
  obtain ⟨asx, cs, rfl, qs⟩ := rdS_of rs
  obtain ⟨an, cn, rfl, qn⟩ := rdS_of rn
  obtain ⟨ar, cr, rfl, qr⟩ := rdR_of rr
  have hl : (oT s).length = (contF s).O.length := by unfold oT; rw [List.length_map]
  refine ⟨ao, asx, an, ar, co, cs, cn, cr, ?_, FlA.of (by rw [hl]; exact ro) rs rn rr (fun b q q' => rd (q.trans q'.symm)) qo qs qn qr, d1⟩
  rw [hl]
  rfl
theorem grown_fl {B H : Nat} {W : World} {O : List OpI} {S F : List ByteArray} {R : List RuT} {q1 q2 q3 q4 : Option Addr} {t1 t2 t3 t4 : Nat} (ti : ByteArray) (h : FlA B H W O S F R q1 q2 q3 q4 t1 t2 t3 t4) (h1 : O.length ≤ 1048576) (h2 : S.length ≤ 1048576) (h3 : F.length ≤ 1048576) (h4 : R.length ≤ 1048576) :
    Calls Tryz.prog 29 #[.agg #[.string ti, .slice q1 O.length t1, .slice q2 S.length t2, .slice q3 F.length t3, .slice q4 R.length t4]] W fun e w' => e = .returned (.bool true) ∧ Only W w' (fun k => B ≤ k ∧ k < H) := by
  obtain ⟨x1, k1⟩ := h.o
  obtain ⟨x3, k3⟩ := h.f
  obtain ⟨x4, k4⟩ := h.r
  refine (grown_any W ti q1 q2 q3 q4 O.length S.length F.length R.length t1 t2 t3 t4 x1 x3 x4 S (hide ⟨own_wide k1 (Nat.zero_le _), own_wide h.s (Nat.zero_le _), own_wide k3 (Nat.zero_le _), own_wide k4 (Nat.zero_le _)⟩) (hide h.ne) h1 h2 h3 h4).mono ?_
  rintro e w' ⟨rfl, o⟩
  exact ⟨rfl, o.mono fun k _ ⟨i, hi, q⟩ => h.hi i hi k q⟩
/-- An automaton with its names. -/
structure AuA (B H : Nat) (W : World) (V : AuV) (p1 p2 p3 p4 p5 : Option Addr) (u1 u2 u3 u4 u5 : Nat) : Prop where
  o1 : ∃ x, W.ownsRow B 3 1 (.slice p1 V.St.length u1) V.St.length x
  o2 : ∃ x, W.ownsRow B 3 1 (.slice p2 V.Fi.length u2) V.Fi.length x
  o3 : ∃ x, W.ownsRow B 64 3 (.slice p3 V.Ed.length u3) V.Ed.length x
  o4 : ∃ x, W.ownsRow B 9 1 (.slice p4 V.Sx.length u4) V.Sx.length x
  o5 : ∃ x, W.ownsRow B 9 1 (.slice p5 V.Yx.length u5) V.Yx.length x
  ne1 : ∀ b, (Value.slice p4 V.Sx.length u4).ownBlock = some b → (Value.slice p5 V.Yx.length u5).ownBlock ≠ some b
  ne2 : ∀ b, (Value.slice p1 V.St.length u1).ownBlock = some b → (Value.slice p2 V.Fi.length u2).ownBlock ≠ some b
  rd : AnR W V p1 p2 p3 p4 p5
  hi : ∀ i, i < 5 → ∀ k, ((g5 (Value.slice p4 V.Sx.length u4) (.slice p5 V.Yx.length u5) (.slice p1 V.St.length u1) (.slice p2 V.Fi.length u2) (.slice p3 V.Ed.length u3)) i).ownBlock = some k → B ≤ k ∧ k < H
theorem AuA.only {B H : Nat} {W W' : World} {V : AuV} {p1 p2 p3 p4 p5 : Option Addr} {u1 u2 u3 u4 u5 : Nat} {M : Nat → Prop} (h : AuA B H W V p1 p2 p3 p4 p5 u1 u2 u3 u4 u5) (o : Only W W' M) (hn : ∀ k, B ≤ k → k < H → ¬ M k) : AuA B H W' V p1 p2 p3 p4 p5 u1 u2 u3 u4 u5 := by
  have n : ∀ i, i < 5 → ∀ k, ((g5 (Value.slice p4 V.Sx.length u4) (.slice p5 V.Yx.length u5) (.slice p1 V.St.length u1) (.slice p2 V.Fi.length u2) (.slice p3 V.Ed.length u3)) i).ownBlock = some k → ¬ M k := fun i hi k q => hn k (h.hi i hi k q).1 (h.hi i hi k q).2
  obtain ⟨x1, h1⟩ := h.o1
  obtain ⟨x2, h2⟩ := h.o2
  obtain ⟨x3, h3⟩ := h.o3
  obtain ⟨x4, h4⟩ := h.o4
  obtain ⟨x5, h5⟩ := h.o5
  exact ⟨⟨x1, row_only h1 o (n 2 (by omega))⟩, ⟨x2, row_only h2 o (n 3 (by omega))⟩, ⟨x3, row_only h3 o (n 4 (by omega))⟩, ⟨x4, row_only h4 o (n 0 (by omega))⟩, ⟨x5, row_only h5 o (n 1 (by omega))⟩, h.ne1, h.ne2, ⟨h.rd.r1.only o (n 2 (by omega)), h.rd.r2.only o (n 3 (by omega)), h.rd.r3.only o (n 4 (by omega)), h.rd.r4.only o (n 0 (by omega)), h.rd.r5.only o (n 1 (by omega))⟩, h.hi⟩
theorem AuA.below {B H : Nat} {W W' : World} {V : AuV} {p1 p2 p3 p4 p5 : Option Addr} {u1 u2 u3 u4 u5 : Nat} (h : AuA B H W V p1 p2 p3 p4 p5 u1 u2 u3 u4 u5) (d : Below W.heap.size W W') : AuA B H W' V p1 p2 p3 p4 p5 u1 u2 u3 u4 u5 := h.only (Only.ofBelow (R := fun _ => False) d) fun _ _ _ z => z
def AuE (w w' : World) (V : AuV) (e : Ending) : Prop := ∃ p1 p2 p3 p4 p5 u1 u2 u3 u4 u5, e = .returned (.tuple #[.agg #[.int .i64 (V.n : Nat), .int .i64 (V.m : Nat), .slice p1 V.St.length u1, .slice p2 V.Fi.length u2, .slice p3 V.Ed.length u3], .slice p4 V.Sx.length u4, .slice p5 V.Yx.length u5, .int .i64 (V.er : Nat)]) ∧ AuA w.heap.size w'.heap.size w' V p1 p2 p3 p4 p5 u1 u2 u3 u4 u5 ∧ Below w.heap.size w w'
theorem AuE.of {w w' : World} {v1 v2 v3 vs vy : Value} {St Fi : List Int} {Ed : List EdT} {S Y : List ByteArray} {n m : Nat} (h : AtR w w' v1 v2 v3 St Fi Ed) (hs : w'.ownsRow w.heap.size 9 1 vs S.length (strV S)) (hy : w'.ownsRow w.heap.size 9 1 vy Y.length (strV Y)) (hne : ∀ k, vs.ownBlock = some k → vy.ownBlock ≠ some k) :
    AuE w w' ⟨n, m, St, Fi, Ed, S, Y, 0⟩ (.returned (.tuple #[.agg #[.int .i64 (n : Nat), .int .i64 (m : Nat), v1, v2, v3], vs, vy, .int .i64 0])) := by
  obtain ⟨a1, c1, rfl, h1⟩ := rdN_of h.o1
  obtain ⟨a2, c2, rfl, h2⟩ := rdN_of h.o2
  obtain ⟨a3, c3, rfl, h3⟩ := rdE_of h.o3
  obtain ⟨a4, c4, rfl, h4⟩ := rdS_of hs
  obtain ⟨a5, c5, rfl, h5⟩ := rdS_of hy
  refine ⟨a1, a2, a3, a4, a5, c1, c2, c3, c4, c5, rfl, ⟨⟨_, h.o1⟩, ⟨_, h.o2⟩, ⟨_, h.o3⟩, ⟨_, hs⟩, ⟨_, hy⟩, hne, h.a12, ⟨h1, h2, h3, h4, h5⟩, fun i hi k q => ?_⟩, h.dw⟩
  match i, hi, q with
  | 0, _, q => exact hs.lt k q
  | 1, _, q => exact hy.lt k q
  | 2, _, q => exact h.o1.lt k q
  | 3, _, q => exact h.o2.lt k q
  | 4, _, q => exact h.o3.lt k q
theorem auto_own (w : World) (ti : ByteArray) (ao asx af ar : Option Addr) (co cs cf cr : Nat) (O : List OpI) (S F : List ByteArray) (R : List RuT) (hT : Hid (BytesAt w ∧ 1 < w.heap.size)) (hO : Hid (RdO w ao O)) (hS : Hid (ReadsS w asx S)) (hF : Hid (ReadsS w af F)) (hR : Hid (RdRu w ar R))
    (hok : Hid ((∀ x ∈ F, kText.ok x) ∧ ∀ x ∈ R, kRules.ok x)) (hlo : O.length ≤ 4194304) (hls : S.length ≤ 4194304) (hlf : F.length ≤ 4194304) (hlr : R.length ≤ 4194304) (hv : valF ti O S F R = true) (hb : ¬ bigF O S R) :
    Calls Tryz.prog 14 #[.agg #[.string ti, .slice ao O.length co, .slice asx S.length cs, .slice af F.length cf, .slice ar R.length cr]] w fun e w' => AuE w w' (auV ti O S F R) e := by
  unfold auV
  rw [if_neg (by rw [hv]; simp), if_neg hb]
  refine (auto_ok2 w ti ao asx af ar co cs cf cr O S F R hT hO hS hF hR hok hlo hls hlf hlr hv hb).mono ?_
  rintro e w' ⟨v1, v2, v3, vs, vy, rfl, h1, h2, h3, h4⟩
  exact AuE.of h1 h2 h3 h4
theorem grownA_fl {B H : Nat} {W : World} {V : AuV} {p1 p2 p3 p4 p5 : Option Addr} {u1 u2 u3 u4 u5 : Nat} (nn mm : Int) (h : AuA B H W V p1 p2 p3 p4 p5 u1 u2 u3 u4 u5) (h1 : V.St.length ≤ 1048576) (h2 : V.Fi.length ≤ 1048576) (h3 : V.Ed.length ≤ 1048576) (h4 : V.Sx.length ≤ 1048576) (h5 : V.Yx.length ≤ 1048576) :
    Calls Tryz.prog 28 #[.agg #[.int .i64 nn, .int .i64 mm, .slice p1 V.St.length u1, .slice p2 V.Fi.length u2, .slice p3 V.Ed.length u3], .slice p4 V.Sx.length u4, .slice p5 V.Yx.length u5] W fun e w' => e = .returned (.bool true) ∧ Only W w' (fun k => B ≤ k ∧ k < H) := by
  obtain ⟨x1, k1⟩ := h.o1
  obtain ⟨x2, k2⟩ := h.o2
  obtain ⟨x3, k3⟩ := h.o3
  obtain ⟨x4, k4⟩ := h.o4
  obtain ⟨x5, k5⟩ := h.o5
  refine (grownA_any W nn mm p4 p5 p1 p2 p3 V.Sx.length V.Yx.length V.St.length V.Fi.length V.Ed.length u4 u5 u1 u2 u3 x4 x5 x1 x2 x3 (hide ⟨own_wide k4 (Nat.zero_le _), own_wide k5 (Nat.zero_le _), own_wide k1 (Nat.zero_le _), own_wide k2 (Nat.zero_le _), own_wide k3 (Nat.zero_le _)⟩) (hide ⟨h.ne1, h.ne2⟩) h4 h5 h1 h2 h3).mono ?_
  rintro e w' ⟨rfl, o⟩
  exact ⟨rfl, o.mono fun k _ ⟨i, hi, q⟩ => h.hi i hi k q⟩
theorem own_any (p : Option Addr) (n c n' c' : Nat) : (Value.slice p n c).ownBlock = (Value.slice p n' c').ownBlock := by cases p <;> rfl
/-- What the document says of a content: read only, but newer than all before. -/
structure AnB (B : Nat) (W : World) (V : AuV) (p1 p2 p3 : Option Addr) : Prop where
  r1 : RdN W p1 V.St
  r2 : RdN W p2 V.Fi
  r3 : RdE W p3 V.Ed
  n1 : ∀ k, (Value.slice p1 0 0).ownBlock = some k → B ≤ k
  n2 : ∀ k, (Value.slice p2 0 0).ownBlock = some k → B ≤ k
  n3 : ∀ k, (Value.slice p3 0 0).ownBlock = some k → B ≤ k
theorem AnB.only {B : Nat} {W W' : World} {V : AuV} {p1 p2 p3 : Option Addr} {M : Nat → Prop} (h : AnB B W V p1 p2 p3) (o : Only W W' M) (hn : ∀ k, B ≤ k → ¬ M k) : AnB B W' V p1 p2 p3 :=
  ⟨h.r1.only (n := 0) (c := 0) o fun k q => hn k (h.n1 k q), h.r2.only (n := 0) (c := 0) o fun k q => hn k (h.n2 k q), h.r3.only (n := 0) (c := 0) o fun k q => hn k (h.n3 k q), h.n1, h.n2, h.n3⟩
theorem AnB.below {B : Nat} {W W' : World} {V : AuV} {p1 p2 p3 : Option Addr} (h : AnB B W V p1 p2 p3) (d : Below W.heap.size W W') : AnB B W' V p1 p2 p3 := h.only (Only.ofBelow (R := fun _ => False) d) fun _ _ z => z
theorem rauto_own (w : World) (ti : ByteArray) (ao asx af ar : Option Addr) (co cs cf cr : Nat) (O : List OpI) (S F : List ByteArray) (R : List RuT) (hO : Hid (RdO w ao O)) (hS : Hid (ReadsS w asx S)) (hF : Hid (ReadsS w af F)) (hR : Hid (RdRu w ar R))
    (hlo : O.length ≤ 4194304) (hls : S.length ≤ 4194304) (hlf : F.length ≤ 4194304) (hlr : R.length ≤ 4194304) (hco : Hid (O.length ≤ co)) (hcs : Hid (S.length ≤ cs)) (hv : valF ti O S F R = true) (hb : ¬ bigF O S R) :
    Calls Tryz.prog 27 #[.agg #[.string ti, .slice ao O.length co, .slice asx S.length cs, .slice af F.length cf, .slice ar R.length cr]] w fun e w' => ∃ p1 p2 p3 p4 p5 u1 u2 u3 u4 u5, e = .returned (.tuple #[.agg #[.int .i64 ((auV ti O S F R).n : Nat), .int .i64 ((auV ti O S F R).m : Nat), .slice p1 (auV ti O S F R).St.length u1, .slice p2 (auV ti O S F R).Fi.length u2, .slice p3 (auV ti O S F R).Ed.length u3], .slice p4 (auV ti O S F R).Sx.length u4, .slice p5 (auV ti O S F R).Yx.length u5, .int .i64 ((auV ti O S F R).er : Nat)]) ∧ AnB w.heap.size w' (auV ti O S F R) p1 p2 p3 ∧ Below w.heap.size w w' := by
  unfold auV
  rw [if_neg (by rw [hv]; simp), if_neg hb]
  refine (rauto_any w ti ao asx af ar co cs cf cr O S F R hO hS hF hR hlo hls hlf hlr hco hcs hv).mono ?_
  intro e w' h
  obtain ⟨v1, v2, v3, vs, vy, rfl, h1, h2, h3⟩ := h.2 hb
  obtain ⟨a1, c1, rfl, r1⟩ := rdN_of h1.o1
  obtain ⟨a2, c2, rfl, r2⟩ := rdN_of h1.o2
  obtain ⟨a3, c3, rfl, r3⟩ := rdE_of h1.o3
  obtain ⟨a4, c4, rfl, _⟩ := rdS_of h2
  obtain ⟨a5, c5, rfl, _⟩ := rdS_of h3
  exact ⟨a1, a2, a3, a4, a5, c1, c2, c3, c4, c5, rfl, ⟨r1, r2, r3, fun k q => (h1.o1.lt k ((own_any _ _ _ _ _).trans q)).1, fun k q => (h1.o2.lt k ((own_any _ _ _ _ _).trans q)).1, fun k q => (h1.o3.lt k ((own_any _ _ _ _ _).trans q)).1⟩, h1.dw⟩
end Go.Proofs.YtmagchclmmphaabGreatDoor
namespace Go.Proofs.YtmagchclmmphaabGreatDoor
open Go.RowKit Go.Maps
attribute [local go_sem] Oper.semAt_some

/-! ### FormatFresh -/
structure Bg (w W : World) (bx tw : Array Value) (bA b1 b2 b3 Hs Hl : Nat) (St Fi : List Int) (Ed : List EdT) (S Y : List ByteArray) : Prop where
  x : W.heap[w.heap.size]? = some (.cells bx 28 (0, 0))
  a : W.heap[bA]? = some (.cells tw 25 (0, 0))
  t : TwA W b1 b2 b3 St Fi Ed
  s : Mrw W Hs 9 (S.length + 64) (padV S) (S.length + 64)
  l : Mrw W Hl 9 (Y.length + 64) (padV Y) (Y.length + 64)
  d : Below w.heap.size w W
theorem Bg.below {w W W' : World} {bx tw : Array Value} {bA b1 b2 b3 Hs Hl : Nat} {St Fi : List Int} {Ed : List EdT} {S Y : List ByteArray} (h : Bg w W bx tw bA b1 b2 b3 Hs Hl St Fi Ed S Y) (d : Below W.heap.size W W') : Bg w W' bx tw bA b1 b2 b3 Hs Hl St Fi Ed S Y :=
  ⟨(d.block _ (Array.getElem?_eq_some_iff.1 h.x).1).trans h.x, (d.block _ (Array.getElem?_eq_some_iff.1 h.a).1).trans h.a, h.t.on d, h.s.below d h.s.lt, h.l.below d h.l.lt, h.d.trans (d.mono h.d.size)⟩
theorem blk_on {W W' : World} {g : Nat} {o : Obj} (h : W.heap[g]? = some o) (d : Below W.heap.size W W') : W'.heap[g]? = some o := (d.block _ (Array.getElem?_eq_some_iff.1 h).1).trans h
theorem ob_below {X W W' : World} {N : Nat → Prop} (o : Only X W N) (d : Below W.heap.size W W') : Only X W' N := o.trans (Only.ofBelow d)
theorem hd_trans {a b c : World} (h : Hid (Below a.heap.size a b)) (d : Below b.heap.size b c) : Below a.heap.size a c := h.out.trans (d.mono h.out.size)
set_option maxRecDepth 100000 in
set_option maxHeartbeats 16000000 in
theorem ffresh_any (w : World) (ti : ByteArray) (n m : Int) (St Fi : List Int) (Ed : List EdT) (S Y : List ByteArray) (a1 a2 a3 asx ay : Option Addr) (c1 c2 c3 cs cy : Nat) (hT : Hid (RowsAt w ∧ BytesAt w ∧ 1 < w.heap.size))
    (hA : Hid (RdN w a1 St ∧ RdN w a2 Fi ∧ RdE w a3 Ed ∧ ReadsS w asx S ∧ ReadsS w ay Y)) (hok : Hid (Sml S ∧ Sml Y)) (h1 : St.length ≤ 1048576) (h2 : Fi.length ≤ 1048576) (h3 : Ed.length ≤ 1048576) (hs : S.length ≤ 1048576) (hy : Y.length ≤ 1048576) :
    Calls Tryz.prog 6 #[.agg #[.int .i64 n, .int .i64 m, .slice a1 St.length c1, .slice a2 Fi.length c2, .slice a3 Ed.length c3, .slice asx S.length cs, .slice ay Y.length cy, .string ti]] w fun e w' => e = .returned (.bool true) ∧ Below w.heap.size w w' := by
  have KT : Hid (∀ W, Below w.heap.size w W → RowsAt W ∧ BytesAt W ∧ 1 < W.heap.size) := hide (fun W d => ⟨hT.out.1.below d hT.out.2.2, hT.out.2.1.below d hT.out.2.2, Nat.lt_of_lt_of_le hT.out.2.2 d.size⟩)
  have KA : Hid (∀ W, Below w.heap.size w W → RdN W a1 St ∧ RdN W a2 Fi ∧ RdE W a3 Ed ∧ ReadsS W asx S ∧ ReadsS W ay Y) := hide (fun W dd => ⟨hA.out.1.on dd, hA.out.2.1.on dd, hA.out.2.2.1.on dd, hA.out.2.2.2.1.below dd, hA.out.2.2.2.2.below dd⟩)
  obtain ⟨V, hV⟩ : ∃ V, frV ti n m St Fi Ed S Y = V := ⟨_, rfl⟩
  have HV := hide hV
  clear hV
  obtain ⟨O, hO⟩ : ∃ O, V.O.map opOI = O := ⟨_, rfl⟩
  obtain ⟨Sv, hSv⟩ : ∃ Sv, V.S = Sv := ⟨_, rfl⟩
  obtain ⟨F, hF⟩ : ∃ F, V.F = F := ⟨_, rfl⟩
  obtain ⟨R, hR⟩ : ∃ R, V.R = R := ⟨_, rfl⟩
  obtain ⟨tv, htv⟩ : ∃ tv, V.ti = tv := ⟨_, rfl⟩
  obtain ⟨er, her⟩ : ∃ er, V.er = er := ⟨_, rfl⟩
  have HE := hide (And.intro hO (And.intro hSv (And.intro hF (And.intro hR (And.intro htv her)))))
  clear hO hSv hF hR htv her
  have T7 : Hid (∀ W b1 b2 b3 Hs Hl, Below w.heap.size w W → TwA W b1 b2 b3 St Fi Ed → Mrw W Hs 9 (S.length + 64) (padV S) (S.length + 64) → Mrw W Hl 9 (Y.length + 64) (padV Y) (Y.length + 64) → Calls Tryz.prog 7 #[.agg #[.int .i64 n, .int .i64 m, .slice (some ⟨b1, 0, none⟩) St.length (St.length + 64), .slice (some ⟨b2, 0, none⟩) Fi.length (Fi.length + 64), .slice (some ⟨b3, 0, none⟩) Ed.length (Ed.length + 64)], .slice (some ⟨Hs, 0, none⟩) S.length (S.length + 64), .slice (some ⟨Hl, 0, none⟩) Y.length (Y.length + 64), .string ti] W fun e w' => ∃ q1 q2 q3 q4 t1 t2 t3 t4, e = .returned (.tuple #[.agg #[.string tv, .slice q1 O.length t1, .slice q2 Sv.length t2, .slice q3 F.length t3, .slice q4 R.length t4], .int .i64 (er : Nat)]) ∧ FlA W.heap.size w'.heap.size w' O Sv F R q1 q2 q3 q4 t1 t2 t3 t4 ∧ Below W.heap.size W w') := hide (fun W b1 b2 b3 Hs Hl d t1 t2 t3 => (from_any W ti n m St Fi Ed b1 b2 (some ⟨b3, 0, none⟩) (some ⟨Hs, 0, none⟩) (some ⟨Hl, 0, none⟩) (St.length + 64) (Fi.length + 64) (Ed.length + 64) (S.length + 64) (Y.length + 64) S Y (hide (KT.out W d).2) (hide ⟨padN_reads t1.s, padN_reads t1.f, edPad_reads t1.e, padV_reads t2, padV_reads t3⟩) hok (by omega) (by omega) (by omega) (by omega) (by omega)).mono fun e w' hh => by
    rw [HV.out] at hh
    obtain ⟨v1, v2, v3, v4, rfl, hO⟩ := hh
    obtain ⟨q1, q2, q3, q4, u1, u2, u3, u4, rfl, rfl, rfl, rfl, hr⟩ := hO.reads
    have k := FlA.ofFr hO
    have kd := hO.d
    clear hr hO
    obtain ⟨e1, e2, e3, e4, e5, e6⟩ := HE.out
    rw [show V.O.length = O.length by rw [← e1, List.length_map]]
    rw [e1] at k
    subst e2 e3 e4 e5 e6
    exact ⟨q1, q2, q3, q4, u1, u2, u3, u4, rfl, k, kd⟩)
  obtain ⟨W0, hW0⟩ : ∃ W0, w.alloc (.cells #[.int .i64 n, .int .i64 m, .slice a1 St.length c1, .slice a2 Fi.length c2, .slice a3 Ed.length c3, .slice asx S.length cs, .slice ay Y.length cy, .string ti] 28) = W0 := ⟨_, rfl⟩
  have d0 : Below w.heap.size w W0 := by rw [← hW0]; exact (Below.refl _ _).alloc (Nat.le_refl _) _
  have B0 : W0.heap[w.heap.size]? = some (.cells #[.int .i64 n, .int .i64 m, .slice a1 St.length c1, .slice a2 Fi.length c2, .slice a3 Ed.length c3, .slice asx S.length cs, .slice ay Y.length cy, .string ti] 28 (0, 0)) := by rw [← hW0]; exact World.alloc_heap_new _ _
  have z0 : w.heap.size < W0.heap.size := by rw [← hW0]; simp
  have HD := hide (And.intro d0 (And.intro B0 z0))
  have T8 := twinA_any W0 n m St Fi Ed a1 a2 a3 c1 c2 c3 (hide ⟨(KA.out W0 d0).1, (KA.out W0 d0).2.1, (KA.out W0 d0).2.2.1⟩) (by omega) (by omega) (by omega)
  have k0 : W0.cell? ⟨w.heap.size, 0, none⟩ = some (.int .i64 n) := cell_of B0 rfl
  have k1 : W0.cell? ⟨w.heap.size, 1, none⟩ = some (.int .i64 m) := cell_of B0 rfl
  have k2 : W0.cell? ⟨w.heap.size, 2, none⟩ = some (.slice a1 St.length c1) := cell_of B0 rfl
  have k3 : W0.cell? ⟨w.heap.size, 3, none⟩ = some (.slice a2 Fi.length c2) := cell_of B0 rfl
  have k4 : W0.cell? ⟨w.heap.size, 4, none⟩ = some (.slice a3 Ed.length c3) := cell_of B0 rfl
  clear d0 B0 z0
  go_enter Tryz.func6, Tryz.ntmps6
  go_upto_region 2 with (go_at_call 8; refine T8.mono ?_; rintro e w1 ⟨b1, b2, b3, rfl, ht, hb, d1⟩)
  obtain ⟨X1, hX1⟩ : ∃ X1, w1.alloc (.cells #[.int .i64 n, .int .i64 m, .slice (some ⟨b1, 0, none⟩) St.length (St.length + 64), .slice (some ⟨b2, 0, none⟩) Fi.length (Fi.length + 64), .slice (some ⟨b3, 0, none⟩) Ed.length (Ed.length + 64)] 25) = X1 := ⟨_, rfl⟩
  rw [hX1]
  obtain ⟨bA, hbA⟩ : ∃ bA, w1.heap.size = bA := ⟨_, rfl⟩
  rw [hbA]
  have H1 : Hid (X1.heap[bA]? = some (.cells #[.int .i64 n, .int .i64 m, .slice (some ⟨b1, 0, none⟩) St.length (St.length + 64), .slice (some ⟨b2, 0, none⟩) Fi.length (Fi.length + 64), .slice (some ⟨b3, 0, none⟩) Ed.length (Ed.length + 64)] 25 (0, 0)) ∧ TwA X1 b1 b2 b3 St Fi Ed ∧ X1.heap[w.heap.size]? = some (.cells #[.int .i64 n, .int .i64 m, .slice a1 St.length c1, .slice a2 Fi.length c2, .slice a3 Ed.length c3, .slice asx S.length cs, .slice ay Y.length cy, .string ti] 28 (0, 0)) ∧ Below w.heap.size w X1 ∧ bA < X1.heap.size) := hide (by
    have dX : Below w1.heap.size w1 X1 := by rw [← hX1]; exact (Below.refl _ _).alloc (Nat.le_refl _) _
    have d01 := d1.trans (dX.mono d1.size)
    refine ⟨by rw [← hX1, ← hbA]; exact World.alloc_heap_new _ _, ht.on dX, (d01.block _ HD.out.2.2).trans HD.out.2.1, HD.out.1.trans (d01.mono HD.out.1.size), by rw [← hX1, ← hbA]; simp⟩)
  have T9 := texts_any asx cs S X1 (hide (KA.out X1 H1.out.2.2.2.1).2.2.2.1) (by omega)
  obtain ⟨hHs, eHs⟩ : ∃ h, X1.heap.size = h := ⟨_, rfl⟩
  rw [eHs] at T9
  have x5 : X1.cell? ⟨w.heap.size, 5, none⟩ = some (.slice asx S.length cs) := cell_of H1.out.2.2.1 rfl
  clear T8 ht hb d1 hX1 hbA k0 k1 k2 k3 k4 HD hW0
  go_upto_region 3 with (go_at_call 9; refine T9.mono ?_; rintro e w2 ⟨rfl, ms, d2⟩)
  have D2 : Hid (Below X1.heap.size X1 w2) := hide (by rw [eHs]; exact d2)
  have H2 : Hid (w2.heap[bA]? = some (.cells #[.int .i64 n, .int .i64 m, .slice (some ⟨b1, 0, none⟩) St.length (St.length + 64), .slice (some ⟨b2, 0, none⟩) Fi.length (Fi.length + 64), .slice (some ⟨b3, 0, none⟩) Ed.length (Ed.length + 64)] 25 (0, 0)) ∧ TwA w2 b1 b2 b3 St Fi Ed ∧ w2.heap[w.heap.size]? = some (.cells #[.int .i64 n, .int .i64 m, .slice a1 St.length c1, .slice a2 Fi.length c2, .slice a3 Ed.length c3, .slice asx S.length cs, .slice ay Y.length cy, .string ti] 28 (0, 0)) ∧ Below w.heap.size w w2 ∧ Mrw w2 hHs 9 (S.length + 64) (padV S) (S.length + 64)) := hide ⟨(D2.out.block _ (Array.getElem?_eq_some_iff.1 H1.out.1).1).trans H1.out.1, H1.out.2.1.on D2.out, (D2.out.block _ (Array.getElem?_eq_some_iff.1 H1.out.2.2.1).1).trans H1.out.2.2.1, H1.out.2.2.2.1.trans (D2.out.mono H1.out.2.2.2.1.size), ms⟩
  have T9y := texts_any ay cy Y w2 (hide (KA.out w2 H2.out.2.2.2.1).2.2.2.2) (by omega)
  obtain ⟨hHl, eHl⟩ : ∃ h, w2.heap.size = h := ⟨_, rfl⟩
  rw [eHl] at T9y
  have x6 : w2.cell? ⟨w.heap.size, 6, none⟩ = some (.slice ay Y.length cy) := cell_of H2.out.2.2.1 rfl
  clear T9 x5 ms d2 H1 D2
  go_upto_region 4 with (go_at_call 9; refine T9y.mono ?_; rintro e w3 ⟨rfl, ml, d3⟩)
  have H3 : Hid (w3.heap[bA]? = some (.cells #[.int .i64 n, .int .i64 m, .slice (some ⟨b1, 0, none⟩) St.length (St.length + 64), .slice (some ⟨b2, 0, none⟩) Fi.length (Fi.length + 64), .slice (some ⟨b3, 0, none⟩) Ed.length (Ed.length + 64)] 25 (0, 0)) ∧ TwA w3 b1 b2 b3 St Fi Ed ∧ w3.heap[w.heap.size]? = some (.cells #[.int .i64 n, .int .i64 m, .slice a1 St.length c1, .slice a2 Fi.length c2, .slice a3 Ed.length c3, .slice asx S.length cs, .slice ay Y.length cy, .string ti] 28 (0, 0)) ∧ Below w.heap.size w w3 ∧ Mrw w3 hHs 9 (S.length + 64) (padV S) (S.length + 64) ∧ Mrw w3 hHl 9 (Y.length + 64) (padV Y) (Y.length + 64)) := hide (by
    have D3 : Below w2.heap.size w2 w3 := by rw [eHl]; exact d3
    exact ⟨(D3.block _ (Array.getElem?_eq_some_iff.1 H2.out.1).1).trans H2.out.1, H2.out.2.1.on D3, (D3.block _ (Array.getElem?_eq_some_iff.1 H2.out.2.2.1).1).trans H2.out.2.2.1, H2.out.2.2.2.1.trans (D3.mono H2.out.2.2.2.1.size), H2.out.2.2.2.2.below D3 H2.out.2.2.2.2.lt, ml⟩)
  have T7a := T7.out w3 b1 b2 b3 hHs hHl H3.out.2.2.2.1 H3.out.2.1 H3.out.2.2.2.2.1 H3.out.2.2.2.2.2
  have y0 : w3.cell? ⟨bA, 0, none⟩ = some (.int .i64 n) := cell_of H3.out.1 rfl
  have y1 : w3.cell? ⟨bA, 1, none⟩ = some (.int .i64 m) := cell_of H3.out.1 rfl
  have y2 : w3.cell? ⟨bA, 2, none⟩ = some (.slice (some ⟨b1, 0, none⟩) St.length (St.length + 64)) := cell_of H3.out.1 rfl
  have y3 : w3.cell? ⟨bA, 3, none⟩ = some (.slice (some ⟨b2, 0, none⟩) Fi.length (Fi.length + 64)) := cell_of H3.out.1 rfl
  have y4 : w3.cell? ⟨bA, 4, none⟩ = some (.slice (some ⟨b3, 0, none⟩) Ed.length (Ed.length + 64)) := cell_of H3.out.1 rfl
  have x7 : w3.cell? ⟨w.heap.size, 7, none⟩ = some (.string ti) := cell_of H3.out.2.2.1 rfl
  clear T9y x6 ml d3 H2 eHs eHl
  have HG3 : Hid (Bg w w3 #[.int .i64 n, .int .i64 m, .slice a1 St.length c1, .slice a2 Fi.length c2, .slice a3 Ed.length c3, .slice asx S.length cs, .slice ay Y.length cy, .string ti] #[.int .i64 n, .int .i64 m, .slice (some ⟨b1, 0, none⟩) St.length (St.length + 64), .slice (some ⟨b2, 0, none⟩) Fi.length (Fi.length + 64), .slice (some ⟨b3, 0, none⟩) Ed.length (Ed.length + 64)] bA b1 b2 b3 hHs hHl St Fi Ed S Y) := hide ⟨H3.out.2.2.1, H3.out.1, H3.out.2.1, H3.out.2.2.2.2.1, H3.out.2.2.2.2.2, H3.out.2.2.2.1⟩
  clear H3
  go_upto_region 5 with (go_at_call 7; refine T7a.mono ?_; rintro e w4 ⟨q1, q2, q3, q4, t1, t2, t3, t4, rfl, hf, d4⟩)
  obtain ⟨X4, hX4⟩ : ∃ X4, w4.alloc (.cells #[.string tv, .slice q1 O.length t1, .slice q2 Sv.length t2, .slice q3 F.length t3, .slice q4 R.length t4] 32) = X4 := ⟨_, rfl⟩
  rw [hX4]
  obtain ⟨bF, hbF⟩ : ∃ b, w4.heap.size = b := ⟨_, rfl⟩
  rw [hbF]
  have H4 : Hid (FlA w3.heap.size w4.heap.size X4 O Sv F R q1 q2 q3 q4 t1 t2 t3 t4 ∧ X4.heap[bF]? = some (.cells #[.string tv, .slice q1 O.length t1, .slice q2 Sv.length t2, .slice q3 F.length t3, .slice q4 R.length t4] 32 (0, 0)) ∧ Below w3.heap.size w3 X4 ∧ w4.heap.size = bF ∧ bF < X4.heap.size ∧ w3.heap.size ≤ bF) := hide (by
    have dX : Below w4.heap.size w4 X4 := by rw [← hX4]; exact (Below.refl _ _).alloc (Nat.le_refl _) _
    exact ⟨hf.below dX, by rw [← hX4, ← hbF]; exact World.alloc_heap_new _ _, d4.trans (dX.mono d4.size), hbF, by rw [← hX4, ← hbF]; simp, by rw [← hbF]; exact d4.size⟩)
  have HG4 := hide (HG3.out.below H4.out.2.2.1)
  have T7b := T7.out X4 b1 b2 b3 hHs hHl HG4.out.d HG4.out.t HG4.out.s HG4.out.l
  clear T7a hf d4 hX4 hbF y0 y1 y2 y3 y4 x7
  have y0 : X4.cell? ⟨bA, 0, none⟩ = some (.int .i64 n) := cell_of HG4.out.a rfl
  have y1 : X4.cell? ⟨bA, 1, none⟩ = some (.int .i64 m) := cell_of HG4.out.a rfl
  have y2 : X4.cell? ⟨bA, 2, none⟩ = some (.slice (some ⟨b1, 0, none⟩) St.length (St.length + 64)) := cell_of HG4.out.a rfl
  have y3 : X4.cell? ⟨bA, 3, none⟩ = some (.slice (some ⟨b2, 0, none⟩) Fi.length (Fi.length + 64)) := cell_of HG4.out.a rfl
  have y4 : X4.cell? ⟨bA, 4, none⟩ = some (.slice (some ⟨b3, 0, none⟩) Ed.length (Ed.length + 64)) := cell_of HG4.out.a rfl
  have x7 : X4.cell? ⟨w.heap.size, 7, none⟩ = some (.string ti) := cell_of HG4.out.x rfl
  go_upto_region 6 with (go_at_call 7; refine T7b.mono ?_; rintro e w5 ⟨r1, r2, r3, r4, s1, s2, s3, s4, rfl, hf, d5⟩)
  obtain ⟨X5, hX5⟩ : ∃ X5, w5.alloc (.cells #[.string tv, .slice r1 O.length s1, .slice r2 Sv.length s2, .slice r3 F.length s3, .slice r4 R.length s4] 32) = X5 := ⟨_, rfl⟩
  rw [hX5]
  obtain ⟨bF2, hbF2⟩ : ∃ b, w5.heap.size = b := ⟨_, rfl⟩
  rw [hbF2]
  have H5 : Hid (FlA X4.heap.size w5.heap.size X5 O Sv F R r1 r2 r3 r4 s1 s2 s3 s4 ∧ X5.heap[bF2]? = some (.cells #[.string tv, .slice r1 O.length s1, .slice r2 Sv.length s2, .slice r3 F.length s3, .slice r4 R.length s4] 32 (0, 0)) ∧ Below X4.heap.size X4 X5 ∧ w5.heap.size = bF2 ∧ bF2 < X5.heap.size ∧ X4.heap.size ≤ bF2) := hide (by
    have dX : Below w5.heap.size w5 X5 := by rw [← hX5]; exact (Below.refl _ _).alloc (Nat.le_refl _) _
    exact ⟨hf.below dX, by rw [← hX5, ← hbF2]; exact World.alloc_heap_new _ _, d5.trans (dX.mono d5.size), hbF2, by rw [← hX5, ← hbF2]; simp, by rw [← hbF2]; exact d5.size⟩)
  clear T7b hf d5 hX5 hbF2 y0 y1 y2 y3 y4 x7
  rcases frV_cases ti n m St Fi Ed S Y with ⟨x, hx0, hx⟩ | ⟨hK, hx⟩
  · have ne : er = x := HE.out.2.2.2.2.2.symm.trans (by rw [← HV.out, hx]; rfl)
    subst ne
    have i1 : ¬ ((er : Nat) : Int) = 0 := by omega
    have i2 : (((er : Nat) : Int) != 0) = true := by simpa using i1
    have T11 := least_any X5 (hide (KT.out X5 (HG4.out.below H5.out.2.2.1).d))
    go_wp2_with (go_at_call 11; refine T11.mono ?_; rintro e w6 ⟨rfl, d6⟩)
    go_ret
    exact ⟨rfl, (HG4.out.below H5.out.2.2.1).d.trans (d6.mono (HG4.out.below H5.out.2.2.1).d.size)⟩
  · have eV := HV.out.symm.trans hx
    have ee := HE.out
    rw [eV] at ee
    obtain ⟨e1, e2, e3, e4, e5, e6⟩ := ee
    clear HE HV hx eV
    obtain rfl : S = Sv := e2
    obtain rfl : ti = tv := e5
    obtain rfl : er = 0 := e6.symm
    have e1 : (opsF Y).map opOI = O := e1
    have e3 : namesAt (tN (riseL Fi)) S = F := e3
    have e4 : rulF S Y St Ed = R := e4
    have hn := hK.hn
    have hm := hK.hm
    subst hn hm
    have HBS : Hid ((∀ z ∈ St, 0 ≤ z ∧ z < (S.length : Int)) ∧ ∀ z ∈ Fi, 0 ≤ z ∧ z < (S.length : Int)) := hide ⟨fun z hz => hK.st hz, fun z hz => hK.fi hz⟩
    have hle := hK.le
    have hStl : (riseL St).length ≤ 4096 := by rw [← up_rise HBS.out.1]; exact Nat.le_trans (up_len _ _) hle.1
    have hFil : (riseL Fi).length ≤ 4096 := by rw [← up_rise HBS.out.2]; exact Nat.le_trans (up_len _ _) hle.1
    have hDl := dE_len Ed
    have hval := hK.val
    have hauto := hK.auto
    have hbig := hK.small
    have hFl : (namesAt (tN (riseL Fi)) S).length ≤ 4096 := by simpa [namesAt, tN] using hFil
    have hRl : (rulF S Y St Ed).length ≤ 69632 := by simp only [rulF, List.length_append, List.length_map]; omega
    have hOl : ((opsF Y).map opOI).length ≤ 1048576 := by rw [List.length_map, opsF_len]; omega
    rw [e1, e3, e4] at hval hauto
    rw [e1, e4] at hbig
    rw [e3] at hFl
    rw [e4] at hRl
    rw [e1] at hOl
    clear e1 e3 e4 e6
    have HK2 : Hid ((∀ x ∈ F, kText.ok x) ∧ ∀ x ∈ R, kRules.ok x) := hide (by
      have hw := wok_of hval (by omega) (by omega) (by omega) (by omega)
      exact ⟨fun x hx => show x.size ≤ _ by have := hw.f x hx; omega, fun x hx => by obtain ⟨a, b, c⟩ := hw.r x hx; exact ⟨by omega, by omega, by omega⟩⟩)
    have HVL := hide (And.intro hval hbig)
    have hTs := write_size hval (by omega) (by omega) (by omega) (by omega)
    obtain ⟨eE, eT, eO, eS, eF, eR⟩ := back_T hval
    have i2 : (((0 : Nat) : Int) != 0) = false := rfl
    have hf5 := H4.out.1.below H5.out.2.2.1
    have bf5 := blk_on H4.out.2.1 H5.out.2.2.1
    have D5 := (HG4.out.below H5.out.2.2.1).d
    have T12 : Calls Tryz.prog 12 #[.agg #[.string ti, .slice q1 O.length t1, .slice q2 S.length t2, .slice q3 F.length t3, .slice q4 R.length t4]] X5 fun e w' => e = .returned (.tuple #[.string (writeT ti (O.map opN) S F R), .int .i64 0]) ∧ Below X5.heap.size X5 w' := by
      have q := print_any X5 ti q1 q2 q3 q4 t1 t2 t3 t4 O S F R (hide (KT.out X5 D5).2) (hide hf5.ro) (hide hf5.rs) (hide hf5.rf) (hide hf5.rr) HK2 (by omega) (by omega) (by omega) (by omega)
      rw [hval] at q
      exact q
    obtain ⟨T, hTT⟩ : ∃ T, writeT ti (O.map opN) S F R = T := ⟨_, rfl⟩
    rw [hTT] at hTs eE eT eO eS eF eR T12
    have y0 : X5.cell? ⟨bF, 0, none⟩ = some (.string ti) := cell_of bf5 rfl
    have y1 : X5.cell? ⟨bF, 1, none⟩ = some (.slice q1 O.length t1) := cell_of bf5 rfl
    have y2 : X5.cell? ⟨bF, 2, none⟩ = some (.slice q2 S.length t2) := cell_of bf5 rfl
    have y3 : X5.cell? ⟨bF, 3, none⟩ = some (.slice q3 F.length t3) := cell_of bf5 rfl
    have y4 : X5.cell? ⟨bF, 4, none⟩ = some (.slice q4 R.length t4) := cell_of bf5 rfl
    have HD5 := hide D5
    clear hf5 bf5 D5 hTT hval hbig hK
    go_upto_region 9 with (go_at_call 12; refine T12.mono ?_; rintro e w6 ⟨rfl, d6⟩)
    have H6 : Hid (Below X5.heap.size X5 w6 ∧ Below w.heap.size w w6) := hide ⟨d6, HD5.out.trans (d6.mono HD5.out.size)⟩
    clear T12 d6 y0 y1 y2 y3 y4 HD5
    have T13 : Hid (∀ W, Below w.heap.size w W → Calls Tryz.prog 13 #[.string T] W fun e w' => ∃ ao asx an ar co cs cn cr, e = .returned (.tuple #[.agg #[.string ti, .slice ao O.length co, .slice asx S.length cs, .slice an F.length cn, .slice ar R.length cr], .agg #[.int .i64 0, .int .i64 0]]) ∧ FlA W.heap.size w'.heap.size w' O S F R ao asx an ar co cs cn cr ∧ Below W.heap.size W w') := hide (fun W d => by
      have q := parse_own T W (hide (KT.out W d)) hTs eE
      rw [eT, eO, eS, eF, eR] at q
      exact q)
    clear hTs eE eT eO eS eF eR
    have T13a := T13.out w6 H6.out.2
    go_upto_region 10 with (go_at_call 13; refine T13a.mono ?_; rintro e w7 ⟨g1, g2, g3, g4, v1, v2, v3, v4, rfl, hf, d7⟩)
    obtain ⟨X7, hX7⟩ : ∃ X7, (w7.alloc (.cells #[.string ti, .slice g1 O.length v1, .slice g2 S.length v2, .slice g3 F.length v3, .slice g4 R.length v4] 32)).alloc (.cells #[.int .i64 0, .int .i64 0] 43) = X7 := ⟨_, rfl⟩
    rw [hX7]
    obtain ⟨bG, hbG⟩ : ∃ b, w7.heap.size = b := ⟨_, rfl⟩
    rw [hbG]
    have H7 : Hid (FlA w6.heap.size w7.heap.size X7 O S F R g1 g2 g3 g4 v1 v2 v3 v4 ∧ X7.heap[bG]? = some (.cells #[.string ti, .slice g1 O.length v1, .slice g2 S.length v2, .slice g3 F.length v3, .slice g4 R.length v4] 32 (0, 0)) ∧ X7.heap[bG + 1]? = some (.cells #[.int .i64 0, .int .i64 0] 43 (0, 0)) ∧ Below w6.heap.size w6 X7 ∧ w7.heap.size = bG ∧ bG + 1 < X7.heap.size ∧ w6.heap.size ≤ bG) := hide (by
      have dX : Below w7.heap.size w7 X7 := by rw [← hX7]; exact ((Below.refl _ _).alloc (Nat.le_refl _) _).alloc (by simp) _
      exact ⟨hf.below dX, by rw [← hX7, ← hbG]; exact (Below.heap_alloc _ _ _ (by simp)).trans (World.alloc_heap_new _ _), by rw [← hX7, ← hbG]; exact heap_alloc2_new w7 _ _, d7.trans (dX.mono d7.size), hbG, by rw [← hX7, ← hbG]; simp, by rw [← hbG]; exact d7.size⟩)
    have D7 := hide (H6.out.2.trans (H7.out.2.2.2.1.mono H6.out.2.size))
    have T13b := T13.out X7 D7.out
    clear T13a hf d7 hX7 hbG T13
    go_upto_region 11 with (go_at_call 13; refine T13b.mono ?_; rintro e w8 ⟨j1, j2, j3, j4, o1, o2, o3, o4, rfl, hf, d8⟩)
    obtain ⟨X8, hX8⟩ : ∃ X8, (w8.alloc (.cells #[.string ti, .slice j1 O.length o1, .slice j2 S.length o2, .slice j3 F.length o3, .slice j4 R.length o4] 32)).alloc (.cells #[.int .i64 0, .int .i64 0] 43) = X8 := ⟨_, rfl⟩
    rw [hX8]
    obtain ⟨bG2, hbG2⟩ : ∃ b, w8.heap.size = b := ⟨_, rfl⟩
    rw [hbG2]
    have H8 : Hid (FlA X7.heap.size w8.heap.size X8 O S F R j1 j2 j3 j4 o1 o2 o3 o4 ∧ X8.heap[bG2]? = some (.cells #[.string ti, .slice j1 O.length o1, .slice j2 S.length o2, .slice j3 F.length o3, .slice j4 R.length o4] 32 (0, 0)) ∧ X8.heap[bG2 + 1]? = some (.cells #[.int .i64 0, .int .i64 0] 43 (0, 0)) ∧ Below X7.heap.size X7 X8 ∧ w8.heap.size = bG2 ∧ bG2 + 1 < X8.heap.size ∧ X7.heap.size ≤ bG2) := hide (by
      have dX : Below w8.heap.size w8 X8 := by rw [← hX8]; exact ((Below.refl _ _).alloc (Nat.le_refl _) _).alloc (by simp) _
      exact ⟨hf.below dX, by rw [← hX8, ← hbG2]; exact (Below.heap_alloc _ _ _ (by simp)).trans (World.alloc_heap_new _ _), by rw [← hX8, ← hbG2]; exact heap_alloc2_new w8 _ _, d8.trans (dX.mono d8.size), hbG2, by rw [← hX8, ← hbG2]; simp, by rw [← hbG2]; exact d8.size⟩)
    have D8 := hide (D7.out.trans (H8.out.2.2.2.1.mono D7.out.size))
    clear T13b hf d8 hX8 hbG2
    have T14 : Hid (∀ W, Below X7.heap.size X7 W → Calls Tryz.prog 14 #[.agg #[.string ti, .slice g1 O.length v1, .slice g2 S.length v2, .slice g3 F.length v3, .slice g4 R.length v4]] W fun e w' => AuE W w' ⟨S.length, Y.length, riseL St, riseL Fi, dE Ed, S, Y, 0⟩ e) := hide (fun W d => by
      have k := H7.out.1.below d
      have q := auto_own W ti g1 g2 g3 g4 v1 v2 v3 v4 O S F R (hide (KT.out W (D7.out.trans (d.mono D7.out.size))).2) (hide k.ro) (hide k.rs) (hide k.rf) (hide k.rr) HK2 (by omega) (by omega) (by omega) (by omega) HVL.out.1 HVL.out.2
      rw [hauto] at q
      exact q)
    have T14a := T14.out X8 H8.out.2.2.2.1
    have bg8 := blk_on H7.out.2.1 H8.out.2.2.2.1
    have y0 : X8.cell? ⟨bG, 0, none⟩ = some (.string ti) := cell_of bg8 rfl
    have y1 : X8.cell? ⟨bG, 1, none⟩ = some (.slice g1 O.length v1) := cell_of bg8 rfl
    have y2 : X8.cell? ⟨bG, 2, none⟩ = some (.slice g2 S.length v2) := cell_of bg8 rfl
    have y3 : X8.cell? ⟨bG, 3, none⟩ = some (.slice g3 F.length v3) := cell_of bg8 rfl
    have y4 : X8.cell? ⟨bG, 4, none⟩ = some (.slice g4 R.length v4) := cell_of bg8 rfl
    clear bg8
    go_upto_region 12 with (go_at_call 14; refine T14a.mono ?_; intro e w9 hE; obtain ⟨p1, p2, p3, p4, p5, u1, u2, u3, u4, u5, rfl, hf, d9⟩ := hE)
    obtain ⟨X9, hX9⟩ : ∃ X9, w9.alloc (.cells #[.int .i64 (S.length : Int), .int .i64 (Y.length : Int), .slice p1 (riseL St).length u1, .slice p2 (riseL Fi).length u2, .slice p3 (dE Ed).length u3] 25) = X9 := ⟨_, rfl⟩
    rw [hX9]
    obtain ⟨bB, hbB⟩ : ∃ b, w9.heap.size = b := ⟨_, rfl⟩
    rw [hbB]
    have H9 : Hid (AuA X8.heap.size w9.heap.size X9 ⟨S.length, Y.length, riseL St, riseL Fi, dE Ed, S, Y, 0⟩ p1 p2 p3 p4 p5 u1 u2 u3 u4 u5 ∧ X9.heap[bB]? = some (.cells #[.int .i64 (S.length : Int), .int .i64 (Y.length : Int), .slice p1 (riseL St).length u1, .slice p2 (riseL Fi).length u2, .slice p3 (dE Ed).length u3] 25 (0, 0)) ∧ Below X8.heap.size X8 X9 ∧ w9.heap.size = bB ∧ bB < X9.heap.size ∧ X8.heap.size ≤ bB) := hide (by
      have dX : Below w9.heap.size w9 X9 := by rw [← hX9]; exact (Below.refl _ _).alloc (Nat.le_refl _) _
      exact ⟨hf.below dX, by rw [← hX9, ← hbB]; exact World.alloc_heap_new _ _, d9.trans (dX.mono d9.size), hbB, by rw [← hX9, ← hbB]; simp, by rw [← hbB]; exact d9.size⟩)
    have D79 := hide (H8.out.2.2.2.1.trans (H9.out.2.2.1.mono H8.out.2.2.2.1.size))
    have T14b := T14.out X9 D79.out
    clear T14a hf d9 hX9 hbB y0 y1 y2 y3 y4 T14
    have bg9 := blk_on H7.out.2.1 D79.out
    have y0 : X9.cell? ⟨bG, 0, none⟩ = some (.string ti) := cell_of bg9 rfl
    have y1 : X9.cell? ⟨bG, 1, none⟩ = some (.slice g1 O.length v1) := cell_of bg9 rfl
    have y2 : X9.cell? ⟨bG, 2, none⟩ = some (.slice g2 S.length v2) := cell_of bg9 rfl
    have y3 : X9.cell? ⟨bG, 3, none⟩ = some (.slice g3 F.length v3) := cell_of bg9 rfl
    have y4 : X9.cell? ⟨bG, 4, none⟩ = some (.slice g4 R.length v4) := cell_of bg9 rfl
    clear bg9
    go_upto_region 13 with (go_at_call 14; refine T14b.mono ?_; intro e w10 hE; obtain ⟨pp1, pp2, pp3, pp4, pp5, uu1, uu2, uu3, uu4, uu5, rfl, hf, d10⟩ := hE)
    obtain ⟨X10, hX10⟩ : ∃ X10, w10.alloc (.cells #[.int .i64 (S.length : Int), .int .i64 (Y.length : Int), .slice pp1 (riseL St).length uu1, .slice pp2 (riseL Fi).length uu2, .slice pp3 (dE Ed).length uu3] 25) = X10 := ⟨_, rfl⟩
    rw [hX10]
    obtain ⟨bB2, hbB2⟩ : ∃ b, w10.heap.size = b := ⟨_, rfl⟩
    rw [hbB2]
    have H10 : Hid (AuA X9.heap.size w10.heap.size X10 ⟨S.length, Y.length, riseL St, riseL Fi, dE Ed, S, Y, 0⟩ pp1 pp2 pp3 pp4 pp5 uu1 uu2 uu3 uu4 uu5 ∧ X10.heap[bB2]? = some (.cells #[.int .i64 (S.length : Int), .int .i64 (Y.length : Int), .slice pp1 (riseL St).length uu1, .slice pp2 (riseL Fi).length uu2, .slice pp3 (dE Ed).length uu3] 25 (0, 0)) ∧ Below X9.heap.size X9 X10 ∧ w10.heap.size = bB2 ∧ bB2 < X10.heap.size ∧ X9.heap.size ≤ bB2) := hide (by
      have dX : Below w10.heap.size w10 X10 := by rw [← hX10]; exact (Below.refl _ _).alloc (Nat.le_refl _) _
      exact ⟨hf.below dX, by rw [← hX10, ← hbB2]; exact World.alloc_heap_new _ _, d10.trans (dX.mono d10.size), hbB2, by rw [← hX10, ← hbB2]; simp, by rw [← hbB2]; exact d10.size⟩)
    clear T14b hf d10 hX10 hbB2 y0 y1 y2 y3 y4
    have D710 := hide (D79.out.trans (H10.out.2.2.1.mono D79.out.size))
    have D810 := hide (H9.out.2.2.1.trans (H10.out.2.2.1.mono H9.out.2.2.1.size))
    have bp1 := blk_on H7.out.2.2.1 D710.out
    have bp2 := blk_on H8.out.2.2.1 D810.out
    have y0 : X10.cell? ⟨bG + 1, 0, none⟩ = some (.int .i64 0) := cell_of bp1 rfl
    have y1 : X10.cell? ⟨bG + 1, 1, none⟩ = some (.int .i64 0) := cell_of bp1 rfl
    have y2 : X10.cell? ⟨bG2 + 1, 0, none⟩ = some (.int .i64 0) := cell_of bp2 rfl
    have y3 : X10.cell? ⟨bG2 + 1, 1, none⟩ = some (.int .i64 0) := cell_of bp2 rfl
    clear bp1 bp2
    go_upto_region 15 with fail
    clear y0 y1 y2 y3
    have kg := H7.out.1.below D710.out
    have T18 := twin2_any X10 ti g1 g2 g3 g4 v1 v2 v3 v4 O S F R (hide kg.ro) (hide kg.rs) (hide kg.rf) (hide kg.rr) (by omega) (by omega) (by omega) (by omega)
    clear kg
    have bg10 := blk_on H7.out.2.1 D710.out
    have y0 : X10.cell? ⟨bG, 0, none⟩ = some (.string ti) := cell_of bg10 rfl
    have y1 : X10.cell? ⟨bG, 1, none⟩ = some (.slice g1 O.length v1) := cell_of bg10 rfl
    have y2 : X10.cell? ⟨bG, 2, none⟩ = some (.slice g2 S.length v2) := cell_of bg10 rfl
    have y3 : X10.cell? ⟨bG, 3, none⟩ = some (.slice g3 F.length v3) := cell_of bg10 rfl
    have y4 : X10.cell? ⟨bG, 4, none⟩ = some (.slice g4 R.length v4) := cell_of bg10 rfl
    clear bg10
    go_upto_region 16 with (go_at_call 18; refine T18.mono ?_; rintro e w11 ⟨bo, bs, bf, br, rfl, m1, m2, m3, m4, d11, hbs⟩)
    obtain ⟨X11, hX11⟩ : ∃ X11, w11.alloc (.cells #[.string ti, .slice (some ⟨bo, 0, none⟩) O.length (O.length + 64), .slice (some ⟨bs, 0, none⟩) S.length (S.length + 64), .slice (some ⟨bf, 0, none⟩) F.length (F.length + 64), .slice (some ⟨br, 0, none⟩) R.length (R.length + 64)] 32) = X11 := ⟨_, rfl⟩
    rw [hX11]
    obtain ⟨bK, hbK⟩ : ∃ b, w11.heap.size = b := ⟨_, rfl⟩
    rw [hbK]
    have H11 : Hid ((Mrw X11 bo 66 ((O.length + 64) * 2) (opPad O) ((O.length + 64) * 2) ∧ Mrw X11 bs 9 (S.length + 64) (padV S) (S.length + 64) ∧ Mrw X11 bf 9 (F.length + 64) (padV F) (F.length + 64) ∧ Mrw X11 br 68 ((R.length + 64) * 3) (ruPad R) ((R.length + 64) * 3)) ∧ X11.heap[bK]? = some (.cells #[.string ti, .slice (some ⟨bo, 0, none⟩) O.length (O.length + 64), .slice (some ⟨bs, 0, none⟩) S.length (S.length + 64), .slice (some ⟨bf, 0, none⟩) F.length (F.length + 64), .slice (some ⟨br, 0, none⟩) R.length (R.length + 64)] 32 (0, 0)) ∧ Below X10.heap.size X10 X11 ∧ w11.heap.size = bK ∧ bK < X11.heap.size ∧ X10.heap.size ≤ bK ∧ (X10.heap.size ≤ bo ∧ X10.heap.size ≤ bs ∧ X10.heap.size ≤ bf ∧ X10.heap.size ≤ br)) := hide (by
      have dX : Below w11.heap.size w11 X11 := by rw [← hX11]; exact (Below.refl _ _).alloc (Nat.le_refl _) _
      exact ⟨⟨m1.below dX m1.lt, m2.below dX m2.lt, m3.below dX m3.lt, m4.below dX m4.lt⟩, by rw [← hX11, ← hbK]; exact World.alloc_heap_new _ _, d11.trans (dX.mono d11.size), hbK, by rw [← hX11, ← hbK]; simp, by rw [← hbK]; exact d11.size, hbs.2⟩)
    clear T18 m1 m2 m3 m4 d11 hbs hX11 hbK y0 y1 y2 y3 y4
    have T27 := rauto_own X11 ti (some ⟨bo, 0, none⟩) (some ⟨bs, 0, none⟩) (some ⟨bf, 0, none⟩) (some ⟨br, 0, none⟩) (O.length + 64) (S.length + 64) (F.length + 64) (R.length + 64) O S F R (hide (opPad_reads H11.out.1.1)) (hide (padV_reads H11.out.1.2.1)) (hide (padV_reads H11.out.1.2.2.1)) (hide (ruPad_reads H11.out.1.2.2.2)) (by omega) (by omega) (by omega) (by omega) (hide (by omega)) (hide (by omega)) HVL.out.1 HVL.out.2
    rw [hauto] at T27
    have y0 : X11.cell? ⟨bK, 0, none⟩ = some (.string ti) := cell_of H11.out.2.1 rfl
    have y1 : X11.cell? ⟨bK, 1, none⟩ = some (.slice (some ⟨bo, 0, none⟩) O.length (O.length + 64)) := cell_of H11.out.2.1 rfl
    have y2 : X11.cell? ⟨bK, 2, none⟩ = some (.slice (some ⟨bs, 0, none⟩) S.length (S.length + 64)) := cell_of H11.out.2.1 rfl
    have y3 : X11.cell? ⟨bK, 3, none⟩ = some (.slice (some ⟨bf, 0, none⟩) F.length (F.length + 64)) := cell_of H11.out.2.1 rfl
    have y4 : X11.cell? ⟨bK, 4, none⟩ = some (.slice (some ⟨br, 0, none⟩) R.length (R.length + 64)) := cell_of H11.out.2.1 rfl
    go_upto_region 17 with (go_at_call 27; refine T27.mono ?_; intro e w12 hE; obtain ⟨x1, x2, x3, x4, x5, f1, f2, f3, f4, f5, rfl, hf, d12⟩ := hE)
    obtain ⟨X12, hX12⟩ : ∃ X12, w12.alloc (.cells #[.int .i64 (S.length : Int), .int .i64 (Y.length : Int), .slice x1 (riseL St).length f1, .slice x2 (riseL Fi).length f2, .slice x3 (dE Ed).length f3] 25) = X12 := ⟨_, rfl⟩
    rw [hX12]
    obtain ⟨bW, hbW⟩ : ∃ b, w12.heap.size = b := ⟨_, rfl⟩
    rw [hbW]
    have H12 : Hid (AnB X11.heap.size X12 ⟨S.length, Y.length, riseL St, riseL Fi, dE Ed, S, Y, 0⟩ x1 x2 x3 ∧ X12.heap[bW]? = some (.cells #[.int .i64 (S.length : Int), .int .i64 (Y.length : Int), .slice x1 (riseL St).length f1, .slice x2 (riseL Fi).length f2, .slice x3 (dE Ed).length f3] 25 (0, 0)) ∧ Below X11.heap.size X11 X12 ∧ X11.heap.size ≤ bW) := hide (by
      have dX : Below w12.heap.size w12 X12 := by rw [← hX12]; exact (Below.refl _ _).alloc (Nat.le_refl _) _
      exact ⟨hf.below dX, by rw [← hX12, ← hbW]; exact World.alloc_heap_new _ _, d12.trans (dX.mono d12.size), by rw [← hbW]; exact d12.size⟩)
    clear T27 hf d12 hX12 hbW y0 y1 y2 y3 y4 hauto
    have E10 : Hid (Below X10.heap.size X10 X12) := hide (H11.out.2.2.1.trans (H12.out.2.2.1.mono H11.out.2.2.1.size))
    have E9 : Hid (Below X9.heap.size X9 X12) := hide (H10.out.2.2.1.trans (E10.out.mono H10.out.2.2.1.size))
    have E8 : Hid (Below X8.heap.size X8 X12) := hide (H9.out.2.2.1.trans (E9.out.mono H9.out.2.2.1.size))
    have E7 : Hid (Below X7.heap.size X7 X12) := hide (H8.out.2.2.2.1.trans (E8.out.mono H8.out.2.2.2.1.size))
    have E6 : Hid (Below w6.heap.size w6 X12) := hide (H7.out.2.2.2.1.trans (E7.out.mono H7.out.2.2.2.1.size))
    have E5 : Hid (Below X5.heap.size X5 X12) := hide (H6.out.1.trans (E6.out.mono H6.out.1.size))
    have E4 : Hid (Below X4.heap.size X4 X12) := hide (H5.out.2.2.1.trans (E5.out.mono H5.out.2.2.1.size))
    have E3 : Hid (Below w3.heap.size w3 X12) := hide (H4.out.2.2.1.trans (E4.out.mono H4.out.2.2.1.size))
    have HO : Hid (bA < w3.heap.size ∧ w.heap.size < w3.heap.size ∧ w3.heap.size ≤ bF ∧ bF < X4.heap.size ∧ X4.heap.size ≤ bF2 ∧ bF2 < w6.heap.size ∧ w6.heap.size ≤ bG ∧ bG + 1 < X7.heap.size ∧ X7.heap.size ≤ bG2 ∧ bG2 + 1 < X8.heap.size ∧ X8.heap.size ≤ bB ∧ bB < X9.heap.size ∧ X9.heap.size ≤ bB2 ∧ bB2 < X10.heap.size ∧ X10.heap.size ≤ bK ∧ bK < X11.heap.size ∧ X11.heap.size ≤ bW) := hide (by
      have o1 := (Array.getElem?_eq_some_iff.1 HG3.out.a).1
      have o2 := (Array.getElem?_eq_some_iff.1 HG3.out.x).1
      have o3 := H4.out.2.2.2
      have o4 := H5.out.2.2.2
      have o5 := H6.out.1.size
      have o6 := H7.out.2.2.2.2
      have o7 := H8.out.2.2.2.2
      have o8 := H9.out.2.2.2
      have o9 := H10.out.2.2.2
      have o10 := H11.out.2.2.2
      have o11 := H12.out.2.2.2
      omega)
    have ef : w4.heap.size = bF := H4.out.2.2.2.1
    have ef2 : w5.heap.size = bF2 := H5.out.2.2.2.1
    have eg : w7.heap.size = bG := H7.out.2.2.2.2.1
    have eg2 : w8.heap.size = bG2 := H8.out.2.2.2.2.1
    have eb : w9.heap.size = bB := H9.out.2.2.2.1
    have eb2 : w10.heap.size = bB2 := H10.out.2.2.2.1
    have HF : Hid (FlA w3.heap.size bF X12 O S F R q1 q2 q3 q4 t1 t2 t3 t4) := hide (by rw [← ef]; exact H4.out.1.below E4.out)
    have HF2 : Hid (FlA X4.heap.size bF2 X12 O S F R r1 r2 r3 r4 s1 s2 s3 s4) := hide (by rw [← ef2]; exact H5.out.1.below E5.out)
    have HGg : Hid (FlA w6.heap.size bG X12 O S F R g1 g2 g3 g4 v1 v2 v3 v4) := hide (by rw [← eg]; exact H7.out.1.below E7.out)
    have HG2 : Hid (FlA X7.heap.size bG2 X12 O S F R j1 j2 j3 j4 o1 o2 o3 o4) := hide (by rw [← eg2]; exact H8.out.1.below E8.out)
    have HB : Hid (AuA X8.heap.size bB X12 ⟨S.length, Y.length, riseL St, riseL Fi, dE Ed, S, Y, 0⟩ p1 p2 p3 p4 p5 u1 u2 u3 u4 u5) := hide (by rw [← eb]; exact H9.out.1.below E9.out)
    have HB2 : Hid (AuA X9.heap.size bB2 X12 ⟨S.length, Y.length, riseL St, riseL Fi, dE Ed, S, Y, 0⟩ pp1 pp2 pp3 pp4 pp5 uu1 uu2 uu3 uu4 uu5) := hide (by rw [← eb2]; exact H10.out.1.below E10.out)
    have HKm : Hid ((Mrw X12 bo 66 ((O.length + 64) * 2) (opPad O) ((O.length + 64) * 2) ∧ Mrw X12 bs 9 (S.length + 64) (padV S) (S.length + 64) ∧ Mrw X12 bf 9 (F.length + 64) (padV F) (F.length + 64) ∧ Mrw X12 br 68 ((R.length + 64) * 3) (ruPad R) ((R.length + 64) * 3)) ∧ (X10.heap.size ≤ bo ∧ X10.heap.size ≤ bs ∧ X10.heap.size ≤ bf ∧ X10.heap.size ≤ br)) := hide (by
      obtain ⟨⟨m1, m2, m3, m4⟩, _, _, _, _, _, hbs⟩ := H11.out
      have d := H12.out.2.2.1
      exact ⟨⟨m1.below d m1.lt, m2.below d m2.lt, m3.below d m3.lt, m4.below d m4.lt⟩, hbs⟩)
    have HX12 : Hid (Bg w X12 #[.int .i64 (S.length : Int), .int .i64 (Y.length : Int), .slice a1 St.length c1, .slice a2 Fi.length c2, .slice a3 Ed.length c3, .slice asx S.length cs, .slice ay Y.length cy, .string ti] #[.int .i64 (S.length : Int), .int .i64 (Y.length : Int), .slice (some ⟨b1, 0, none⟩) St.length (St.length + 64), .slice (some ⟨b2, 0, none⟩) Fi.length (Fi.length + 64), .slice (some ⟨b3, 0, none⟩) Ed.length (Ed.length + 64)] bA b1 b2 b3 hHs hHl St Fi Ed S Y) := hide (HG3.out.below E3.out)
    clear ef ef2 eg eg2 eb eb2
    have KB : Hid (∀ W, Only X12 W (fun k => (w3.heap.size ≤ k ∧ k < bF) ∨ (w6.heap.size ≤ k ∧ k < bG) ∨ (X8.heap.size ≤ k ∧ k < bB)) → W.heap[w.heap.size]? = some (.cells #[.int .i64 (S.length : Int), .int .i64 (Y.length : Int), .slice a1 St.length c1, .slice a2 Fi.length c2, .slice a3 Ed.length c3, .slice asx S.length cs, .slice ay Y.length cy, .string ti] 28 (0, 0)) ∧ W.heap[bA]? = some (.cells #[.int .i64 (S.length : Int), .int .i64 (Y.length : Int), .slice (some ⟨b1, 0, none⟩) St.length (St.length + 64), .slice (some ⟨b2, 0, none⟩) Fi.length (Fi.length + 64), .slice (some ⟨b3, 0, none⟩) Ed.length (Ed.length + 64)] 25 (0, 0)) ∧ W.heap[bF]? = some (.cells #[.string ti, .slice q1 O.length t1, .slice q2 S.length t2, .slice q3 F.length t3, .slice q4 R.length t4] 32 (0, 0)) ∧ W.heap[bF2]? = some (.cells #[.string ti, .slice r1 O.length s1, .slice r2 S.length s2, .slice r3 F.length s3, .slice r4 R.length s4] 32 (0, 0)) ∧ W.heap[bG]? = some (.cells #[.string ti, .slice g1 O.length v1, .slice g2 S.length v2, .slice g3 F.length v3, .slice g4 R.length v4] 32 (0, 0)) ∧ W.heap[bG2]? = some (.cells #[.string ti, .slice j1 O.length o1, .slice j2 S.length o2, .slice j3 F.length o3, .slice j4 R.length o4] 32 (0, 0)) ∧ W.heap[bB]? = some (.cells #[.int .i64 (S.length : Int), .int .i64 (Y.length : Int), .slice p1 (riseL St).length u1, .slice p2 (riseL Fi).length u2, .slice p3 (dE Ed).length u3] 25 (0, 0)) ∧ W.heap[bB2]? = some (.cells #[.int .i64 (S.length : Int), .int .i64 (Y.length : Int), .slice pp1 (riseL St).length uu1, .slice pp2 (riseL Fi).length uu2, .slice pp3 (dE Ed).length uu3] 25 (0, 0)) ∧ W.heap[bK]? = some (.cells #[.string ti, .slice (some ⟨bo, 0, none⟩) O.length (O.length + 64), .slice (some ⟨bs, 0, none⟩) S.length (S.length + 64), .slice (some ⟨bf, 0, none⟩) F.length (F.length + 64), .slice (some ⟨br, 0, none⟩) R.length (R.length + 64)] 32 (0, 0)) ∧ W.heap[bW]? = some (.cells #[.int .i64 (S.length : Int), .int .i64 (Y.length : Int), .slice x1 (riseL St).length f1, .slice x2 (riseL Fi).length f2, .slice x3 (dE Ed).length f3] 25 (0, 0))) := hide (fun W o => by
      have oo := HO.out
      have h3 := E3.out.size
      have k : ∀ {c : Nat} {ob : Obj}, X12.heap[c]? = some ob → ¬ ((w3.heap.size ≤ c ∧ c < bF) ∨ (w6.heap.size ≤ c ∧ c < bG) ∨ (X8.heap.size ≤ c ∧ c < bB)) → W.heap[c]? = some ob := fun h hn => (o.block _ (Array.getElem?_eq_some_iff.1 h).1 hn).trans h
      exact ⟨k HX12.out.x (by omega), k HX12.out.a (by omega), k (blk_on H4.out.2.1 E4.out) (by omega), k (blk_on H5.out.2.1 E5.out) (by omega), k (blk_on H7.out.2.1 E7.out) (by omega), k (blk_on H8.out.2.1 E8.out) (by omega), k (blk_on H9.out.2.1 E9.out) (by omega), k (blk_on H10.out.2.1 E10.out) (by omega), k (blk_on H11.out.2.1 H12.out.2.2.1) (by omega), k H12.out.2.1 (by omega)⟩)
    have KG : Hid (∀ W, Only X12 W (fun k => (w3.heap.size ≤ k ∧ k < bF) ∨ (w6.heap.size ≤ k ∧ k < bG) ∨ (X8.heap.size ≤ k ∧ k < bB)) → Bg w W #[.int .i64 (S.length : Int), .int .i64 (Y.length : Int), .slice a1 St.length c1, .slice a2 Fi.length c2, .slice a3 Ed.length c3, .slice asx S.length cs, .slice ay Y.length cy, .string ti] #[.int .i64 (S.length : Int), .int .i64 (Y.length : Int), .slice (some ⟨b1, 0, none⟩) St.length (St.length + 64), .slice (some ⟨b2, 0, none⟩) Fi.length (Fi.length + 64), .slice (some ⟨b3, 0, none⟩) Ed.length (Ed.length + 64)] bA b1 b2 b3 hHs hHl St Fi Ed S Y) := hide (fun W o => HG3.out.below (E3.out.trans (o.toBelow E3.out.size fun k z => by have := HO.out; omega)))
    have KK : Hid (∀ W, Only X12 W (fun k => (w3.heap.size ≤ k ∧ k < bF) ∨ (w6.heap.size ≤ k ∧ k < bG) ∨ (X8.heap.size ≤ k ∧ k < bB)) → (Mrw W bo 66 ((O.length + 64) * 2) (opPad O) ((O.length + 64) * 2) ∧ Mrw W bs 9 (S.length + 64) (padV S) (S.length + 64) ∧ Mrw W bf 9 (F.length + 64) (padV F) (F.length + 64) ∧ Mrw W br 68 ((R.length + 64) * 3) (ruPad R) ((R.length + 64) * 3))) := hide (fun W o => by
      have oo := HO.out
      obtain ⟨⟨m1, m2, m3, m4⟩, hb1, hb2, hb3, hb4⟩ := HKm.out
      exact ⟨m1.only o (by omega), m2.only o (by omega), m3.only o (by omega), m4.only o (by omega)⟩)
    clear H4 H5 H6 H7 H8 H9 H10 H11 E4 E5 E6 E7 E8 E9 E10 D7 D8 D79 D710 D810 HG4 HKm
    have O0 : Only X12 X12 (fun k => (w3.heap.size ≤ k ∧ k < bF) ∨ (w6.heap.size ≤ k ∧ k < bG) ∨ (X8.heap.size ≤ k ∧ k < bB)) := Only.ofBelow (Below.refl _ _)
    have y0 : X12.cell? ⟨bB, 0, none⟩ = some (.int .i64 (S.length : Int)) := cell_of (KB.out X12 O0).2.2.2.2.2.2.1 rfl
    have y1 : X12.cell? ⟨bB, 1, none⟩ = some (.int .i64 (Y.length : Int)) := cell_of (KB.out X12 O0).2.2.2.2.2.2.1 rfl
    have y2 : X12.cell? ⟨bB, 2, none⟩ = some (.slice p1 (riseL St).length u1) := cell_of (KB.out X12 O0).2.2.2.2.2.2.1 rfl
    have y3 : X12.cell? ⟨bB, 3, none⟩ = some (.slice p2 (riseL Fi).length u2) := cell_of (KB.out X12 O0).2.2.2.2.2.2.1 rfl
    have y4 : X12.cell? ⟨bB, 4, none⟩ = some (.slice p3 (dE Ed).length u3) := cell_of (KB.out X12 O0).2.2.2.2.2.2.1 rfl
    clear O0
    go_upto_region 19 with (first
      | (go_at_call 28; refine (grownA_fl (S.length : Int) (Y.length : Int) HB.out (by show (riseL St).length ≤ _; omega) (by show (riseL Fi).length ≤ _; omega) (by show (dE Ed).length ≤ _; omega) (by show S.length ≤ _; omega) (by show Y.length ≤ _; omega)).mono ?_; rintro e wa ⟨rfl, oa⟩; have HA := hide oa; have OA : Hid (Only X12 wa (fun k => (w3.heap.size ≤ k ∧ k < bF) ∨ (w6.heap.size ≤ k ∧ k < bG) ∨ (X8.heap.size ≤ k ∧ k < bB))) := hide (oa.mono fun k _ z => .inr (.inr z)); clear oa; have ya0 : wa.cell? ⟨bG, 0, none⟩ = some (.string ti) := cell_of (KB.out wa OA.out).2.2.2.2.1 rfl; have ya1 : wa.cell? ⟨bG, 1, none⟩ = some (.slice g1 O.length v1) := cell_of (KB.out wa OA.out).2.2.2.2.1 rfl; have ya2 : wa.cell? ⟨bG, 2, none⟩ = some (.slice g2 S.length v2) := cell_of (KB.out wa OA.out).2.2.2.2.1 rfl; have ya3 : wa.cell? ⟨bG, 3, none⟩ = some (.slice g3 F.length v3) := cell_of (KB.out wa OA.out).2.2.2.2.1 rfl; have ya4 : wa.cell? ⟨bG, 4, none⟩ = some (.slice g4 R.length v4) := cell_of (KB.out wa OA.out).2.2.2.2.1 rfl; have yk0 : wa.cell? ⟨bK, 0, none⟩ = some (.string ti) := cell_of (KB.out wa OA.out).2.2.2.2.2.2.2.2.1 rfl; have yk1 : wa.cell? ⟨bK, 1, none⟩ = some (.slice (some ⟨bo, 0, none⟩) O.length (O.length + 64)) := cell_of (KB.out wa OA.out).2.2.2.2.2.2.2.2.1 rfl; have yk2 : wa.cell? ⟨bK, 2, none⟩ = some (.slice (some ⟨bs, 0, none⟩) S.length (S.length + 64)) := cell_of (KB.out wa OA.out).2.2.2.2.2.2.2.2.1 rfl; have yk3 : wa.cell? ⟨bK, 3, none⟩ = some (.slice (some ⟨bf, 0, none⟩) F.length (F.length + 64)) := cell_of (KB.out wa OA.out).2.2.2.2.2.2.2.2.1 rfl; have yk4 : wa.cell? ⟨bK, 4, none⟩ = some (.slice (some ⟨br, 0, none⟩) R.length (R.length + 64)) := cell_of (KB.out wa OA.out).2.2.2.2.2.2.2.2.1 rfl)
      | (go_at_call 10; refine (same_eq wa ti O S F R g1 g2 g3 g4 (some ⟨bo, 0, none⟩) (some ⟨bs, 0, none⟩) (some ⟨bf, 0, none⟩) (some ⟨br, 0, none⟩) v1 v2 v3 v4 (O.length + 64) (S.length + 64) (F.length + 64) (R.length + 64) (hide ⟨(HGg.out.only HA.out fun k z1 z2 z3 => by have := HO.out; omega).ro, opPad_reads (KK.out wa OA.out).1⟩) (hide ⟨(HGg.out.only HA.out fun k z1 z2 z3 => by have := HO.out; omega).rs, padV_reads (KK.out wa OA.out).2.1⟩) (hide ⟨(HGg.out.only HA.out fun k z1 z2 z3 => by have := HO.out; omega).rf, padV_reads (KK.out wa OA.out).2.2.1⟩) (hide ⟨(HGg.out.only HA.out fun k z1 z2 z3 => by have := HO.out; omega).rr, ruPad_reads (KK.out wa OA.out).2.2.2⟩) (by omega) (by omega) (by omega) (by omega)).mono ?_; rintro e wb ⟨rfl, db⟩; have HA2 := hide (ob_below HA.out db); have OB2 : Hid (Only X12 wb (fun k => (w3.heap.size ≤ k ∧ k < bF) ∨ (w6.heap.size ≤ k ∧ k < bG) ∨ (X8.heap.size ≤ k ∧ k < bB))) := hide (ob_below OA.out db); clear db; have yb0 : wb.cell? ⟨bF, 0, none⟩ = some (.string ti) := cell_of (KB.out wb OB2.out).2.2.1 rfl; have yb1 : wb.cell? ⟨bF, 1, none⟩ = some (.slice q1 O.length t1) := cell_of (KB.out wb OB2.out).2.2.1 rfl; have yb2 : wb.cell? ⟨bF, 2, none⟩ = some (.slice q2 S.length t2) := cell_of (KB.out wb OB2.out).2.2.1 rfl; have yb3 : wb.cell? ⟨bF, 3, none⟩ = some (.slice q3 F.length t3) := cell_of (KB.out wb OB2.out).2.2.1 rfl; have yb4 : wb.cell? ⟨bF, 4, none⟩ = some (.slice q4 R.length t4) := cell_of (KB.out wb OB2.out).2.2.1 rfl)
      | (go_at_call_of 29 q1; refine (grown_fl ti (HF.out.only HA2.out fun k z1 z2 z3 => by have := HO.out; omega) (by omega) (by omega) (by omega) (by omega)).mono ?_; rintro e wc ⟨rfl, oc⟩; have HC : Hid (Only X12 wc (fun k => (w3.heap.size ≤ k ∧ k < bF) ∨ (X8.heap.size ≤ k ∧ k < bB))) := hide ((HA2.out.mono fun k _ z => .inr z).andNew oc fun k _ z => .inl z); have OC : Hid (Only X12 wc (fun k => (w3.heap.size ≤ k ∧ k < bF) ∨ (w6.heap.size ≤ k ∧ k < bG) ∨ (X8.heap.size ≤ k ∧ k < bB))) := hide (HC.out.mono fun k _ z => z.elim .inl fun z => .inr (.inr z)); clear oc; have yc0 : wc.cell? ⟨bG, 0, none⟩ = some (.string ti) := cell_of (KB.out wc OC.out).2.2.2.2.1 rfl; have yc1 : wc.cell? ⟨bG, 1, none⟩ = some (.slice g1 O.length v1) := cell_of (KB.out wc OC.out).2.2.2.2.1 rfl; have yc2 : wc.cell? ⟨bG, 2, none⟩ = some (.slice g2 S.length v2) := cell_of (KB.out wc OC.out).2.2.2.2.1 rfl; have yc3 : wc.cell? ⟨bG, 3, none⟩ = some (.slice g3 F.length v3) := cell_of (KB.out wc OC.out).2.2.2.2.1 rfl; have yc4 : wc.cell? ⟨bG, 4, none⟩ = some (.slice g4 R.length v4) := cell_of (KB.out wc OC.out).2.2.2.2.1 rfl)
      | (go_at_call_of 29 g1; refine (grown_fl ti (HGg.out.only HC.out fun k z1 z2 z3 => by have := HO.out; omega) (by omega) (by omega) (by omega) (by omega)).mono ?_; rintro e wd ⟨rfl, od⟩; have OD : Hid (Only X12 wd (fun k => (w3.heap.size ≤ k ∧ k < bF) ∨ (w6.heap.size ≤ k ∧ k < bG) ∨ (X8.heap.size ≤ k ∧ k < bB))) := hide (OC.out.andNew od fun k _ z => .inr (.inl z)); clear od; have yd0 : wd.cell? ⟨bA, 0, none⟩ = some (.int .i64 (S.length : Int)) := cell_of (KB.out wd OD.out).2.1 rfl; have yd1 : wd.cell? ⟨bA, 1, none⟩ = some (.int .i64 (Y.length : Int)) := cell_of (KB.out wd OD.out).2.1 rfl; have yd2 : wd.cell? ⟨bA, 2, none⟩ = some (.slice (some ⟨b1, 0, none⟩) St.length (St.length + 64)) := cell_of (KB.out wd OD.out).2.1 rfl; have yd3 : wd.cell? ⟨bA, 3, none⟩ = some (.slice (some ⟨b2, 0, none⟩) Fi.length (Fi.length + 64)) := cell_of (KB.out wd OD.out).2.1 rfl; have yd4 : wd.cell? ⟨bA, 4, none⟩ = some (.slice (some ⟨b3, 0, none⟩) Ed.length (Ed.length + 64)) := cell_of (KB.out wd OD.out).2.1 rfl; have yx0 : wd.cell? ⟨w.heap.size, 0, none⟩ = some (.int .i64 (S.length : Int)) := cell_of (KB.out wd OD.out).1 rfl; have yx1 : wd.cell? ⟨w.heap.size, 1, none⟩ = some (.int .i64 (Y.length : Int)) := cell_of (KB.out wd OD.out).1 rfl; have yx2 : wd.cell? ⟨w.heap.size, 2, none⟩ = some (.slice a1 St.length c1) := cell_of (KB.out wd OD.out).1 rfl; have yx3 : wd.cell? ⟨w.heap.size, 3, none⟩ = some (.slice a2 Fi.length c2) := cell_of (KB.out wd OD.out).1 rfl; have yx4 : wd.cell? ⟨w.heap.size, 4, none⟩ = some (.slice a3 Ed.length c3) := cell_of (KB.out wd OD.out).1 rfl)
      | (go_at_call 23; refine (autoLeft_any wd (S.length : Int) (Y.length : Int) St Fi Ed b1 b2 b3 a1 a2 a3 c1 c2 c3 (hide (KG.out wd OD.out).t) (hide ⟨(KA.out wd (KG.out wd OD.out).d).1, (KA.out wd (KG.out wd OD.out).d).2.1, (KA.out wd (KG.out wd OD.out).d).2.2.1⟩) (by omega) (by omega) (by omega)).mono ?_; rintro e we ⟨rfl, de⟩; have OE : Hid (Only X12 we (fun k => (w3.heap.size ≤ k ∧ k < bF) ∨ (w6.heap.size ≤ k ∧ k < bG) ∨ (X8.heap.size ≤ k ∧ k < bB))) := hide (ob_below OD.out de); clear de; have ye5 : we.cell? ⟨w.heap.size, 5, none⟩ = some (.slice asx S.length cs) := cell_of (KB.out we OE.out).1 rfl)
      | (go_at_call_of 24 asx; refine (textsLeft_any we hHs asx cs S (hide (KG.out we OE.out).s) (hide (KA.out we (KG.out we OE.out).d).2.2.2.1) (by omega)).mono ?_; rintro e wf ⟨rfl, df⟩; have OF : Hid (Only X12 wf (fun k => (w3.heap.size ≤ k ∧ k < bF) ∨ (w6.heap.size ≤ k ∧ k < bG) ∨ (X8.heap.size ≤ k ∧ k < bB))) := hide (ob_below OE.out df); clear df; have yf6 : wf.cell? ⟨w.heap.size, 6, none⟩ = some (.slice ay Y.length cy) := cell_of (KB.out wf OF.out).1 rfl)
      | (go_at_call_of 24 ay; refine (textsLeft_any wf hHl ay cy Y (hide (KG.out wf OF.out).l) (hide (KA.out wf (KG.out wf OF.out).d).2.2.2.2) (by omega)).mono ?_; rintro e wg ⟨rfl, dg⟩; have OG : Hid (Only X12 wg (fun k => (w3.heap.size ≤ k ∧ k < bF) ∨ (w6.heap.size ≤ k ∧ k < bG) ∨ (X8.heap.size ≤ k ∧ k < bB))) := hide (ob_below OF.out dg); clear dg))
    clear HA HA2 HC OA OB2 OC OD OE OF y0 y1 y2 y3 y4 ya0 ya1 ya2 ya3 ya4 yk0 yk1 yk2 yk3 yk4 yb0 yb1 yb2 yb3 yb4 yc0 yc1 yc2 yc3 yc4 yd0 yd1 yd2 yd3 yd4 yx0 yx1 yx2 yx3 yx4 ye5 yf6
    have y0 : wg.cell? ⟨bF2, 0, none⟩ = some (.string ti) := cell_of (KB.out wg OG.out).2.2.2.1 rfl
    have y1 : wg.cell? ⟨bF2, 1, none⟩ = some (.slice r1 O.length s1) := cell_of (KB.out wg OG.out).2.2.2.1 rfl
    have y2 : wg.cell? ⟨bF2, 2, none⟩ = some (.slice r2 S.length s2) := cell_of (KB.out wg OG.out).2.2.2.1 rfl
    have y3 : wg.cell? ⟨bF2, 3, none⟩ = some (.slice r3 F.length s3) := cell_of (KB.out wg OG.out).2.2.2.1 rfl
    have y4 : wg.cell? ⟨bF2, 4, none⟩ = some (.slice r4 R.length s4) := cell_of (KB.out wg OG.out).2.2.2.1 rfl
    have yk0 : wg.cell? ⟨bK, 0, none⟩ = some (.string ti) := cell_of (KB.out wg OG.out).2.2.2.2.2.2.2.2.1 rfl
    have yk1 : wg.cell? ⟨bK, 1, none⟩ = some (.slice (some ⟨bo, 0, none⟩) O.length (O.length + 64)) := cell_of (KB.out wg OG.out).2.2.2.2.2.2.2.2.1 rfl
    have yk2 : wg.cell? ⟨bK, 2, none⟩ = some (.slice (some ⟨bs, 0, none⟩) S.length (S.length + 64)) := cell_of (KB.out wg OG.out).2.2.2.2.2.2.2.2.1 rfl
    have yk3 : wg.cell? ⟨bK, 3, none⟩ = some (.slice (some ⟨bf, 0, none⟩) F.length (F.length + 64)) := cell_of (KB.out wg OG.out).2.2.2.2.2.2.2.2.1 rfl
    have yk4 : wg.cell? ⟨bK, 4, none⟩ = some (.slice (some ⟨br, 0, none⟩) R.length (R.length + 64)) := cell_of (KB.out wg OG.out).2.2.2.2.2.2.2.2.1 rfl
    go_upto_region 21 with (first
      | (go_at_call_of 10 r1; refine (same_eq wg ti O S F R r1 r2 r3 r4 (some ⟨bo, 0, none⟩) (some ⟨bs, 0, none⟩) (some ⟨bf, 0, none⟩) (some ⟨br, 0, none⟩) s1 s2 s3 s4 (O.length + 64) (S.length + 64) (F.length + 64) (R.length + 64) (hide ⟨(HF2.out.only OG.out fun k z1 z2 z3 => by have := HO.out; omega).ro, opPad_reads (KK.out wg OG.out).1⟩) (hide ⟨(HF2.out.only OG.out fun k z1 z2 z3 => by have := HO.out; omega).rs, padV_reads (KK.out wg OG.out).2.1⟩) (hide ⟨(HF2.out.only OG.out fun k z1 z2 z3 => by have := HO.out; omega).rf, padV_reads (KK.out wg OG.out).2.2.1⟩) (hide ⟨(HF2.out.only OG.out fun k z1 z2 z3 => by have := HO.out; omega).rr, ruPad_reads (KK.out wg OG.out).2.2.2⟩) (by omega) (by omega) (by omega) (by omega)).mono ?_; rintro e wh ⟨rfl, dh⟩; have OH : Hid (Only X12 wh (fun k => (w3.heap.size ≤ k ∧ k < bF) ∨ (w6.heap.size ≤ k ∧ k < bG) ∨ (X8.heap.size ≤ k ∧ k < bB))) := hide (ob_below OG.out dh); clear dh; have ya0 : wh.cell? ⟨bG2, 0, none⟩ = some (.string ti) := cell_of (KB.out wh OH.out).2.2.2.2.2.1 rfl; have ya1 : wh.cell? ⟨bG2, 1, none⟩ = some (.slice j1 O.length o1) := cell_of (KB.out wh OH.out).2.2.2.2.2.1 rfl; have ya2 : wh.cell? ⟨bG2, 2, none⟩ = some (.slice j2 S.length o2) := cell_of (KB.out wh OH.out).2.2.2.2.2.1 rfl; have ya3 : wh.cell? ⟨bG2, 3, none⟩ = some (.slice j3 F.length o3) := cell_of (KB.out wh OH.out).2.2.2.2.2.1 rfl; have ya4 : wh.cell? ⟨bG2, 4, none⟩ = some (.slice j4 R.length o4) := cell_of (KB.out wh OH.out).2.2.2.2.2.1 rfl; have yb0 : wh.cell? ⟨bK, 0, none⟩ = some (.string ti) := cell_of (KB.out wh OH.out).2.2.2.2.2.2.2.2.1 rfl; have yb1 : wh.cell? ⟨bK, 1, none⟩ = some (.slice (some ⟨bo, 0, none⟩) O.length (O.length + 64)) := cell_of (KB.out wh OH.out).2.2.2.2.2.2.2.2.1 rfl; have yb2 : wh.cell? ⟨bK, 2, none⟩ = some (.slice (some ⟨bs, 0, none⟩) S.length (S.length + 64)) := cell_of (KB.out wh OH.out).2.2.2.2.2.2.2.2.1 rfl; have yb3 : wh.cell? ⟨bK, 3, none⟩ = some (.slice (some ⟨bf, 0, none⟩) F.length (F.length + 64)) := cell_of (KB.out wh OH.out).2.2.2.2.2.2.2.2.1 rfl; have yb4 : wh.cell? ⟨bK, 4, none⟩ = some (.slice (some ⟨br, 0, none⟩) R.length (R.length + 64)) := cell_of (KB.out wh OH.out).2.2.2.2.2.2.2.2.1 rfl)
      | (go_at_call_of 10 j1; refine (same_eq wh ti O S F R j1 j2 j3 j4 (some ⟨bo, 0, none⟩) (some ⟨bs, 0, none⟩) (some ⟨bf, 0, none⟩) (some ⟨br, 0, none⟩) o1 o2 o3 o4 (O.length + 64) (S.length + 64) (F.length + 64) (R.length + 64) (hide ⟨(HG2.out.only OH.out fun k z1 z2 z3 => by have := HO.out; omega).ro, opPad_reads (KK.out wh OH.out).1⟩) (hide ⟨(HG2.out.only OH.out fun k z1 z2 z3 => by have := HO.out; omega).rs, padV_reads (KK.out wh OH.out).2.1⟩) (hide ⟨(HG2.out.only OH.out fun k z1 z2 z3 => by have := HO.out; omega).rf, padV_reads (KK.out wh OH.out).2.2.1⟩) (hide ⟨(HG2.out.only OH.out fun k z1 z2 z3 => by have := HO.out; omega).rr, ruPad_reads (KK.out wh OH.out).2.2.2⟩) (by omega) (by omega) (by omega) (by omega)).mono ?_; rintro e wi ⟨rfl, di⟩; have OI : Hid (Only X12 wi (fun k => (w3.heap.size ≤ k ∧ k < bF) ∨ (w6.heap.size ≤ k ∧ k < bG) ∨ (X8.heap.size ≤ k ∧ k < bB))) := hide (ob_below OH.out di); clear di; have yc0 : wi.cell? ⟨bB2, 0, none⟩ = some (.int .i64 (S.length : Int)) := cell_of (KB.out wi OI.out).2.2.2.2.2.2.2.1 rfl; have yc1 : wi.cell? ⟨bB2, 1, none⟩ = some (.int .i64 (Y.length : Int)) := cell_of (KB.out wi OI.out).2.2.2.2.2.2.2.1 rfl; have yc2 : wi.cell? ⟨bB2, 2, none⟩ = some (.slice pp1 (riseL St).length uu1) := cell_of (KB.out wi OI.out).2.2.2.2.2.2.2.1 rfl; have yc3 : wi.cell? ⟨bB2, 3, none⟩ = some (.slice pp2 (riseL Fi).length uu2) := cell_of (KB.out wi OI.out).2.2.2.2.2.2.2.1 rfl; have yc4 : wi.cell? ⟨bB2, 4, none⟩ = some (.slice pp3 (dE Ed).length uu3) := cell_of (KB.out wi OI.out).2.2.2.2.2.2.2.1 rfl; have yd0 : wi.cell? ⟨bW, 0, none⟩ = some (.int .i64 (S.length : Int)) := cell_of (KB.out wi OI.out).2.2.2.2.2.2.2.2.2 rfl; have yd1 : wi.cell? ⟨bW, 1, none⟩ = some (.int .i64 (Y.length : Int)) := cell_of (KB.out wi OI.out).2.2.2.2.2.2.2.2.2 rfl; have yd2 : wi.cell? ⟨bW, 2, none⟩ = some (.slice x1 (riseL St).length f1) := cell_of (KB.out wi OI.out).2.2.2.2.2.2.2.2.2 rfl; have yd3 : wi.cell? ⟨bW, 3, none⟩ = some (.slice x2 (riseL Fi).length f2) := cell_of (KB.out wi OI.out).2.2.2.2.2.2.2.2.2 rfl; have yd4 : wi.cell? ⟨bW, 4, none⟩ = some (.slice x3 (dE Ed).length f3) := cell_of (KB.out wi OI.out).2.2.2.2.2.2.2.2.2 rfl)
      | (go_at_call 15; refine (sameAutoZ_eq wi (S.length : Int) (Y.length : Int) (riseL St) (riseL Fi) (dE Ed) pp1 pp2 pp3 x1 x2 x3 uu1 uu2 uu3 f1 f2 f3 (hide ⟨(HB2.out.only OI.out fun k z1 z2 z3 => by have := HO.out; omega).rd.r1, (HB2.out.only OI.out fun k z1 z2 z3 => by have := HO.out; omega).rd.r2, (HB2.out.only OI.out fun k z1 z2 z3 => by have := HO.out; omega).rd.r3⟩) (hide ⟨(H12.out.1.only OI.out fun k z1 z3 => by have := HO.out; omega).r1, (H12.out.1.only OI.out fun k z1 z3 => by have := HO.out; omega).r2, (H12.out.1.only OI.out fun k z1 z3 => by have := HO.out; omega).r3⟩) (by omega) (by omega) (by omega)).mono ?_; rintro e wj ⟨rfl, dj⟩; have OJ : Hid (Only X12 wj (fun k => (w3.heap.size ≤ k ∧ k < bF) ∨ (w6.heap.size ≤ k ∧ k < bG) ∨ (X8.heap.size ≤ k ∧ k < bB))) := hide (ob_below OI.out dj); clear dj; have ye5 : wj.cell? ⟨w.heap.size, 5, none⟩ = some (.slice asx S.length cs) := cell_of (KB.out wj OJ.out).1 rfl)
      | (go_at_call_of 17 asx; refine (sameT_eq wj pp4 asx uu4 cs S (hide (HB2.out.only OJ.out fun k z1 z2 z3 => by have := HO.out; omega).rd.r4) (hide (KA.out wj (KG.out wj OJ.out).d).2.2.2.1) (by omega)).mono ?_; rintro e wk ⟨rfl, dk⟩; have OK : Hid (Only X12 wk (fun k => (w3.heap.size ≤ k ∧ k < bF) ∨ (w6.heap.size ≤ k ∧ k < bG) ∨ (X8.heap.size ≤ k ∧ k < bB))) := hide (ob_below OJ.out dk); clear dk; have yf6 : wk.cell? ⟨w.heap.size, 6, none⟩ = some (.slice ay Y.length cy) := cell_of (KB.out wk OK.out).1 rfl)
      | (go_at_call_of 17 ay; refine (sameT_eq wk pp5 ay uu5 cy Y (hide (HB2.out.only OK.out fun k z1 z2 z3 => by have := HO.out; omega).rd.r5) (hide (KA.out wk (KG.out wk OK.out).d).2.2.2.2) (by omega)).mono ?_; rintro e wl ⟨rfl, dl⟩; have OL : Hid (Only X12 wl (fun k => (w3.heap.size ≤ k ∧ k < bF) ∨ (w6.heap.size ≤ k ∧ k < bG) ∨ (X8.heap.size ≤ k ∧ k < bB))) := hide (ob_below OK.out dl); clear dl))
    have T7c := T7.out wl b1 b2 b3 hHs hHl (KG.out wl OL.out).d (KG.out wl OL.out).t (KG.out wl OL.out).s (KG.out wl OL.out).l
    clear OG OH OI OJ OK y0 y1 y2 y3 y4 yk0 yk1 yk2 yk3 yk4 ya0 ya1 ya2 ya3 ya4 yb0 yb1 yb2 yb3 yb4 yc0 yc1 yc2 yc3 yc4 yd0 yd1 yd2 yd3 yd4 ye5 yf6
    have y0 : wl.cell? ⟨bA, 0, none⟩ = some (.int .i64 (S.length : Int)) := cell_of (KB.out wl OL.out).2.1 rfl
    have y1 : wl.cell? ⟨bA, 1, none⟩ = some (.int .i64 (Y.length : Int)) := cell_of (KB.out wl OL.out).2.1 rfl
    have y2 : wl.cell? ⟨bA, 2, none⟩ = some (.slice (some ⟨b1, 0, none⟩) St.length (St.length + 64)) := cell_of (KB.out wl OL.out).2.1 rfl
    have y3 : wl.cell? ⟨bA, 3, none⟩ = some (.slice (some ⟨b2, 0, none⟩) Fi.length (Fi.length + 64)) := cell_of (KB.out wl OL.out).2.1 rfl
    have y4 : wl.cell? ⟨bA, 4, none⟩ = some (.slice (some ⟨b3, 0, none⟩) Ed.length (Ed.length + 64)) := cell_of (KB.out wl OL.out).2.1 rfl
    have yx7 : wl.cell? ⟨w.heap.size, 7, none⟩ = some (.string ti) := cell_of (KB.out wl OL.out).1 rfl
    go_upto_region 22 with (go_at_call 7; refine T7c.mono ?_; rintro e wm ⟨l1, l2, l3, l4, n1, n2, n3, n4, rfl, hf, dm⟩)
    obtain ⟨X13, hX13⟩ : ∃ X13, wm.alloc (.cells #[.string ti, .slice l1 O.length n1, .slice l2 S.length n2, .slice l3 F.length n3, .slice l4 R.length n4] 32) = X13 := ⟨_, rfl⟩
    rw [hX13]
    obtain ⟨bN, hbN⟩ : ∃ b, wm.heap.size = b := ⟨_, rfl⟩
    rw [hbN]
    have H13 : Hid (FlA wl.heap.size wm.heap.size X13 O S F R l1 l2 l3 l4 n1 n2 n3 n4 ∧ X13.heap[bN]? = some (.cells #[.string ti, .slice l1 O.length n1, .slice l2 S.length n2, .slice l3 F.length n3, .slice l4 R.length n4] 32 (0, 0)) ∧ Only X12 X13 (fun k => (w3.heap.size ≤ k ∧ k < bF) ∨ (w6.heap.size ≤ k ∧ k < bG) ∨ (X8.heap.size ≤ k ∧ k < bB))) := hide (by
      have dX : Below wm.heap.size wm X13 := by rw [← hX13]; exact (Below.refl _ _).alloc (Nat.le_refl _) _
      exact ⟨hf.below dX, by rw [← hX13, ← hbN]; exact World.alloc_heap_new _ _, ob_below (ob_below OL.out dm) dX⟩)
    clear T7c hf dm hX13 hbN OL y0 y1 y2 y3 y4 yx7
    have y0 : X13.cell? ⟨bN, 0, none⟩ = some (.string ti) := cell_of H13.out.2.1 rfl
    have y1 : X13.cell? ⟨bN, 1, none⟩ = some (.slice l1 O.length n1) := cell_of H13.out.2.1 rfl
    have y2 : X13.cell? ⟨bN, 2, none⟩ = some (.slice l2 S.length n2) := cell_of H13.out.2.1 rfl
    have y3 : X13.cell? ⟨bN, 3, none⟩ = some (.slice l3 F.length n3) := cell_of H13.out.2.1 rfl
    have y4 : X13.cell? ⟨bN, 4, none⟩ = some (.slice l4 R.length n4) := cell_of H13.out.2.1 rfl
    have yk0 : X13.cell? ⟨bK, 0, none⟩ = some (.string ti) := cell_of (KB.out X13 H13.out.2.2).2.2.2.2.2.2.2.2.1 rfl
    have yk1 : X13.cell? ⟨bK, 1, none⟩ = some (.slice (some ⟨bo, 0, none⟩) O.length (O.length + 64)) := cell_of (KB.out X13 H13.out.2.2).2.2.2.2.2.2.2.2.1 rfl
    have yk2 : X13.cell? ⟨bK, 2, none⟩ = some (.slice (some ⟨bs, 0, none⟩) S.length (S.length + 64)) := cell_of (KB.out X13 H13.out.2.2).2.2.2.2.2.2.2.2.1 rfl
    have yk3 : X13.cell? ⟨bK, 3, none⟩ = some (.slice (some ⟨bf, 0, none⟩) F.length (F.length + 64)) := cell_of (KB.out X13 H13.out.2.2).2.2.2.2.2.2.2.2.1 rfl
    have yk4 : X13.cell? ⟨bK, 4, none⟩ = some (.slice (some ⟨br, 0, none⟩) R.length (R.length + 64)) := cell_of (KB.out X13 H13.out.2.2).2.2.2.2.2.2.2.2.1 rfl
    go_wp2_with (first
      | (go_at_call 10; refine (same_eq X13 ti O S F R l1 l2 l3 l4 (some ⟨bo, 0, none⟩) (some ⟨bs, 0, none⟩) (some ⟨bf, 0, none⟩) (some ⟨br, 0, none⟩) n1 n2 n3 n4 (O.length + 64) (S.length + 64) (F.length + 64) (R.length + 64) (hide ⟨H13.out.1.ro, opPad_reads (KK.out X13 H13.out.2.2).1⟩) (hide ⟨H13.out.1.rs, padV_reads (KK.out X13 H13.out.2.2).2.1⟩) (hide ⟨H13.out.1.rf, padV_reads (KK.out X13 H13.out.2.2).2.2.1⟩) (hide ⟨H13.out.1.rr, ruPad_reads (KK.out X13 H13.out.2.2).2.2.2⟩) (by omega) (by omega) (by omega) (by omega)).mono ?_; rintro e wn ⟨rfl, dn⟩; have DN := hide ((KG.out X13 H13.out.2.2).d.trans (dn.mono (KG.out X13 H13.out.2.2).d.size)))
      | (go_at_call 11; refine (least_any wn (hide (KT.out wn DN.out))).mono ?_; rintro e wo ⟨rfl, do'⟩))
    go_ret
    exact ⟨rfl, DN.out.trans (do'.mono DN.out.size)⟩
end Go.Proofs.YtmagchclmmphaabGreatDoor
