import Derived.Test.YtmagchclmmphaabGreatDoorLN
import Derived.Deep.RegionHeld3
namespace Go.Proofs.YtmagchclmmphaabGreatDoor
open Go.RowKit Go.Maps Go.Shelf
attribute [local go_sem] Oper.semAt_some

/-- A text's lines. -/
def lines (s : ByteArray) : List ByteArray := (spans noFeed s).map fun x => s.extract x.1 x.2
def start : AS := ⟨0, ⟨#[]⟩, [], [], [], []⟩
/-- The lines are taken one by one. -/
structure Chain (s : ByteArray) (A : Nat → AS) : Prop where
  zero : A 0 = start
  step : ∀ k (h : k < (lines s).length), TakesL (A k) (pieces (lines s)[k]) (A (k + 1))
  size : ∀ k (h : k < (lines s).length), (A k).O.length + (pieces (lines s)[k]).length ≤ 67000000 ∧ (A k).S.length + (pieces (lines s)[k]).length ≤ 67000000 ∧ (A k).R.length + (pieces (lines s)[k]).length ≤ 67000000
  short : ∀ k (h : k < (lines s).length), ∀ x ∈ pieces (lines s)[k], x.size ≤ 1048576

theorem line_at (s : ByteArray) (k : Nat) (hk : k < (List.map (pieceV s) (spans noFeed s)).length) : ∃ x, ∃ h : k < (lines s).length, (List.map (pieceV s) (spans noFeed s))[k] = .string x ∧ (lines s)[k] = x ∧ x.size ≤ s.size := by
  have hk' : k < (spans noFeed s).length := by simpa using hk
  have h := spans_in noFeed s (List.getElem_mem hk')
  refine ⟨s.extract ((spans noFeed s)[k]).1 ((spans noFeed s)[k]).2, by simp [lines, hk'], by simp [pieceV], by simp [lines], ?_⟩
  rw [ByteArray.size_extract]; omega
theorem pieces_size (s x : ByteArray) (h : x ∈ pieces s) : x.size ≤ s.size := by
  unfold pieces at h
  obtain ⟨y, hy, rfl⟩ := List.mem_map.1 h
  have := spans_in nameB s hy
  rw [ByteArray.size_extract]; omega
/-- A reader's blocks are cells or maps, and none of what lies below n0 but its own block. -/
theorem Rd.kind {n0 b : Nat} {W : World} {r : RS} (h : Rd n0 b W r) {k : Nat} (hk : RB b r k) : (k = b ∨ n0 ≤ k) ∧ ((∃ c t f, W.heap[k]? = some (.cells c t f)) ∨ ∃ es ck, W.heap[k]? = some (.map es ck)) := by
  have ser : ∀ {α : Type} {K : Kd α} {v m : Value} {l : List α}, Ser K n0 W v m l → SB v m k → n0 ≤ k ∧ ((∃ c t f, W.heap[k]? = some (.cells c t f)) ∨ ∃ es ck, W.heap[k]? = some (.map es ck)) := by
    intro α K v m l hs hk
    refine ⟨(hs.lt k hk).1, ?_⟩
    rcases hk with hk | hk
    · rcases hs.own.2 with ⟨rfl, _⟩ | ⟨g, cap, cur, rfl, _, hg, _⟩
      · cases hk
      · obtain rfl : g = k := by simpa [Value.ownBlock] using hk
        exact .inl ⟨_, _, _, hg⟩
    · rcases hs.map with ⟨rfl, _⟩ | ⟨bm, D, rfl, _, ⟨es, ck, h1, _⟩, _⟩
      · simp at hk
      · simp at hk; subst hk; exact .inr ⟨_, _, h1⟩
  rcases hk with rfl | hk | hk | hk
  · exact ⟨.inl rfl, .inl ⟨_, _, _, h.blk⟩⟩
  · exact ⟨.inr (ser h.so hk).1, (ser h.so hk).2⟩
  · exact ⟨.inr (ser h.ss hk).1, (ser h.ss hk).2⟩
  · exact ⟨.inr (ser h.sr hk).1, (ser h.sr hk).2⟩
/-- What read holds behind k lines. -/
structure ReI (w : World) (s : ByteArray) (A : Nat → AS) (k : Nat) (W : World) : Prop where
  rd : ∃ r, RdA (w.heap.size + 4) (w.heap.size + 1) W r (A k)
  t : W.heap[w.heap.size + 2]? = some (.cells #[.string s] 9 (0, 0))
  f : W.heap[w.heap.size]? = some (.cells #[.string ⟨#[]⟩, .slice none 0 0, .slice none 0 0, .slice none 0 0, .slice none 0 0] 32 (0, 0))
  below : Below w.heap.size w W
theorem RdA.only {n0 b : Nat} {W W' : World} {r : RS} {a : AS} {R : Nat → Prop} (h : RdA n0 b W r a) (ho : Only W W' R) (hn : ∀ k, RB b r k → ¬ R k) (hF : ∀ k, r.F.ownBlock = some k → ¬ R k) : RdA n0 b W' r a :=
  ⟨h.rd.only ho hn, h.pl, h.ti, h.O, h.S, h.R, fun hp => by
    obtain ⟨q, e, o, nb⟩ := h.fin hp
    exact ⟨q, e, row_only o ho hF, nb⟩⟩
theorem ReI.on {w : World} {s : ByteArray} {A : Nat → AS} {k : Nat} {W W' : World} (h : ReI w s A k W) (d : Below W.heap.size W W') : ReI w s A k W' := by
  obtain ⟨r, hr⟩ := h.rd
  exact ⟨⟨r, hr.only (Only.ofBelow (R := fun _ => False) d) (fun _ _ h => h) (fun _ _ h => h)⟩, (d.block _ (Array.getElem?_eq_some_iff.1 h.t).1).trans h.t, (d.block _ (Array.getElem?_eq_some_iff.1 h.f).1).trans h.f, h.below.trans (d.mono h.below.size)⟩

theorem at4 (w : World) (o1 o2 o3 o4 : Obj) : let W := (((w.alloc o1).alloc o2).alloc o3).alloc o4
    W.heap[w.heap.size]? = some o1 ∧ W.heap[w.heap.size + 1]? = some o2 ∧ W.heap[w.heap.size + 2]? = some o3 ∧ W.heap[w.heap.size + 3]? = some o4 ∧ W.heap.size = w.heap.size + 4 ∧ Below w.heap.size w W := by
  have a1 := Below.heap_alloc (((w.alloc o1).alloc o2).alloc o3) o4
  have z3 : (((w.alloc o1).alloc o2).alloc o3).heap.size = w.heap.size + 3 := by simp
  refine ⟨(a1 _ (by omega)).trans (at_0 w o1 o2 o3), (a1 _ (by omega)).trans (at_1 w o1 o2 o3), (a1 _ (by omega)).trans (at_2 w o1 o2 o3), ?_, by simp, ?_⟩
  · have := World.alloc_heap_new (((w.alloc o1).alloc o2).alloc o3) o4
    simpa using this
  · exact ((((Below.refl _ _).alloc (Nat.le_refl _) _).alloc (by simp) _).alloc (by simp; omega) _).alloc (by simp; omega) _
theorem RdA.fcell {n0 b : Nat} {W : World} {r : RS} {a : AS} (h : RdA n0 b W r a) (h4 : 4 ≤ a.pl) : ∀ k, r.F.ownBlock = some k → n0 ≤ k ∧ ∃ c t f, W.heap[k]? = some (.cells c t f) := by
  obtain ⟨q, e, o, _⟩ := h.fin h4
  intro k hk
  refine ⟨(o.lt k hk).1, ?_⟩
  rcases o.2 with ⟨e2, _⟩ | ⟨g, cap, cur, e2, _, hg, _⟩
  · rw [e2] at hk; cases hk
  · rw [e2] at hk
    obtain rfl : g = k := by simpa [Value.ownBlock] using hk
    exact ⟨_, _, _, hg⟩
theorem RdA.put {n0 b : Nat} {W : World} {r : RS} {a : AS} {l : Nat} {o o' : Obj} (h : RdA n0 b W r a) (hl : W.heap[l]? = some o) (hc : ∀ c t f, o ≠ .cells c t f) (hm : ∀ es ck, o ≠ .map es ck) : RdA n0 b (W.putObj l o') r a := by
  have ho : Only W (W.putObj l o') (fun k => k = l) := Only.grown (grownBy_putObj' W l o') (fun k hk => by cases hk; rfl)
  refine ⟨h.rd.only ho (fun k hk e => ?_), h.pl, h.ti, h.O, h.S, h.R, fun hp => ?_⟩
  · subst e
    rcases (h.rd.kind hk).2 with ⟨c, t, f, e⟩ | ⟨es, ck, e⟩
    · rw [hl] at e; exact hc _ _ _ (Option.some.inj e)
    · rw [hl] at e; exact hm _ _ (Option.some.inj e)
  · obtain ⟨q, e, o2, nb⟩ := h.fin hp
    refine ⟨q, e, row_only o2 ho (fun k hk e3 => ?_), nb⟩
    subst e3
    obtain ⟨_, c, t, f, e4⟩ := h.fcell hp k hk
    rw [hl] at e4
    exact hc _ _ _ (Option.some.inj e4)
theorem ReI.next {w W W2 W3 : World} {s : ByteArray} {A : Nat → AS} {k L : Nat} {r r' : RS} {rl : Loop} (h1 : 1 < w.heap.size) (hI : ReI w s A k W) (hr : RdA (w.heap.size + 4) (w.heap.size + 1) W r (A k)) (d : Below W.heap.size W W2) (st : Stp (w.heap.size + 4) (w.heap.size + 1) W2 r W3 r') (ra : RdA (w.heap.size + 4) (w.heap.size + 1) W3 r' (A (k + 1)))
    (hd : W.heap[L]? = some (.deferred (some []))) (hl : W.heap[L + 1]? = some (.loop rl)) (hL : w.heap.size + 4 ≤ L) : goesOn L (KpC (w.heap.size + 2) (w.heap.size + 3)) (ReI w s A) (k + 1) W .normal ⟨#[], []⟩ W3 := by
  have nB : ∀ j, j < W.heap.size → (j = L ∨ j = L + 1 ∨ j < w.heap.size + 1 ∨ (w.heap.size + 1 < j ∧ j < w.heap.size + 4)) → ¬ RB (w.heap.size + 1) r j := fun j hj hc hk => by
    obtain ⟨q1, q2⟩ := hr.rd.kind hk
    rcases hc with rfl | rfl | hc | hc
    · rcases q2 with ⟨c, t, f, e⟩ | ⟨es, ck, e⟩ <;> (rw [hd] at e; cases e)
    · rcases q2 with ⟨c, t, f, e⟩ | ⟨es, ck, e⟩ <;> (rw [hl] at e; cases e)
    · omega
    · omega
  have keep : ∀ j, j < W.heap.size → (j = L ∨ j = L + 1 ∨ j < w.heap.size + 1 ∨ (w.heap.size + 1 < j ∧ j < w.heap.size + 4)) → W3.heap[j]? = W.heap[j]? := fun j hj hc =>
    (st.only.block j (Nat.lt_of_lt_of_le hj d.size) (nB j hj hc)).trans (d.block j hj)
  have zl : L + 1 < W.heap.size := (Array.getElem?_eq_some_iff.1 hl).1
  refine ⟨⟨keep L (by omega) (.inl rfl), keep (L + 1) zl (.inr (.inl rfl))⟩, ⟨Nat.le_trans d.size st.only.size, keep _ (by omega) (by omega), keep _ (by omega) (by omega), keep _ (by omega) (by omega)⟩, ⟨r', ra⟩, (keep _ (by omega) (by omega)).trans hI.t, (keep _ (by omega) (by omega)).trans hI.f, ?_⟩
  have ob := hI.below
  exact ⟨(st.only.os.trans d.os).trans ob.os, (st.only.tape.trans d.tape).trans ob.tape, (st.only.output.trans d.output).trans ob.output, Nat.le_trans ob.size (Nat.le_trans d.size st.only.size), fun j hj => (keep j (by omega) (by omega)).trans (ob.block j hj)⟩

/-- The final states' names. -/
def finN (a : AS) : List Nat := (riseL (a.N.map Int.ofNat)).map Int.toNat
theorem compact_mem {zs : List Int} {x : Int} (h : x ∈ Lib.compact zs) : x ∈ zs := by
  unfold Lib.compact Lib.compactUpTo at h
  obtain ⟨j, hj, rfl⟩ := List.mem_map.1 h
  have hlt : j < zs.length := by have := (List.mem_filter.1 hj).1; simpa using this
  simp [hlt]
theorem rise_mem {zs : List Int} {x : Int} (h : x ∈ riseL zs) : x ∈ zs := List.mem_mergeSort.1 (compact_mem h)
theorem finN_mem {a : AS} {n : Nat} (h : n ∈ finN a) : n ∈ a.N := by
  obtain ⟨x, hx, rfl⟩ := List.mem_map.1 h
  obtain ⟨m, hm, rfl⟩ := List.mem_map.1 (rise_mem hx)
  exact hm
theorem finN_at (a : AS) (j : Nat) (h : j < (finN a).length) : ∃ h2 : j < (riseL (a.N.map Int.ofNat)).length, ((finN a)[j] : Int) = (riseL (a.N.map Int.ofNat))[j] := by
  have h2 : j < (riseL (a.N.map Int.ofNat)).length := by simpa [finN] using h
  refine ⟨h2, ?_⟩
  obtain ⟨m, _, hm⟩ := List.mem_map.1 (rise_mem (List.getElem_mem h2))
  have e : (finN a)[j] = (riseL (a.N.map Int.ofNat))[j].toNat := by simp [finN]
  rw [e, ← hm]
  rfl
theorem text_cells : ∀ l : List ByteArray, l.flatMap kText.cs = strV l
  | [] => rfl
  | a :: l => by rw [List.flatMap_cons, text_cells l]; rfl
theorem ser_form {α : Type} {K : Kd α} {n0 : Nat} {W : World} {v m : Value} {l : List α} (h : Ser K n0 W v m l) : ∃ ao cp, v = .slice ao l.length cp := by
  rcases h.own.2 with ⟨e, e2⟩ | ⟨g, cap, cur, e, _⟩
  · exact ⟨none, 0, by rw [e, e2]⟩
  · exact ⟨_, _, e⟩
theorem ser_reads {n0 : Nat} {W : World} {ao : Option Addr} {cp : Nat} {m : Value} {l : List ByteArray} (h : Ser kText n0 W (.slice ao l.length cp) m l) : RdT W ao l := fun j hj => by
  rcases h.own.2 with ⟨e, e2⟩ | ⟨g, cap, cur, e, _, hg, _⟩
  · omega
  · cases e
    refine ⟨g, 0, rfl, ?_⟩
    have ho : W.ownsRow n0 9 1 (.slice (some ⟨g, 0, none⟩) l.length cp) l.length (l.flatMap kText.cs) := h.own
    rw [Nat.zero_add, ho.cellAt j (by omega)]
    rw [text_cells]; simp [strV, hj]

set_option maxRecDepth 100000 in
set_option maxHeartbeats 2000000 in
theorem read_any (s : ByteArray) (A : Nat → AS) (w : World) (hs : s.size ≤ 134217728) (hC : Hid (Chain s A)) (hT : BytesAt w) (h1 : 1 < w.heap.size) (a : AS) (ha : Hid (A (lines s).length = a)) (h4 : Hid (4 ≤ a.pl)) (hN : Hid ((∀ n ∈ a.N, n < a.S.length) ∧ a.N.length ≤ 67108864 ∧ a.S.length ≤ 67108864)) :
    Calls Tryz.prog 43 #[.string s] w fun e w' => ∃ vo vs vn vr, e = .returned (.agg #[.string a.ti, vo, vs, vn, vr]) ∧ w'.ownsRow w.heap.size 66 2 vo a.O.length (a.O.flatMap kOps.cs) ∧ w'.ownsRow w.heap.size 9 1 vs a.S.length (a.S.flatMap kText.cs) ∧ w'.ownsRow w.heap.size 9 1 vn (finN a).length (strV (namesAt (finN a) a.S)) ∧ w'.ownsRow w.heap.size 68 3 vr a.R.length (a.R.flatMap kRules.cs) ∧ vs.ownBlock ≠ vn.ownBlock ∧ Below w.heap.size w w' := by
  refine (callsIn_wide (n := 9)).1 (callsIn_of_wp_marks Tryz.func43 rfl trivial ?_ rfl)
  refine wpIn_wide.2 ?_
  simp only [Tryz.ntmps43, List.size_toArray, List.length_cons, List.length_nil, Nat.reduceAdd, Nat.reduceSub, Array.replicate_succ, Array.replicate_zero, List.push_toArray, List.append_toArray, List.nil_append, List.cons_append]
  go_wp2_with fail
  refine (cut_any s 80 _).mono ?_
  rintro e w1 ⟨rfl, hw1⟩
  obtain rfl := hw1.symm
  obtain ⟨W1, hW1⟩ : ∃ W1, (((w.alloc (.cells #[.string ⟨#[]⟩, .slice none 0 0, .slice none 0 0, .slice none 0 0, .slice none 0 0] 32)).alloc (.cells #[.int .i64 0, .string ⟨#[]⟩, .slice none 0 0, .map none, .slice none 0 0, .map none, .slice none 0 0, .slice none 0 0, .map none] 121)).alloc (.cells #[.string s] 9)).alloc (.cells #[.func (.func 80) #[] #[]] 56) = W1 := ⟨_, rfl⟩
  obtain ⟨q0, q1, q2, q3, hz, qb⟩ : W1.heap[w.heap.size]? = some (.cells #[.string ⟨#[]⟩, .slice none 0 0, .slice none 0 0, .slice none 0 0, .slice none 0 0] 32 (0, 0)) ∧ W1.heap[w.heap.size + 1]? = some (.cells #[.int .i64 0, .string ⟨#[]⟩, .slice none 0 0, .map none, .slice none 0 0, .map none, .slice none 0 0, .slice none 0 0, .map none] 121 (0, 0)) ∧ W1.heap[w.heap.size + 2]? = some (.cells #[.string s] 9 (0, 0)) ∧ W1.heap[w.heap.size + 3]? = some (.cells #[.func (.func 80) #[] #[]] 56 (0, 0)) ∧ W1.heap.size = w.heap.size + 4 ∧ Below w.heap.size w W1 := by rw [← hW1]; exact at4 w _ _ _ _
  have HT1 := hide (hT.below qb h1)
  have hp1 : 1 < W1.heap.size := by omega
  have HI := hide (show ReI w s A 0 W1 from ⟨⟨⟨0, ⟨#[]⟩, [], [], .slice none 0 0, [], .slice none 0 0, .map none, .slice none 0 0, .map none, .slice none 0 0, .map none⟩, by
    rw [hC.out.zero]
    refine ⟨⟨q1, by omega, by omega, Ser.nil _ _, Ser.nil _ _, Ser.nil _ _, ?_, ?_, ?_⟩, rfl, rfl, rfl, rfl, rfl, fun hp => by simp [start] at hp⟩ <;> (rintro k (hk | hk) <;> simp [Value.ownBlock] at hk)⟩, q2, q0, qb⟩)
  have HSEQ := hide (cut_seq_feed 8 noFeed tests_feed s (by omega) (w.heap.size + 2) (w.heap.size + 3) W1 q2 q3 HT1.out hp1)
  go_wp2_with fail
  clear q0 q1 q2 q3 qb hW1
  refine (wpIn_wide (n := 9)).1 ?_
  refine range_in_order (n := 9) (by omega) rfl (enters_of Tryz.func102 (by kernel_rfl) rfl) HSEQ.out KpC.trans ?kb (Below.refl _ _) (ReI w s A) (fun k A A' h d => h.on d) ?ip HI.out (fun x => { tmps := #[.string s, undef, .pointer (some ⟨w.heap.size, 0, none⟩), .pointer (some ⟨w.heap.size + 1, 0, none⟩), x, .string s, .func (.func 102) #[] #[.pointer (some ⟨w.heap.size + 1 + 1, 0, none⟩), .pointer (some ⟨w.heap.size + 1 + 1 + 1, 0, none⟩)], x, undef, undef, undef, undef, undef, undef, undef, undef, undef, undef, undef, undef, undef, undef, undef, undef, undef, undef, undef, undef, undef, undef], defers := [] }) ?assign ?body ?done
  case kb =>
    intro W r r' h
    have hlt : W1.heap.size + 1 < W.heap.size := (Array.getElem?_eq_some_iff.1 h).1
    exact ⟨by simp [World.putObj], World.putObj_heap_other (by omega), World.putObj_heap_other (by omega), World.putObj_heap_other (by omega)⟩
  case ip =>
    intro k B r r' hI h
    obtain ⟨r0, hr⟩ := hI.rd
    refine ⟨⟨r0, hr.put h (fun _ _ _ => by simp) (fun _ _ => by simp)⟩, (World.putObj_heap_other (by omega)).trans hI.t, (World.putObj_heap_other (by omega)).trans hI.f, ?_⟩
    exact ⟨hI.below.os, hI.below.tape, hI.below.output, by have := hI.below.size; simpa [World.putObj] using this, fun j hj => (World.putObj_heap_other (by omega)).trans (hI.below.block j hj)⟩
  case assign =>
    intro l x W K hK
    gi_wp2
    exact hK
  case body =>
    rintro l k W hk hI hd ⟨rl, hl⟩
    obtain ⟨x, hkl, hx, hxl, hxs⟩ := line_at s k hk
    rw [hx]
    obtain ⟨r, hr⟩ := hI.rd
    have HTW := hide (hT.below hI.below h1)
    have hpW : 1 < W.heap.size := by have := hI.below.size; omega
    have hch := hC.out.step k hkl
    have hsz := hC.out.size k hkl
    have hsh := hC.out.short k hkl
    rw [hxl] at hch hsz hsh
    have HSH := hide hsh
    have NEXT := hide (fun (W2 W3 : World) (r' : RS) d st ra => ReI.next (W2 := W2) (W3 := W3) (r' := r') h1 hI hr d st ra hd hl (by omega))
    have HR := hide (And.intro hr (And.intro hch hsz))
    clear hI hr hd hl hx hxl hkl hk hch hsz hsh
    gi_wp2_with fail
    refine ⟨trivial, (CallsIn.inRound l (callsIn_wide.2 (pieces_any x W (by omega) HTW.out hpW))).mono ?_⟩
    rintro e w2 ⟨v, rfl, hown, d2⟩
    rcases hown.2 with ⟨rfl, h0⟩ | ⟨g, cap, cur, rfl, hgb, hgc, hnc, hcm, hcs, htake⟩
    · have HX := hide (And.intro h0 d2)
      clear hown h0 d2
      gi_wp2_with fail
      refine ⟨trivial, (CallsIn.inRound l (callsIn_wide.2 (take_nil (w.heap.size + 1) w2 none 0))).mono ?_⟩
      rintro e w3 ⟨rfl, rfl⟩
      gi_wp2
      obtain ⟨h0, d2⟩ := HX.out
      obtain ⟨hr, hch, _⟩ := HR.out
      have hp0 : pieces x = [] := List.eq_nil_of_length_eq_zero h0
      rw [hp0] at hch
      have ea : A (k + 1) = A k := by
        generalize A (k + 1) = z at hch
        cases hch; rfl
      have hr2 : RdA (w.heap.size + 4) (w.heap.size + 1) w3 r (A k) := hr.only (Only.ofBelow (R := fun _ => False) d2) (fun _ _ h => h) (fun _ _ h => h)
      exact NEXT.out _ _ r d2 (Stp.same hr2.rd (Below.refl _ _)) (by rw [ea]; exact hr2)
    · have hLn : LnS w2 (w.heap.size + 1) r (some ⟨g, 0, none⟩) (pieces x) := fun j hj => ⟨g, 0, rfl, by
        rw [Nat.zero_add, hown.cellAt j (by omega)]
        simp [strV, hj], fun q => by have := HR.out.1.rd.lt _ q; omega⟩
      have hr2 : RdA (w.heap.size + 4) (w.heap.size + 1) w2 r (A k) := HR.out.1.only (Only.ofBelow (R := fun _ => False) d2) (fun _ _ h => h) (fun _ _ h => h)
      have HX := hide (And.intro hLn (And.intro hr2 d2))
      clear hown d2 hLn hr2 htake hcs hgc hgb hcm
      gi_wp2_with fail
      refine ⟨trivial, (CallsIn.inRound l (callsIn_wide.2 (take_line (w.heap.size + 4) (w.heap.size + 1) w2 r (A k) (A (k + 1)) g 0 cap (pieces x) HX.out.2.1 HX.out.1 HR.out.2.1 hnc HSH.out HR.out.2.2))).mono ?_⟩
      rintro e w3 ⟨rfl, r', st, ra⟩
      gi_wp2
      exact NEXT.out _ _ r' HX.out.2.2 st ra
  case done =>
    intro Dq W hD hI hq
    have hlen : (List.map (pieceV s) (spans noFeed s)).length = (lines s).length := by simp [lines]
    rw [hlen] at hI
    obtain ⟨r, hr⟩ := hI.rd
    rw [ha.out] at hr
    obtain ⟨ap, ca, hvs⟩ := ser_form hr.rd.ss
    obtain ⟨a1, c1, hvo⟩ := ser_form hr.rd.so
    obtain ⟨a2, c2, hvr⟩ := ser_form hr.rd.sr
    obtain ⟨qf, hF, hrow, hnb⟩ := hr.fin h4.out
    have k1 : W.cell? ⟨w.heap.size + 1, 1, none⟩ = some (.string a.ti) := by rw [← hr.ti]; exact cell_of hr.rd.blk rfl
    have k2 : W.cell? ⟨w.heap.size + 1, 2, none⟩ = some (.slice a1 a.O.length c1) := by rw [← hr.O, ← hvo]; exact cell_of hr.rd.blk rfl
    have k4 : W.cell? ⟨w.heap.size + 1, 4, none⟩ = some (.slice ap a.S.length ca) := by rw [← hr.S, ← hvs]; exact cell_of hr.rd.blk rfl
    have k6 : W.cell? ⟨w.heap.size + 1, 6, none⟩ = some (.slice (some ⟨qf, 0, none⟩) a.N.length a.N.length) := by rw [← hF]; exact cell_of hr.rd.blk rfl
    have k7 : W.cell? ⟨w.heap.size + 1, 7, none⟩ = some (.slice a2 a.R.length c2) := by rw [← hr.R, ← hvr]; exact cell_of hr.rd.blk rfl
    have hzc : Hid (∀ W2 : World, Below W.heap.size W W2 → ∀ j, j < (a.N.map Int.ofNat).length → W2.cell? ⟨qf, 0 + j, none⟩ = some (.int .i64 ((a.N.map Int.ofNat).getD j 0))) := hide (fun W2 d j hj => by
      have hj' : j < a.N.length := by simpa using hj
      have ho : W.ownsRow (w.heap.size + 4) 3 1 (.slice (some ⟨qf, 0, none⟩) a.N.length a.N.length) a.N.length (intV a.N) := by rw [← hF]; exact hrow
      have hlt : qf < W.heap.size := (ho.lt qf rfl).2
      rw [Nat.zero_add, d.cell (p := ⟨qf, j, none⟩) hlt, ho.cellAt j (by omega)]
      simp [intV, hj', List.getD])
    have hNl : (a.N.map Int.ofNat).length = a.N.length := by simp
    have hfl : (riseL (a.N.map Int.ofNat)).length = (finN a).length := by simp [finN]
    have hst : Hid (RdT W ap a.S) := hide (by
      have q := hr.rd.ss
      rw [hvs, hr.S] at q
      exact ser_reads q)
    have HE := hide (And.intro hI (And.intro hr (And.intro hvs (And.intro hq (And.intro hvo hvr)))))
    have hfl2 : (finN a).length ≤ 67108864 := by
      have q := compact_len ((a.N.map Int.ofNat).mergeSort fun x y => decide (x ≤ y))
      have q2 := hN.out.2.1
      rw [← hfl]
      unfold riseL
      simp at q
      omega
    have hlN := hN.out.2.1
    have hlS := hN.out.2.2
    have hblt : w.heap.size + 1 < W.heap.size := World.block_lt_of_cell? W _ k1
    have SK := hide (fun (W2 : World) (d : Below W.heap.size W W2) => show W2.cell? ⟨w.heap.size + 1, 1, none⟩ = some (.string a.ti) ∧ W2.cell? ⟨w.heap.size + 1, 2, none⟩ = some (.slice a1 a.O.length c1) ∧ W2.cell? ⟨w.heap.size + 1, 4, none⟩ = some (.slice ap a.S.length ca) ∧ W2.cell? ⟨w.heap.size + 1, 6, none⟩ = some (.slice (some ⟨qf, 0, none⟩) a.N.length a.N.length) ∧ W2.cell? ⟨w.heap.size + 1, 7, none⟩ = some (.slice a2 a.R.length c2) from
      ⟨(d.cell (p := ⟨w.heap.size + 1, 1, none⟩) hblt).trans k1, (d.cell (p := ⟨w.heap.size + 1, 2, none⟩) hblt).trans k2, (d.cell (p := ⟨w.heap.size + 1, 4, none⟩) hblt).trans k4, (d.cell (p := ⟨w.heap.size + 1, 6, none⟩) hblt).trans k6, (d.cell (p := ⟨w.heap.size + 1, 7, none⟩) hblt).trans k7⟩)
    have FK := hide (fun (W2 : World) (d : Below W.heap.size W W2) => show W2.heap[w.heap.size]? = some (.cells #[.string ⟨#[]⟩, .slice none 0 0, .slice none 0 0, .slice none 0 0, .slice none 0 0] 32 (0, 0)) from (d.block _ (by omega)).trans HE.out.1.f)
    clear hI hr hvs hvo hvr hq hF hrow hnb
    go_wp2_with fail
    go_region_held3 (fun w' => w'.cell? ⟨w.heap.size + 1, 1, none⟩ = some (.string a.ti) ∧ w'.cell? ⟨w.heap.size + 1, 2, none⟩ = some (.slice a1 a.O.length c1) ∧ w'.cell? ⟨w.heap.size + 1, 4, none⟩ = some (.slice ap a.S.length ca) ∧ w'.cell? ⟨w.heap.size + 1, 6, none⟩ = some (.slice (some ⟨qf, 0, none⟩) a.N.length a.N.length) ∧ w'.cell? ⟨w.heap.size + 1, 7, none⟩ = some (.slice a2 a.R.length c2))
      (first | go_keep | assumption)
      ((first
        | (go_at_call 36; rw [← hNl]; refine (rising_any _ qf 0 _ (a.N.map Int.ofNat) (by omega) (hide (by exact hzc.out _ (Below.refl _ W).drew))).mono ?_; rintro e wa ⟨g', c', rfl, hg', da⟩; have da2 : Below W.heap.size W wa := ⟨da.os, da.tape, da.output, da.size, da.block⟩; have S2 := SK.out wa da2; have HA := hide (And.intro hg' da2); clear hg' da da2; rw [hfl])
        | (go_at_call 35; refine (named_any _ (some ⟨g', 0, none⟩) ap c' ca (finN a) a.S (hide (fun j hj => ⟨g', 0, rfl, by obtain ⟨h2, e2⟩ := finN_at a j hj; rw [Nat.zero_add, HA.out.1 j h2, e2]⟩)) (hide (hst.out.on HA.out.2)) (hide (fun n hn => hN.out.1 n (finN_mem hn))) hfl2 hlS).mono ?_; rintro e wb ⟨rfl, hnr, db⟩; have db2 : Below W.heap.size W wb := HA.out.2.trans (db.mono HA.out.2.size); have S3 := SK.out wb db2; have F3 := FK.out wb db2; have o0 : wb.cell? ⟨w.heap.size, 0, none⟩ = some (.string ⟨#[]⟩) := cell_of F3 rfl; have f0 : wb.frozen? ⟨w.heap.size, 0, none⟩ = false := (by simp [World.frozen?, F3]); have o1 : wb.cell? ⟨w.heap.size, 1, none⟩ = some (.slice none 0 0) := cell_of F3 rfl; have f1 : wb.frozen? ⟨w.heap.size, 1, none⟩ = false := (by simp [World.frozen?, F3]); have o2 : wb.cell? ⟨w.heap.size, 2, none⟩ = some (.slice none 0 0) := cell_of F3 rfl; have f2 : wb.frozen? ⟨w.heap.size, 2, none⟩ = false := (by simp [World.frozen?, F3]); have o3 : wb.cell? ⟨w.heap.size, 3, none⟩ = some (.slice none 0 0) := cell_of F3 rfl; have f3 : wb.frozen? ⟨w.heap.size, 3, none⟩ = false := (by simp [World.frozen?, F3]); have o4 : wb.cell? ⟨w.heap.size, 4, none⟩ = some (.slice none 0 0) := cell_of F3 rfl; have f4 : wb.frozen? ⟨w.heap.size, 4, none⟩ = false := (by simp [World.frozen?, F3]); have HBk := hide (And.intro hnr (And.intro db db2)); clear hnr db db2)))
    have hDz : w.heap.size + 4 ≤ Dq := by omega
    have W5e : ∃ W5, ((((wb.setCell ⟨w.heap.size, 0, none⟩ (.string a.ti)).setCell ⟨w.heap.size, 1, none⟩ (.slice a1 a.O.length c1)).setCell ⟨w.heap.size, 2, none⟩ (.slice ap a.S.length ca)).setCell ⟨w.heap.size, 3, none⟩ (.slice (some ⟨wa.heap.size, 0, none⟩) (finN a).length (finN a).length)).setCell ⟨w.heap.size, 4, none⟩ (.slice a2 a.R.length c2) = W5 := ⟨_, rfl⟩
    obtain ⟨W5, hW5⟩ := W5e
    rw [hW5]
    have e5 : W5.heap[w.heap.size]? = some (.cells #[.string a.ti, .slice a1 a.O.length c1, .slice ap a.S.length ca, .slice (some ⟨wa.heap.size, 0, none⟩) (finN a).length (finN a).length, .slice a2 a.R.length c2] 32 (0, 0)) := by
      rw [← hW5]
      exact heap_setCell_same _ _ 4 _ 32 _ (heap_setCell_same _ _ 3 _ 32 _ (heap_setCell_same _ _ 2 _ 32 _ (heap_setCell_same _ _ 1 _ 32 _ (heap_setCell_same _ _ 0 _ 32 _ F3))))
    have O5 : Only wb W5 (fun k => k = w.heap.size) := by
      rw [← hW5]
      exact ((((only_set wb _ 0 _).trans (only_set _ _ 1 _)).trans (only_set _ _ 2 _)).trans (only_set _ _ 3 _)).trans (only_set _ _ 4 _)
    obtain ⟨hI, hr, hvs, hq, hvo, hvr⟩ := HE.out
    obtain ⟨hnr, db, db2⟩ := HBk.out
    have hDl : Dq < W.heap.size := (Array.getElem?_eq_some_iff.1 hq).1
    have hq5 : W5.heap[Dq]? = some (.deferred (some [])) := (O5.block Dq (Nat.lt_of_lt_of_le hDl db2.size) (by omega)).trans ((db2.block Dq hDl).trans hq)
    have HZ := hide (And.intro e5 (And.intro O5 hq5))
    clear o0 o1 o2 o3 o4 f0 f1 f2 f3 f4 F3 S2 S3 hW5 e5 O5 hq5
    go_wp2_with fail
    refine ⟨by simp, .inl ⟨_, _, rfl, run_takeDeferred HZ.out.2.2, ?_⟩⟩
    have e6 := (World.putObj_heap_other (w := W5) (r := Dq) (k := w.heap.size) (o := .deferred none) (by omega)).trans HZ.out.1
    refine ⟨_, results_cell_row (p := 2) (ty := 32) rfl _ _ w.heap.size 32 _ (0, 0) _ rfl e6 Tryz.underlying32 rfl (by kernel_rfl), ?_⟩
    have O5 := HZ.out.2.1
    have row : ∀ {base e sz n : Nat} {v : Value} {xs : List Value}, W.ownsRow base e sz v n xs → w.heap.size + 4 ≤ base → (W5.putObj Dq (.deferred none)).ownsRow w.heap.size e sz v n xs := fun h hb =>
      owns_mono (ownsRow_putObj (row_only (row_only h (Only.ofBelow (R := fun _ => False) db2) (fun _ _ q => q)) O5 (fun k hk q => by have := (h.lt k hk).1; omega)) _ HZ.out.2.2 rfl) (by omega)
    have hzW : W.heap.size ≤ wa.heap.size := HA.out.2.size
    refine ⟨_, _, _, _, rfl, ?_, ?_, ?_, ?_, ?_, ?_⟩
    · have q := hr.rd.so.own
      rw [hvo, hr.O] at q
      exact row q (Nat.le_refl _)
    · have q := hr.rd.ss.own
      rw [hvs, hr.S] at q
      exact row q (Nat.le_refl _)
    · exact owns_mono (ownsRow_putObj (row_only hnr O5 (fun k hk q => by have := (hnr.lt k hk).1; omega)) _ HZ.out.2.2 rfl) (by omega)
    · have q := hr.rd.sr.own
      rw [hvr, hr.R] at q
      exact row q (Nat.le_refl _)
    · intro q
      have q2 := hr.rd.ss.own
      rw [hvs] at q2
      have := (q2.lt wa.heap.size (by rw [hr.S]; exact q)).2
      omega
    · have ob := hI.below
      exact ⟨O5.os.trans (db2.os.trans ob.os), O5.tape.trans (db2.tape.trans ob.tape), O5.output.trans (db2.output.trans ob.output), by have := O5.size; have := db2.size; have := ob.size; simp [World.putObj]; omega, fun j hj => (World.putObj_heap_other (by omega)).trans ((O5.block j (by have := db2.size; omega) (by omega)).trans ((db2.block j (by omega)).trans (ob.block j hj)))⟩
end Go.Proofs.YtmagchclmmphaabGreatDoor
