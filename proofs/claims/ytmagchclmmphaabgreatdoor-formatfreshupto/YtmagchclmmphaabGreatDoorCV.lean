import Derived.Test.YtmagchclmmphaabGreatDoorPP
import Derived.Test.YtmagchclmmphaabGreatDoorLR
import Derived.Test.YtmagchclmmphaabGreatDoorLM
namespace Go.Proofs.YtmagchclmmphaabGreatDoor
open Go.RowKit Go.Maps

/-! ### What is written, read -/
theorem bts_append (a b : ByteArray) : bts (a ++ b) = bts a ++ bts b := by
  unfold bts
  rw [← List.map_append]
  congr 1
theorem vld_nm {s : ByteArray} (h : vld s = true) : nmOk (bts s) := by
  unfold vld at h
  simp only [Bool.and_eq_true, decide_eq_true_eq] at h
  refine ⟨fun e => ?_, by rw [bts_len]; exact h.1.2, fun b hb => ?_⟩
  · have := congrArg List.length e
    rw [bts_len, List.length_nil] at this
    omega
  · unfold bts at hb
    obtain ⟨c, hc, rfl⟩ := List.mem_map.1 hb
    have := List.all_eq_true.1 h.2 c hc
    rw [← nm_same]; exact this
theorem nm_vld {s : ByteArray} (h : nmOk (bts s)) : vld s = true := by
  unfold vld
  obtain ⟨h1, h2, h3⟩ := h
  rw [bts_len] at h2
  have h0 : 1 ≤ s.size := by
    rcases Nat.eq_zero_or_pos s.size with e | e
    · exact absurd (List.eq_nil_of_length_eq_zero (by rw [bts_len]; exact e)) h1
    · exact e
  rw [decide_eq_true h0, decide_eq_true h2, Bool.true_and, Bool.true_and, List.all_eq_true]
  intro c hc
  have := h3 c.toNat (List.mem_map_of_mem (f := fun x : UInt8 => x.toNat) hc)
  have e := nm_same c.toNat
  rw [this] at e
  exact e
def opQ (x : OpT) : List Nat × Nat := (bts x.1, 48 + x.2)
def ruQ (r : RuT) : List Nat × List Nat × List Nat := (bts r.1, bts r.2.1, bts r.2.2)
theorem dig_bts {a : Nat} (h : a ≤ 1) : bts (digB a) = [48 + a] := by
  match a, h with
  | 0, _ => rfl
  | 1, _ => rfl
theorem opT_bts {x : OpT} (h : x.2 ≤ 1) : bts (opT x) = [32] ++ bts x.1 ++ [58, 48 + x.2] := by
  unfold opT
  rw [bts_append, bts_append, bts_append, dig_bts h]
  simp [bl, bts]
theorem fold_bts {α : Type} (f : α → ByteArray) (g : α → List Nat) (l : List α) (t : ByteArray) (h : ∀ x ∈ l, bts (f x) = g x) : bts (l.foldl (fun t x => t ++ f x) t) = bts t ++ l.flatMap g := by
  induction l generalizing t with
  | nil => simp
  | cons a l ih =>
    rw [List.foldl_cons, ih _ (fun x hx => h x (by simp [hx])), bts_append, h a (by simp), List.flatMap_cons, List.append_assoc]
theorem ruT_bts (r : RuT) : bts (ruT r) = ruN (ruQ r) := by
  unfold ruT ruN ruQ
  simp only [bts_append]
  rfl
theorem flat_map {α β γ : Type} (f : α → β) (g : β → List γ) (l : List α) : (l.map f).flatMap g = l.flatMap fun x => g (f x) := by
  induction l with
  | nil => rfl
  | cons a l ih => simp [ih]
theorem write_bts {ti : ByteArray} {O : List OpT} {S F : List ByteArray} {R : List RuT} (h : ∀ x ∈ O, x.2 ≤ 1) : bts (writeT ti O S F R) = fileN (bts ti) (O.map opQ) (S.map bts) (F.map bts) (R.map ruQ) := by
  unfold writeT rulesT
  rw [fold_bts ruT (fun r => ruN (ruQ r)) R _ (fun x _ => ruT_bts x)]
  unfold w4T
  rw [bts_append]
  unfold onT
  rw [fold_bts (fun s => bl ++ s) (fun x => [32] ++ bts x) F _ (fun x _ => by rw [bts_append]; rfl)]
  unfold w3T
  rw [bts_append]
  unfold onT
  rw [fold_bts (fun s => bl ++ s) (fun x => [32] ++ bts x) S _ (fun x _ => by rw [bts_append]; rfl)]
  unfold w2T
  rw [bts_append, bts_append, bts_append]
  unfold w1T opsT
  rw [fold_bts opT (fun x => [32] ++ bts x.1 ++ [58, 48 + x.2]) O _ (fun x hx => opT_bts (h x hx)), bts_append]
  unfold fileN
  rw [flat_map, flat_map, flat_map, flat_map]
  simp only [List.append_assoc]
  rfl

/-- The pieces of the lines. -/
def ruB (r : RuT) : List ByteArray := if r.2.1 = ⟨#[]⟩ then [r.1, r.2.2] else [r.1, r.2.1, r.2.2]
def fileB (ti : ByteArray) (O : List OpT) (S F : List ByteArray) (R : List RuT) : List (List ByteArray) :=
  [strB wOps :: O.flatMap fun x => [x.1, digB x.2], [strB wAut, ti], strB wSta :: S, strB wFin :: strB wSta :: F, [strB wTra]] ++ R.map ruB
theorem map_inj_bts {l m : List ByteArray} (h : l.map bts = m.map bts) : l = m := (List.map_inj_right (fun _ _ e => bts_inj e)).1 h
theorem bts_nil {s : ByteArray} : bts s = [] ↔ s = ⟨#[]⟩ := by
  constructor
  · intro h; exact bts_inj (h.trans rfl)
  · rintro rfl; rfl
theorem fileB_bts {ti : ByteArray} {O : List OpT} {S F : List ByteArray} {R : List RuT} (h : ∀ x ∈ O, x.2 ≤ 1) : (fileB ti O S F R).map (List.map bts) = fileP (bts ti) (O.map opQ) (S.map bts) (F.map bts) (R.map ruQ) := by
  unfold fileB fileP
  rw [List.map_append]
  congr 1
  · have e1 : (O.flatMap fun x => [x.1, digB x.2]).map bts = flatO (O.map opQ) := by
      unfold flatO
      rw [flat_map]
      induction O with
      | nil => rfl
      | cons a O ih =>
        rw [List.flatMap_cons, List.map_append, ih (fun x hx => h x (by simp [hx])), List.flatMap_cons]
        simp [opQ, dig_bts (h a (by simp))]
    simp only [List.map_cons, List.map_nil, e1]
    rfl
  · rw [List.map_map, List.map_map]
    apply List.map_congr_left
    intro r _
    simp only [Function.comp_apply]
    unfold ruB ruP ruQ
    simp only
    by_cases e : r.2.1 = ⟨#[]⟩
    · rw [if_pos e, if_pos (bts_nil.2 e)]; rfl
    · rw [if_neg e, if_neg (fun q => e (bts_nil.1 q))]; rfl
/-- What a content is made of. -/
structure COk (ti : ByteArray) (O : List OpT) (S F : List ByteArray) (R : List RuT) : Prop where
  ti : vld ti = true
  o : ∀ x ∈ O, vld x.1 = true ∧ x.2 ≤ 1
  s : ∀ x ∈ S, vld x = true
  on : O.Nodup
  sn : S.Nodup
  rn : R.Nodup
  f : ∀ x ∈ F, x ∈ S
  fr : riseOk S (-1) F = true
  r : ∀ x ∈ R, opR x ∈ O ∧ x.2.2 ∈ S ∧ (x.2.1 = ⟨#[]⟩ ∨ x.2.1 ∈ S)
theorem cok_of {ti : ByteArray} {O : List OpI} {S F : List ByteArray} {R : List RuT} (h : valF ti O S F R = true) : COk ti (O.map opN) S F R := by
  unfold valF namesOk at h
  simp only [Bool.and_eq_true, decide_eq_true_eq] at h
  obtain ⟨⟨⟨⟨⟨⟨⟨h1, h2⟩, h3⟩, h4⟩, h5⟩, h6⟩, h7⟩, h8⟩ := h
  refine ⟨h3, fun x hx => ?_, List.all_eq_true.1 h2, h4, h5, h6, rise_in h7, h7, fun x hx => ?_⟩
  · obtain ⟨y, hy, rfl⟩ := List.mem_map.1 hx
    have q := List.all_eq_true.1 h1 _ hy
    simp only [opOk, Bool.and_eq_true, decide_eq_true_eq] at q
    exact ⟨q.1.1, show y.2.toNat ≤ 1 by omega⟩
  · have q := List.all_eq_true.1 h8 x hx
    unfold ruleOk at q
    simp only [Bool.and_eq_true, Bool.or_eq_true, decide_eq_true_eq] at q
    exact ⟨memO_iff.1 q.1.1, memS_iff.1 q.1.2, q.2.imp id memS_iff.1⟩
theorem written_lines {ti : ByteArray} {O : List OpT} {S F : List ByteArray} {R : List RuT} (h : COk ti O S F R) : errF (writeT ti O S F R) = 0 ∧ (lines (writeT ti O S F R)).map pieces = fileB ti O S F R := by
  have hn : ∀ x ∈ O, x.2 ≤ 1 := fun x hx => (h.o x hx).2
  have hr : ∀ r ∈ R.map ruQ, nmOk r.1 ∧ (r.2.1 = [] ∨ nmOk r.2.1) ∧ nmOk r.2.2 := by
    intro r hr
    obtain ⟨x, hx, rfl⟩ := List.mem_map.1 hr
    obtain ⟨q1, q2, q3⟩ := h.r x hx
    refine ⟨vld_nm (h.o _ q1).1, ?_, vld_nm (h.s _ q2)⟩
    rcases q3 with e | e
    · exact .inl (bts_nil.2 e)
    · exact .inr (vld_nm (h.s _ e))
  have k := file_lines (vld_nm h.ti) (P := O.map opQ) (S := S.map bts) (F := F.map bts) (R := R.map ruQ) (fun x hx => by obtain ⟨y, hy, rfl⟩ := List.mem_map.1 hx; exact vld_nm (h.o y hy).1) (fun x hx => by obtain ⟨y, hy, rfl⟩ := List.mem_map.1 hx; have := hn y hy; show 48 + y.2 = 48 ∨ 48 + y.2 = 49; omega) (fun x hx => by obtain ⟨y, hy, rfl⟩ := List.mem_map.1 hx; exact vld_nm (h.s y hy)) (fun x hx => by obtain ⟨y, hy, rfl⟩ := List.mem_map.1 hx; exact vld_nm (h.s y (h.f y hy))) hr
  rw [← write_bts hn] at k
  refine ⟨?_, ?_⟩
  · unfold errF lenF endF
    rw [k.1, bts_len]
    rw [if_neg (by simp; decide)]
  · have e := k.2
    rw [← lines_runs, List.map_map, ← fileB_bts hn] at e
    have e2 : ((lines (writeT ti O S F R)).map pieces).map (List.map bts) = (fileB ti O S F R).map (List.map bts) := by
      rw [List.map_map, ← e]
      apply List.map_congr_left
      intro x _
      exact pieces_runs x
    exact (List.map_inj_right (fun _ _ q => map_inj_bts q)).1 e2

theorem fold_nodup {α : Type} [DecidableEq α] : ∀ (L l : List α), (l ++ L).Nodup → L.foldl sadd l = l ++ L
  | [], l, _ => by simp
  | a :: L, l, h => by
    have ha : a ∉ l := fun hm => by
      rw [List.nodup_append] at h
      exact h.2.2 a hm a (by simp) rfl
    rw [List.foldl_cons, sadd_new ha, fold_nodup L (l ++ [a]) (by simpa using h)]
    simp
theorem fold_in {α : Type} [DecidableEq α] : ∀ (L l : List α), (∀ x ∈ L, x ∈ l) → L.foldl sadd l = l
  | [], l, _ => rfl
  | a :: L, l, h => by
    rw [List.foldl_cons, sadd_old (h a (by simp))]
    exact fold_in L l (fun x hx => h x (by simp [hx]))
theorem pairs_ops : ∀ O : List OpT, pairsB (O.flatMap fun x => [x.1, digB x.2]) = O.map fun x => (x.1, digB x.2)
  | [] => rfl
  | a :: O => by
    rw [List.flatMap_cons, List.map_cons, ← pairs_ops O]
    rfl
theorem arB_dig {a : Nat} (h : a ≤ 1) : arB (digB a) = a := by
  match a, h with
  | 0, _ => rfl
  | 1, _ => rfl
theorem rules_fold {O : List OpT} {S : List ByteArray} : ∀ (R : List RuT) (a : AS), a.pl = 5 → a.O = O → a.S = S → (a.R ++ R).Nodup → (∀ x ∈ R, opR x ∈ O ∧ x.2.2 ∈ S ∧ (x.2.1 = ⟨#[]⟩ ∨ x.2.1 ∈ S)) → (R.map ruB).foldl takeF a = { a with R := a.R ++ R }
  | [], a, _, _, _, _, _ => by simp
  | r :: R, a, hp, hO, hS, hn, h => by
    obtain ⟨q1, q2, q3⟩ := h r (by simp)
    have hr : r ∉ a.R := fun hm => by
      rw [List.nodup_append] at hn
      exact hn.2.2 r hm r (by simp) rfl
    have e : takeF a (ruB r) = { a with R := a.R ++ [r] } := by
      obtain ⟨r1, r2, r3⟩ := r
      unfold ruB
      simp only at q1 q2 q3 ⊢
      by_cases e : r2 = ⟨#[]⟩
      · subst e
        rw [if_pos rfl]
        have o1 : opR (r1, ⟨#[]⟩, r3) = (r1, 0) := by simp [opR]
        rw [o1] at q1
        simp only [takeF, hp]
        rw [sadd_old (by rw [hO]; exact q1), sadd_old (by rw [hS]; exact q2), sadd_new hr]
      · rw [if_neg e]
        have o1 : opR (r1, r2, r3) = (r1, 1) := by simp [opR, e]
        rw [o1] at q1
        have q4 := q3.resolve_left e
        simp only [takeF, hp]
        rw [sadd_old (by rw [hO]; exact q1), sadd_old (l := a.S) (by rw [hS]; exact q4), sadd_old (by rw [hS]; exact q2), sadd_new hr]
    rw [List.map_cons, List.foldl_cons, e, rules_fold R _ (by exact hp) (by exact hO) (by exact hS) (by simpa using hn) (fun x hx => h x (by simp [hx]))]
    simp
/-- A content that is written is read as it was. -/
theorem written_cont {ti : ByteArray} {O : List OpT} {S F : List ByteArray} {R : List RuT} (h : COk ti O S F R) : contF (writeT ti O S F R) = ⟨5, ti, O, S, F.map (posOf S), R⟩ := by
  unfold contF
  rw [(written_lines h).2]
  unfold fileB
  rw [List.foldl_append]
  have e : [strB wOps :: O.flatMap fun x => [x.1, digB x.2], [strB wAut, ti], strB wSta :: S, strB wFin :: strB wSta :: F, [strB wTra]].foldl takeF start = ⟨5, ti, O, S, F.map (posOf S), []⟩ := by
    have eo : ((pairsB (O.flatMap fun x => [x.1, digB x.2])).map opB).foldl sadd [] = O := by
      rw [pairs_ops, List.map_map]
      have : (O.map (opB ∘ fun x => (x.1, digB x.2))) = O := by
        have : ∀ x ∈ O, (opB ∘ fun x : OpT => (x.1, digB x.2)) x = x := fun x hx => by
          simp only [Function.comp_apply, opB]
          rw [arB_dig (h.o x hx).2]
        calc O.map _ = O.map id := List.map_congr_left this
          _ = O := List.map_id _
      rw [this]
      exact fold_nodup O [] (by simpa using h.on)
    have es : S.foldl sadd [] = S := fold_nodup S [] (by simpa using h.sn)
    have ef : F.foldl sadd S = S := fold_in F S h.f
    simp only [List.foldl_cons, List.foldl_nil, takeF, start]
    rw [eo, es, ef]
  rw [e, rules_fold R _ rfl rfl rfl (by simpa using h.rn) h.r]
  simp

theorem compact_up {zs : List Int} (h : zs.Pairwise (· < ·)) : riseL zs = zs := by
  unfold riseL
  rw [List.mergeSort_of_pairwise (h.imp (fun {a b} hab => by simp; omega))]
  apply Lib.compact_all
  intro j hj
  unfold Lib.keeps
  rw [decide_eq_true_eq]
  rcases Nat.eq_zero_or_pos j with e | e
  · exact .inl e
  · right
    have := (List.pairwise_iff_getElem.1 h) (j - 1) j (by omega) hj (by omega)
    simp [hj, show j - 1 < zs.length by omega]
    omega
theorem rise_pair {S : List ByteArray} : ∀ {F : List ByteArray} {z : Int}, riseOk S z F = true → (F.map fun x => (posOf S x : Int)).Pairwise (· < ·) ∧ ∀ x ∈ F, z < (posOf S x : Int)
  | [], _, _ => ⟨by simp, fun x hx => by cases hx⟩
  | y :: t, z, h => by
    unfold riseOk at h
    simp only [Bool.and_eq_true, decide_eq_true_eq] at h
    obtain ⟨k1, k2⟩ := rise_pair h.2
    refine ⟨?_, fun x hx => ?_⟩
    · rw [List.map_cons, List.pairwise_cons]
      refine ⟨fun a ha => ?_, k1⟩
      obtain ⟨x, hx, rfl⟩ := List.mem_map.1 ha
      exact k2 x hx
    · rcases List.mem_cons.1 hx with rfl | hx
      · exact h.1.2
      · have := k2 x hx; omega
/-- .. its final states too. -/
theorem written_fin {ti : ByteArray} {O : List OpT} {S F : List ByteArray} {R : List RuT} (h : COk ti O S F R) : namesAt (finN (contF (writeT ti O S F R))) S = F := by
  rw [written_cont h]
  unfold finN
  simp only [List.map_map]
  have e : List.map (Int.ofNat ∘ posOf S) F = F.map fun x => (posOf S x : Int) := rfl
  rw [e, compact_up (rise_pair h.fr).1, List.map_map]
  unfold namesAt
  rw [List.map_map]
  have : ∀ x ∈ F, ((fun n => S[n]?.getD ⟨#[]⟩) ∘ Int.toNat ∘ fun x => (posOf S x : Int)) x = x := fun x hx => by
    obtain ⟨hi, he⟩ := posOf_get (h.f x hx)
    simp only [Function.comp_apply, Int.toNat_natCast]
    rw [List.getElem?_eq_getElem hi, he]
    rfl
  calc F.map _ = F.map id := List.map_congr_left this
    _ = F := List.map_id _
end Go.Proofs.YtmagchclmmphaabGreatDoor
namespace Go.Proofs.YtmagchclmmphaabGreatDoor
open Go.RowKit Go.Maps

/-! ### What is read may be -/
theorem runs_in (h : Nat → Bool) (t c : List Nat) (hc : ∀ b ∈ c, h b = true) : ∀ x ∈ runsF h c t, ∀ b ∈ x, h b = true := by
  have e : ∀ c : List Nat, (∀ b ∈ c, h b = true) → ∀ x ∈ endC [] c, ∀ b ∈ x, h b = true := by
    intro c hc x hx
    unfold endC at hx
    split at hx
    · cases hx
    · simp at hx; subst hx; exact hc
  induction t generalizing c with
  | nil => exact e c hc
  | cons b t ih =>
    unfold runsF
    split
    · rename_i hb
      exact ih _ (fun x hx => by rcases List.mem_append.1 hx with q | q; exact hc x q; rw [List.mem_singleton.1 q]; exact hb)
    · intro x hx
      rcases List.mem_append.1 hx with hx | hx
      · exact e c hc x hx
      · exact ih [] (fun _ q => by cases q) x hx
/-- What a reader holds may be. -/
structure AV (a : AS) : Prop where
  t : 2 ≤ a.pl → vld a.ti = true
  o : ∀ x ∈ a.O, vld x.1 = true ∧ x.2 ≤ 1
  on : a.O.Nodup
  s : ∀ x ∈ a.S, vld x = true
  sn : a.S.Nodup
  rn : a.R.Nodup
  n : ∀ i ∈ a.N, i < a.S.length
  r : ∀ x ∈ a.R, opR x ∈ a.O ∧ x.2.2 ∈ a.S ∧ (x.2.1 = ⟨#[]⟩ ∨ x.2.1 ∈ a.S)
theorem sadd_nod {α : Type} [DecidableEq α] {l : List α} {x : α} (h : l.Nodup) : (sadd l x).Nodup := by
  unfold sadd
  split
  · exact h
  · rename_i hx
    rw [List.nodup_append]
    exact ⟨h, by simp, fun a ha b hb e => by simp at hb; subst hb; subst e; exact hx ha⟩
theorem fold_nod {α : Type} [DecidableEq α] : ∀ (L l : List α), l.Nodup → (L.foldl sadd l).Nodup
  | [], _, h => h
  | a :: L, l, h => fold_nod L (sadd l a) (sadd_nod h)
theorem pairs_fl : ∀ (P : List (List Nat × Nat)) (M : List ByteArray), M.map bts = flatO P → ∀ p ∈ pairsB M, ∃ x ∈ P, bts p.2 = [x.2]
  | [], M, h, p, hp => by
    have : M = [] := by simpa [flatO] using h
    subst this; simp [pairsB] at hp
  | q :: P, M, h, p, hp => by
    match M, h with
    | [], h => simp [flatO] at h
    | [_], h => simp [flatO] at h
    | x :: y :: t, h =>
      have h2 : bts y = [q.2] ∧ t.map bts = flatO P := by simp [flatO] at h; exact ⟨h.2.1, by simpa [flatO] using h.2.2⟩
      simp only [pairsB, List.mem_cons] at hp
      rcases hp with rfl | hp
      · exact ⟨q, by simp, h2.1⟩
      · obtain ⟨z, hz, e⟩ := pairs_fl P t h2.2 p hp
        exact ⟨z, by simp [hz], e⟩
theorem arB_of {s : ByteArray} {d : Nat} (h : bts s = [d]) (hd : d = 48 ∨ d = 49) : arB s ≤ 1 := by
  rcases hd with rfl | rfl
  · have : s = digB 0 := bts_inj (h.trans rfl)
    rw [this]; decide
  · have : s = digB 1 := bts_inj (h.trans rfl)
    rw [this]; decide
theorem take_av {a : AS} {L : List ByteArray} (h : AV a) (hf : fineL a.pl (L.map bts)) (hv : ∀ x ∈ L, vld x = true) : AV (takeF a L) := by
  rcases hf with e | ⟨hp, P, hP, e⟩ | ⟨hp, n, e⟩ | ⟨hp, M, e⟩ | ⟨hp, M, e⟩ | ⟨hp, e⟩ | ⟨hp, ⟨n1, n2, e⟩ | ⟨n1, n2, n3, e⟩⟩
  · have : L = [] := by simpa using e
    subst this
    simpa [takeF] using h
  · obtain ⟨g, M, rfl, _, e2⟩ := List.map_eq_cons_iff.1 e
    have ee : takeF a (g :: M) = { a with pl := 1, O := ((pairsB M).map opB).foldl sadd a.O } := by simp [takeF, hp]
    rw [ee]
    refine ⟨fun q => by simp at q, fun x hx => ?_, fold_nod _ _ h.on, h.s, h.sn, h.rn, h.n, fun x hx => ?_⟩
    · rcases fold_mem.1 hx with hx | hx
      · exact h.o x hx
      · obtain ⟨p, hp2, rfl⟩ := List.mem_map.1 hx
        obtain ⟨z, hz, ez⟩ := pairs_fl P M e2 p hp2
        exact ⟨hv p.1 (List.mem_cons_of_mem _ (pairs_mem M p hp2).1), arB_of ez (hP z hz)⟩
    · obtain ⟨q1, q2⟩ := h.r x hx
      exact ⟨fold_mem.2 (.inl q1), q2⟩
  · obtain ⟨g, M, rfl, _, e2⟩ := List.map_eq_cons_iff.1 e
    obtain ⟨s, M, rfl, _, e3⟩ := List.map_eq_cons_iff.1 e2
    have ee : takeF a (g :: s :: M) = { a with pl := 2, ti := s } := by simp [takeF, hp]
    rw [ee]
    exact ⟨fun _ => hv s (by simp), h.o, h.on, h.s, h.sn, h.rn, h.n, h.r⟩
  · obtain ⟨g, M, rfl, _, e2⟩ := List.map_eq_cons_iff.1 e
    have ee : takeF a (g :: M) = { a with pl := 3, S := M.foldl sadd a.S } := by simp [takeF, hp]
    rw [ee]
    refine ⟨fun _ => h.t (by omega), h.o, h.on, fun x hx => ?_, fold_nod _ _ h.sn, h.rn, fun i hi => Nat.lt_of_lt_of_le (h.n i hi) (fold_ge M a.S), fun x hx => ?_⟩
    · rcases fold_mem.1 hx with hx | hx
      · exact h.s x hx
      · exact hv x (by simp [hx])
    · obtain ⟨q1, q2, q3⟩ := h.r x hx
      exact ⟨q1, fold_mem.2 (.inl q2), q3.imp id (fun q => fold_mem.2 (.inl q))⟩
  · obtain ⟨g, M, rfl, _, e2⟩ := List.map_eq_cons_iff.1 e
    obtain ⟨g2, M, rfl, _, e3⟩ := List.map_eq_cons_iff.1 e2
    have ee : takeF a (g :: g2 :: M) = { a with pl := 4, S := M.foldl sadd a.S, N := M.map (posOf (M.foldl sadd a.S)) } := by simp [takeF, hp]
    rw [ee]
    refine ⟨fun _ => h.t (by omega), h.o, h.on, fun x hx => ?_, fold_nod _ _ h.sn, h.rn, fun i hi => ?_, fun x hx => ?_⟩
    · rcases fold_mem.1 hx with hx | hx
      · exact h.s x hx
      · exact hv x (by simp [hx])
    · obtain ⟨x, hx, rfl⟩ := List.mem_map.1 hi
      exact posOf_lt (fold_mem.2 (.inr hx))
    · obtain ⟨q1, q2, q3⟩ := h.r x hx
      exact ⟨q1, fold_mem.2 (.inl q2), q3.imp id (fun q => fold_mem.2 (.inl q))⟩
  · obtain ⟨g, M, rfl, _, e2⟩ := List.map_eq_cons_iff.1 e
    have ee : takeF a (g :: M) = { a with pl := 5 } := by simp [takeF, hp]
    rw [ee]
    exact ⟨fun _ => h.t (by omega), h.o, h.on, h.s, h.sn, h.rn, h.n, h.r⟩
  · obtain ⟨s1, M, rfl, _, e2⟩ := List.map_eq_cons_iff.1 e
    obtain ⟨s3, M, rfl, _, e3⟩ := List.map_eq_cons_iff.1 e2
    obtain rfl : M = [] := by simpa using e3
    have ee : takeF a [s1, s3] = { a with O := sadd a.O (s1, 0), S := sadd a.S s3, R := sadd a.R (s1, ⟨#[]⟩, s3) } := by simp [takeF, hp]
    rw [ee]
    refine ⟨fun _ => h.t (by omega), fun x hx => ?_, sadd_nod h.on, fun x hx => ?_, sadd_nod h.sn, sadd_nod h.rn, fun i hi => Nat.lt_of_lt_of_le (h.n i hi) (sadd_len a.S s3).1, fun x hx => ?_⟩
    · rcases sadd_mem.1 hx with hx | rfl
      · exact h.o x hx
      · exact ⟨hv s1 (by simp), by simp⟩
    · rcases sadd_mem.1 hx with hx | rfl
      · exact h.s x hx
      · exact hv x (by simp)
    · rcases sadd_mem.1 hx with hx | rfl
      · obtain ⟨q1, q2, q3⟩ := h.r x hx
        exact ⟨sadd_mem.2 (.inl q1), sadd_mem.2 (.inl q2), q3.imp id (fun q => sadd_mem.2 (.inl q))⟩
      · exact ⟨sadd_mem.2 (.inr (by simp [opR])), sadd_mem.2 (.inr rfl), .inl rfl⟩
  · obtain ⟨s1, M, rfl, _, e2⟩ := List.map_eq_cons_iff.1 e
    obtain ⟨s2, M, rfl, _, e3⟩ := List.map_eq_cons_iff.1 e2
    obtain ⟨s3, M, rfl, _, e4⟩ := List.map_eq_cons_iff.1 e3
    obtain rfl : M = [] := by simpa using e4
    have ee : takeF a [s1, s2, s3] = { a with O := sadd a.O (s1, 1), S := sadd (sadd a.S s2) s3, R := sadd a.R (s1, s2, s3) } := by simp [takeF, hp]
    have hs2 : s2 ≠ ⟨#[]⟩ := fun q => by have := hv s2 (by simp); rw [q] at this; revert this; decide
    rw [ee]
    refine ⟨fun _ => h.t (by omega), fun x hx => ?_, sadd_nod h.on, fun x hx => ?_, sadd_nod (sadd_nod h.sn), sadd_nod h.rn, fun i hi => Nat.lt_of_lt_of_le (h.n i hi) (Nat.le_trans (sadd_len a.S s2).1 (sadd_len _ s3).1), fun x hx => ?_⟩
    · rcases sadd_mem.1 hx with hx | rfl
      · exact h.o x hx
      · exact ⟨hv s1 (by simp), by simp⟩
    · rcases sadd_mem.1 hx with hx | rfl
      · rcases sadd_mem.1 hx with hx | rfl
        · exact h.s x hx
        · exact hv x (by simp)
      · exact hv x (by simp)
    · rcases sadd_mem.1 hx with hx | rfl
      · obtain ⟨q1, q2, q3⟩ := h.r x hx
        exact ⟨sadd_mem.2 (.inl q1), sadd_mem.2 (.inl (sadd_mem.2 (.inl q2))), q3.imp id (fun q => sadd_mem.2 (.inl (sadd_mem.2 (.inl q))))⟩
      · exact ⟨sadd_mem.2 (.inr (by simp [opR, hs2])), sadd_mem.2 (.inr rfl), .inr (sadd_mem.2 (.inl (sadd_mem.2 (.inr rfl))))⟩
theorem start_av : AV start := ⟨fun q => by simp [start] at q, fun _ h => by simp [start] at h, List.nodup_nil, fun _ h => by simp [start] at h, List.nodup_nil, List.nodup_nil, fun _ h => by simp [start] at h, fun _ h => by simp [start] at h⟩
theorem good_av (LB : List ByteArray) : ∀ (n : Nat) {Ls : List (List Nat)} {pl : Nat}, Good Ls pl → Ls.length = n → (LB.take n).map bts = Ls → AV (((LB.take n).map pieces).foldl takeF start) ∧ (((LB.take n).map pieces).foldl takeF start).pl = pl := by
  intro n
  induction n with
  | zero =>
    intro Ls pl hg hn hm
    cases hg with
    | nil => exact ⟨start_av, rfl⟩
    | add l h1 h2 h3 => simp at hn
  | succ n ih =>
    intro Ls pl hg hn hm
    have tk := (good_takes LB (n + 1) hg hn hm).2
    refine ⟨?_, tk⟩
    cases hg with
    | nil => simp at hn
    | @add Ls pl l h1 h2 h3 =>
      have hn' : Ls.length = n := by simpa using hn
      have hlen : n < LB.length := by
        have := congrArg List.length hm
        rw [List.length_map, List.length_take, List.length_append, List.length_singleton] at this
        omega
      rw [List.take_succ_eq_append_getElem hlen, List.map_append] at hm
      obtain ⟨e1, e2⟩ := List.append_inj' hm rfl
      obtain ⟨k1, k2⟩ := ih h1 hn' e1
      have e3 : bts LB[n] = l := by simpa using e2
      have h4 := runs_in isNm l [] (fun _ q => by cases q)
      rw [← e3, ← pieces_runs] at h2 h3 h4
      rw [← k2] at h2
      have e4 : ((LB.take (n + 1)).map pieces).foldl takeF start = takeF (((LB.take n).map pieces).foldl takeF start) (pieces LB[n]) := by
        rw [List.take_succ_eq_append_getElem hlen, List.map_append, List.foldl_append]; rfl
      rw [e4]
      refine take_av k1 h2 (fun x hx => nm_vld ⟨?_, (h3 _ (List.mem_map_of_mem hx)).2, h4 _ (List.mem_map_of_mem hx)⟩)
      exact List.length_pos_iff.1 (h3 _ (List.mem_map_of_mem hx)).1
theorem cont_av (s : ByteArray) (h : errF s = 0) : AV (contF s) ∧ (contF s).pl = 5 := by
  have hc : lenF s = s.size ∧ isF (endF s) = true := by
    unfold errF at h
    split at h
    · cases h
    · rename_i hn
      have := len_le s
      refine ⟨by omega, ?_⟩
      cases hq : isF (endF s)
      · exact absurd (.inr hq) hn
      · rfl
  have hg := good_of (u := bts s) (by rw [bts_len]; exact hc.1) hc.2
  rw [← lines_runs] at hg
  have k := good_av (lines s) (lines s).length hg (by simp) (by simp)
  rw [List.take_length] at k
  exact k

/-! ### Places that rise, each once -/
theorem compact_lt {zs : List Int} (hs : zs.Pairwise (· ≤ ·)) : (Lib.compact zs).Pairwise (· < ·) := by
  have key : ∀ m, m ≤ zs.length → (Lib.compactUpTo zs.toArray m).Pairwise (· < ·) ∧ (∀ x ∈ Lib.compactUpTo zs.toArray m, ∃ j, j < m ∧ ∃ h : j < zs.length, x = zs[j]) := by
    intro m
    induction m with
    | zero => intro _; exact ⟨by simp [Lib.compactUpTo], fun x hx => by simp [Lib.compactUpTo] at hx⟩
    | succ m ih =>
      intro hm
      obtain ⟨k1, k2⟩ := ih (by omega)
      rw [Lib.compactUpTo_succ]
      by_cases hk : Lib.keeps zs.toArray m = true
      · rw [if_pos hk]
        have hm' : m < zs.length := by omega
        have em : zs.toArray[m]! = zs[m] := by simp [hm']
        refine ⟨?_, fun x hx => ?_⟩
        · rw [List.pairwise_append]
          refine ⟨k1, by simp, fun x hx y hy => ?_⟩
          rw [List.mem_singleton.1 hy, em]
          obtain ⟨j, hj, hjl, rfl⟩ := k2 x hx
          unfold Lib.keeps at hk
          rw [decide_eq_true_eq] at hk
          have hm0 : m ≠ 0 := by omega
          have hk2 := hk.resolve_left hm0
          have e1 : zs.toArray[m - 1]! = zs[m - 1] := by simp [show m - 1 < zs.length by omega]
          rw [em, e1] at hk2
          have l1 : zs[m - 1] ≤ zs[m] := (List.pairwise_iff_getElem.1 hs) (m - 1) m (by omega) hm' (by omega)
          have l2 : zs[j] ≤ zs[m - 1] := by
            rcases Nat.lt_or_ge j (m - 1) with q | q
            · exact (List.pairwise_iff_getElem.1 hs) j (m - 1) hjl (by omega) q
            · have : j = m - 1 := by omega
              subst this; exact Int.le_refl _
          omega
        · rcases List.mem_append.1 hx with hx | hx
          · obtain ⟨j, hj, q⟩ := k2 x hx
            exact ⟨j, by omega, q⟩
          · rw [List.mem_singleton.1 hx]; exact ⟨m, by omega, hm', em⟩
      · rw [if_neg hk, List.append_nil]
        exact ⟨k1, fun x hx => by obtain ⟨j, hj, q⟩ := k2 x hx; exact ⟨j, by omega, q⟩⟩
  exact (key zs.length (Nat.le_refl _)).1
theorem riseL_lt (zs : List Int) : (riseL zs).Pairwise (· < ·) := by
  unfold riseL
  apply compact_lt
  have := List.pairwise_mergeSort (le := fun x y : Int => decide (x ≤ y)) (fun a b c h1 h2 => by simp at *; omega) (fun a b => by simp; omega) zs
  exact this.imp (fun {a b} h => by simpa using h)
theorem posOf_at {S : List ByteArray} (hn : S.Nodup) {n : Nat} (h : n < S.length) : posOf S S[n] = n := posOf_eq hn (List.getElem?_eq_getElem h)
theorem rise_names {S : List ByteArray} (hn : S.Nodup) : ∀ (N : List Nat) (z : Int), (N.map Int.ofNat).Pairwise (· < ·) → (∀ n ∈ N, z < (n : Int) ∧ n < S.length) → riseOk S z (namesAt N S) = true
  | [], _, _, _ => rfl
  | n :: N, z, hp, hb => by
    obtain ⟨b1, b2⟩ := hb n (by simp)
    rw [List.map_cons, List.pairwise_cons] at hp
    have e : namesAt (n :: N) S = S[n] :: namesAt N S := by
      unfold namesAt
      rw [List.map_cons, List.getElem?_eq_getElem b2]; rfl
    rw [e]
    unfold riseOk
    rw [posOf_at hn b2, decide_eq_true b2, decide_eq_true b1]
    simp only [Bool.true_and]
    exact rise_names hn N n hp.2 (fun m hm => ⟨hp.1 _ (List.mem_map_of_mem hm), (hb m (by simp [hm])).2⟩)
theorem fin_up (a : AS) : (finN a).map Int.ofNat = riseL (a.N.map Int.ofNat) := by
  unfold finN
  rw [List.map_map]
  have : ∀ x ∈ riseL (a.N.map Int.ofNat), (Int.ofNat ∘ Int.toNat) x = x := fun x hx => by
    obtain ⟨m, _, rfl⟩ := List.mem_map.1 (rise_mem hx)
    rfl
  calc (riseL (a.N.map Int.ofNat)).map _ = (riseL (a.N.map Int.ofNat)).map id := List.map_congr_left this
    _ = _ := List.map_id _
/-- What is read may be. -/
theorem read_val (s : ByteArray) (h : errF s = 0) : valF (contF s).ti ((contF s).O.map opOI) (contF s).S (namesAt (finN (contF s)) (contF s).S) (contF s).R = true := by
  obtain ⟨a, hp⟩ := cont_av s h
  have eo : ((contF s).O.map opOI).map opN = (contF s).O := by
    rw [List.map_map]
    calc (contF s).O.map (opN ∘ opOI) = (contF s).O.map id := List.map_congr_left (fun x _ => by simp [opN, opOI])
      _ = _ := List.map_id _
  unfold valF namesOk
  rw [eo, decide_eq_true a.on, decide_eq_true a.sn, decide_eq_true a.rn, a.t (by omega)]
  have e1 : ((contF s).O.map opOI).all opOk = true := by
    rw [List.all_eq_true]
    intro x hx
    obtain ⟨y, hy, rfl⟩ := List.mem_map.1 hx
    obtain ⟨q1, q2⟩ := a.o y hy
    unfold opOk opOI
    simp only [q1, Bool.true_and, Bool.and_eq_true, decide_eq_true_eq]
    omega
  have e2 : (contF s).S.all vld = true := List.all_eq_true.2 a.s
  have e3 : riseOk (contF s).S (-1) (namesAt (finN (contF s)) (contF s).S) = true := by
    apply rise_names a.sn
    · rw [fin_up]; exact riseL_lt _
    · intro n hn
      exact ⟨by omega, a.n n (finN_mem hn)⟩
  have e4 : (contF s).R.all (ruleOk (contF s).O (contF s).S) = true := by
    rw [List.all_eq_true]
    intro x hx
    obtain ⟨q1, q2, q3⟩ := a.r x hx
    unfold ruleOk
    rw [memO_iff.2 q1, memS_iff.2 q2]
    rcases q3 with q | q
    · rw [decide_eq_true q]; rfl
    · rw [memS_iff.2 q]; simp
  rw [e1, e2, e3, e4]
  rfl
end Go.Proofs.YtmagchclmmphaabGreatDoor
