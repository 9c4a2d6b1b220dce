import Derived.Test.YtmagchclmmphaabGreatDoorRe
import Derived.Test.YtmagchclmmphaabGreatDoorLR
namespace Go.Proofs.YtmagchclmmphaabGreatDoor
open Go.RowKit Go.Maps

theorem bts_extract (s : ByteArray) (a b : Nat) : bts (s.extract a b) = ((bts s).drop a).take (b - a) := by
  unfold bts
  rw [Lib.extract_data, List.map_take, List.map_drop]
theorem bts_inj {a b : ByteArray} (h : bts a = bts b) : a = b := by
  have h2 : a.data.toList = b.data.toList := by
    unfold bts at h
    exact (List.map_inj_right (fun x y e => UInt8.toNat_inj.1 e)).1 h
  cases a; cases b
  simp at h2
  rw [h2]
theorem ext_nil (s : ByteArray) (a i : Nat) (ha : a ≤ i) (hi : i ≤ s.size) : bts (s.extract a i) = [] ↔ a = i := by
  rw [← List.length_eq_zero_iff, bts_len, ByteArray.size_extract]; omega
theorem spans_runs (h : Nat → Bool) (s : ByteArray) (t : List Nat) : ∀ (i a : Nat), a ≤ i → i ≤ s.size → (bts s).drop i = t → (spansFrom h t i a).map (fun x => bts (s.extract x.1 x.2)) = runsF h (bts (s.extract a i)) t := by
  have one : ∀ i a, a ≤ i → i ≤ s.size → (if a < i then [(a, i)] else []).map (fun x : Nat × Nat => bts (s.extract x.1 x.2)) = endC [] (bts (s.extract a i)) := by
    intro i a ha hi
    have e := ext_nil s a i ha hi
    by_cases hlt : a < i
    · rw [if_pos hlt, endC_ne _ (fun h => by have := e.1 h; omega)]; rfl
    · rw [if_neg hlt, e.2 (by omega), endC_nil]; rfl
  induction t with
  | nil => intro i a ha hi _; exact one i a ha hi
  | cons b t ih =>
    intro i a ha hi ht
    have hlt : i < s.size := by
      rcases Nat.lt_or_ge i s.size with h | h
      · exact h
      · rw [List.drop_eq_nil_of_le (by rw [bts_len]; exact h)] at ht; cases ht
    rw [bts_drop s i hlt] at ht
    injection ht with hb ht
    unfold spansFrom runsF
    split
    · rw [ih (i + 1) a (by omega) hlt ht]
      congr 1
      rw [bts_extract, bts_extract, show i + 1 - a = (i - a) + 1 by omega, List.take_add_one, List.getElem?_drop, show a + (i - a) = i by omega, List.getElem?_eq_getElem (by rw [bts_len]; exact hlt), bts_get s i hlt, hb]
      rfl
    · rw [List.map_append, one i a ha hi, ih (i + 1) (i + 1) (Nat.le_refl _) hlt ht]
      rw [(ext_nil s (i + 1) (i + 1) (Nat.le_refl _) hlt).2 rfl]
theorem nm_same (b : Nat) : nameB b = isNm b := by
  unfold nameB nameC isNm inRow
  simp only [loOf, hiOf]
  rw [Bool.eq_iff_iff]
  simp
  omega
theorem spans_all (h : Nat → Bool) (s : ByteArray) : (spans h s).map (fun x => bts (s.extract x.1 x.2)) = runsF h [] (bts s) := by
  have := spans_runs h s (bts s) 0 0 (Nat.le_refl _) (Nat.zero_le _) rfl
  rw [(ext_nil s 0 0 (Nat.le_refl _) (Nat.zero_le _)).2 rfl] at this
  exact this
theorem pieces_runs (x : ByteArray) : (pieces x).map bts = runsF isNm [] (bts x) := by
  have e : nameB = isNm := funext nm_same
  unfold pieces
  rw [List.map_map, ← e]
  exact spans_all nameB x
theorem lines_runs (s : ByteArray) : (lines s).map bts = runsF fdB [] (bts s) := by
  unfold lines
  rw [List.map_map]
  exact spans_all noFeed s
theorem pieces_le (x : ByteArray) : 2 * (pieces x).length ≤ x.size + 1 := by
  have := runs_half isNm (bts x)
  rw [← pieces_runs, List.length_map, bts_len] at this
  exact this

/-! ### What a text's lines say -/
def pairsB : List ByteArray → List (ByteArray × ByteArray)
  | x :: y :: t => (x, y) :: pairsB t
  | _ => []
def takeF (a : AS) (L : List ByteArray) : AS :=
  match L, a.pl with
  | [], _ => a
  | _ :: M, 0 => { a with pl := 1, O := ((pairsB M).map opB).foldl sadd a.O }
  | _ :: s :: _, 1 => { a with pl := 2, ti := s }
  | _ :: M, 2 => { a with pl := 3, S := M.foldl sadd a.S }
  | _ :: _ :: M, 3 => { a with pl := 4, S := M.foldl sadd a.S, N := M.map (posOf (M.foldl sadd a.S)) }
  | _ :: _, 4 => { a with pl := 5 }
  | [s1, s3], 5 => { a with O := sadd a.O (s1, 0), S := sadd a.S s3, R := sadd a.R (s1, ⟨#[]⟩, s3) }
  | [s1, s2, s3], 5 => { a with O := sadd a.O (s1, 1), S := sadd (sadd a.S s2) s3, R := sadd a.R (s1, s2, s3) }
  | _, _ => a
def contF (s : ByteArray) : AS := ((lines s).map pieces).foldl takeF start

theorem pairs_flat : ∀ (P : List (List Nat × Nat)) (M : List ByteArray), M.map bts = flatO P → (pairsB M).length = P.length ∧ M.length = 2 * P.length
  | [], M, h => by
    have : M = [] := by simpa [flatO] using h
    subst this; exact ⟨rfl, rfl⟩
  | p :: P, M, h => by
    match M, h with
    | [], h => simp [flatO] at h
    | [_], h => simp [flatO] at h
    | x :: y :: t, h =>
      have h2 : t.map bts = flatO P := by simp [flatO] at h; simpa [flatO] using h.2.2
      obtain ⟨k1, k2⟩ := pairs_flat P t h2
      exact ⟨by simp [pairsB, k1], by simp [k2]; omega⟩
theorem pairs_at : ∀ (M : List ByteArray) (k : Nat) (h : k < (pairsB M).length), M[2 * k]? = some (pairsB M)[k].1 ∧ M[2 * k + 1]? = some (pairsB M)[k].2
  | [], k, h => by simp [pairsB] at h
  | [_], k, h => by simp [pairsB] at h
  | x :: y :: t, 0, h => ⟨rfl, rfl⟩
  | x :: y :: t, k + 1, h => by
    have := pairs_at t k (by simpa [pairsB] using h)
    simp only [pairsB, List.getElem_cons_succ]
    rw [show 2 * (k + 1) = (2 * k + 1) + 1 by omega, List.getElem?_cons_succ, List.getElem?_cons_succ, List.getElem?_cons_succ, List.getElem?_cons_succ]
    exact this
theorem pairs_mem : ∀ (M : List ByteArray) (p : ByteArray × ByteArray), p ∈ pairsB M → p.1 ∈ M ∧ p.2 ∈ M
  | [], p, h => by simp [pairsB] at h
  | [_], p, h => by simp [pairsB] at h
  | x :: y :: t, p, h => by
    simp only [pairsB, List.mem_cons] at h
    rcases h with rfl | h
    · simp
    · have := pairs_mem t p h; simp [this]
theorem pairs_prs {M : List ByteArray} {P : List (List Nat × Nat)} (h : M.map bts = flatO P) (hs : ∀ x ∈ M, 0 < x.size ∧ x.size ≤ 1048576) : Prs M (pairsB M) := by
  obtain ⟨k1, k2⟩ := pairs_flat P M h
  exact ⟨by rw [k1, k2], fun k hk => (pairs_at M k hk).1, fun k hk => (pairs_at M k hk).2, fun p hp => ⟨(hs _ (pairs_mem M p hp).1).2, (hs _ (pairs_mem M p hp).2).1⟩⟩

theorem takes_of {a : AS} {L : List ByteArray} (hf : fineL a.pl (L.map bts)) (hs : ∀ x ∈ L, 0 < x.size ∧ x.size ≤ 1048576) : TakesL a L (takeF a L) ∧ (takeF a L).pl = nextL a.pl (L.map bts) := by
  rcases hf with e | ⟨hp, P, hP, e⟩ | ⟨hp, n, e⟩ | ⟨hp, M, e⟩ | ⟨hp, M, e⟩ | ⟨hp, e⟩ | ⟨hp, ⟨n1, n2, e⟩ | ⟨n1, n2, n3, e⟩⟩
  · have : L = [] := by simpa using e
    subst this
    exact ⟨.nil a, by simp [takeF, nextL]⟩
  · obtain ⟨h, M, rfl, _, e2⟩ := List.map_eq_cons_iff.1 e
    refine ⟨?_, by simp [takeF, nextL, hp]⟩
    have q := TakesL.ops a h M (pairsB M) hp (pairs_prs e2 (fun x hx => hs x (by simp [hx])))
    simpa [takeF, hp] using q
  · obtain ⟨h, M, rfl, _, e2⟩ := List.map_eq_cons_iff.1 e
    obtain ⟨s, M, rfl, _, e3⟩ := List.map_eq_cons_iff.1 e2
    refine ⟨?_, by simp [takeF, nextL, hp]⟩
    have q := TakesL.title a h s M hp
    simpa [takeF, hp] using q
  · obtain ⟨h, M, rfl, _, e2⟩ := List.map_eq_cons_iff.1 e
    refine ⟨?_, by simp [takeF, nextL, hp]⟩
    have q := TakesL.states a h M hp
    simpa [takeF, hp] using q
  · obtain ⟨h, M, rfl, _, e2⟩ := List.map_eq_cons_iff.1 e
    obtain ⟨g, M, rfl, _, e3⟩ := List.map_eq_cons_iff.1 e2
    refine ⟨?_, by simp [takeF, nextL, hp]⟩
    have q := TakesL.final a h g M hp
    simpa [takeF, hp] using q
  · obtain ⟨h, M, rfl, _, e2⟩ := List.map_eq_cons_iff.1 e
    refine ⟨?_, by simp [takeF, nextL, hp]⟩
    have q := TakesL.trans a h M hp
    simpa [takeF, hp] using q
  · obtain ⟨s1, M, rfl, _, e2⟩ := List.map_eq_cons_iff.1 e
    obtain ⟨s3, M, rfl, _, e3⟩ := List.map_eq_cons_iff.1 e2
    obtain rfl : M = [] := by simpa using e3
    refine ⟨?_, by simp [takeF, nextL, hp]⟩
    have q := TakesL.rule2 a s1 s3 hp
    simpa [takeF, hp] using q
  · obtain ⟨s1, M, rfl, _, e2⟩ := List.map_eq_cons_iff.1 e
    obtain ⟨s2, M, rfl, _, e3⟩ := List.map_eq_cons_iff.1 e2
    obtain ⟨s3, M, rfl, _, e4⟩ := List.map_eq_cons_iff.1 e3
    obtain rfl : M = [] := by simpa using e4
    refine ⟨?_, by simp [takeF, nextL, hp]⟩
    have q := TakesL.rule3 a s1 s2 s3 hp (fun h => by have := (hs s2 (by simp)).1; rw [h] at this; simp [ByteArray.size] at this)
    simpa [takeF, hp] using q

theorem fold_ge {α : Type} [DecidableEq α] (L l : List α) : l.length ≤ (L.foldl sadd l).length := by
  induction L generalizing l with
  | nil => exact Nat.le_refl _
  | cons s L ih => exact Nat.le_trans (sadd_len l s).1 (ih _)
theorem sadd_mem {α : Type} [DecidableEq α] {l : List α} {s x : α} : x ∈ sadd l s ↔ x ∈ l ∨ x = s := by
  unfold sadd
  split
  · rename_i h
    exact ⟨.inl, fun k => k.elim id (fun e => e ▸ h)⟩
  · simp
theorem fold_mem {α : Type} [DecidableEq α] {L l : List α} {x : α} : x ∈ L.foldl sadd l ↔ x ∈ l ∨ x ∈ L := by
  induction L generalizing l with
  | nil => simp
  | cons s L ih =>
    rw [List.foldl_cons, ih, sadd_mem, List.mem_cons]
    constructor
    · rintro ((h | h) | h)
      · exact .inl h
      · exact .inr (.inl h)
      · exact .inr (.inr h)
    · rintro (h | h | h)
      · exact .inl (.inl h)
      · exact .inl (.inr h)
      · exact .inr h
theorem posOf_lt {S : List ByteArray} {s : ByteArray} (h : s ∈ S) : posOf S s < S.length := by
  unfold posOf
  exact List.findIdx_lt_length_of_exists ⟨s, h, by simp⟩
/-- What has been read, and how much at most. -/
structure AOk (a : AS) (n : Nat) : Prop where
  o : a.O.length ≤ n
  s : a.S.length ≤ n
  r : a.R.length ≤ n
  f : a.N.length ≤ n
  below : ∀ i ∈ a.N, i < a.S.length
theorem takes_grow {a b : AS} {L : List ByteArray} {n : Nat} (h : TakesL a L b) (hn : AOk a n) : AOk b (n + L.length) := by
  obtain ⟨h1, h2, h3, h4, h5⟩ := hn
  cases h with
  | nil => exact ⟨h1, h2, h3, h4, h5⟩
  | ops h M P hp hP =>
    have := fold_len (P.map opB) a.O
    have := hP.len
    simp only [List.length_map] at *
    exact ⟨by simp; omega, by simp; omega, by simp; omega, by simp; omega, h5⟩
  | title h s M hp => exact ⟨by simp; omega, by simp; omega, by simp; omega, by simp; omega, h5⟩
  | states h M hp =>
    have k1 := fold_len M a.S
    have k2 := fold_ge M a.S
    exact ⟨by simp; omega, by simp; omega, by simp; omega, by simp; omega, fun i hi => Nat.lt_of_lt_of_le (h5 i hi) k2⟩
  | final h g M hp =>
    have k1 := fold_len M a.S
    refine ⟨by simp; omega, by simp; omega, by simp; omega, by simp; omega, fun i hi => ?_⟩
    obtain ⟨x, hx, rfl⟩ := List.mem_map.1 hi
    exact posOf_lt (fold_mem.2 (.inr hx))
  | trans h M hp => exact ⟨by simp; omega, by simp; omega, by simp; omega, by simp; omega, h5⟩
  | rule2 s1 s3 hp =>
    have k1 := sadd_len a.O (s1, 0)
    have k2 := sadd_len a.S s3
    have k3 := sadd_len a.R (s1, ⟨#[]⟩, s3)
    exact ⟨by simp; omega, by simp; omega, by simp; omega, by simp; omega, fun i hi => Nat.lt_of_lt_of_le (h5 i hi) k2.1⟩
  | rule3 s1 s2 s3 hp hne =>
    have k1 := sadd_len a.O (s1, 1)
    have k2 := sadd_len a.S s2
    have k4 := sadd_len (sadd a.S s2) s3
    have k3 := sadd_len a.R (s1, s2, s3)
    exact ⟨by simp; omega, by simp; omega, by simp; omega, by simp; omega, fun i hi => Nat.lt_of_lt_of_le (h5 i hi) (Nat.le_trans k2.1 k4.1)⟩

/-- The lines that are good are taken one by one. -/
theorem good_takes (LB : List ByteArray) : ∀ (n : Nat) {Ls : List (List Nat)} {pl : Nat}, Good Ls pl → Ls.length = n → (LB.take n).map bts = Ls →
    (∀ k (h : k < LB.length), k < n → TakesL (((LB.take k).map pieces).foldl takeF start) (pieces LB[k]) (((LB.take (k + 1)).map pieces).foldl takeF start) ∧ (∀ x ∈ pieces LB[k], 0 < x.size ∧ x.size ≤ 16)) ∧ (((LB.take n).map pieces).foldl takeF start).pl = pl := by
  intro n
  induction n with
  | zero =>
    intro Ls pl hg hn hm
    refine ⟨fun k _ hk => by omega, ?_⟩
    cases hg with
    | nil => rfl
    | add l h1 h2 h3 => simp at hn
  | succ n ih =>
    intro Ls pl hg hn hm
    cases hg with
    | nil => simp at hn
    | @add Ls pl l h1 h2 h3 =>
      have hn' : Ls.length = n := by simpa using hn
      have hlen : n < LB.length := by
        have := congrArg List.length hm
        rw [List.length_map, List.length_take, List.length_append, List.length_singleton] at this
        omega
      rw [List.take_succ_eq_append_getElem hlen, List.map_append] at hm
      obtain ⟨e1, e2⟩ := List.append_inj' hm rfl
      obtain ⟨k1, k2⟩ := ih h1 hn' e1
      have e3 : bts LB[n] = l := by simpa using e2
      rw [← e3, ← pieces_runs] at h2 h3
      rw [← k2] at h2
      have hz : ∀ x ∈ pieces LB[n], 0 < x.size ∧ x.size ≤ 16 := fun x hx => by
        have := h3 (bts x) (List.mem_map_of_mem hx)
        rwa [bts_len] at this
      have ht := takes_of h2 (fun x hx => ⟨(hz x hx).1, by have := (hz x hx).2; omega⟩)
      have e4 : ((LB.take (n + 1)).map pieces).foldl takeF start = takeF (((LB.take n).map pieces).foldl takeF start) (pieces LB[n]) := by
        rw [List.take_succ_eq_append_getElem hlen, List.map_append, List.foldl_append]; rfl
      refine ⟨fun k h hk => ?_, ?_⟩
      · rcases Nat.lt_succ_iff_lt_or_eq.1 hk with hk | rfl
        · exact k1 k h hk
        · rw [e4]; exact ⟨ht.1, hz⟩
      · rw [e4, ht.2, k2, ← e3, pieces_runs]

theorem lines_total (s : ByteArray) : ((lines s).map fun x => x.size + 1).sum ≤ s.size + 1 := by
  have h := runs_room fdB (bts s) []
  rw [← lines_runs, List.length_nil, Nat.zero_add, bts_len, List.length_flatten, List.map_map, List.length_map] at h
  have e : ∀ l : List ByteArray, (l.map fun x => x.size + 1).sum = (l.map (List.length ∘ bts)).sum + l.length := by
    intro l
    induction l with
    | nil => rfl
    | cons a l ih =>
      rw [List.map_cons, List.sum_cons, ih, List.map_cons, List.sum_cons, List.length_cons, Function.comp_apply, bts_len]; omega
  rw [e]; exact h
theorem take_sum (l : List Nat) (k : Nat) (h : k < l.length) : (l.take (k + 1)).sum = (l.take k).sum + l[k] := by
  rw [List.take_succ_eq_append_getElem h, List.sum_append]; simp
theorem take_sum_le (l : List Nat) (k : Nat) : (l.take k).sum ≤ l.sum := by
  have := List.sum_append (l₁ := l.take k) (l₂ := l.drop k)
  rw [List.take_append_drop] at this
  omega
theorem half_sum (l : List Nat) : ∀ k, 2 * ((l.take k).map (· / 2)).sum ≤ (l.take k).sum := by
  intro k
  generalize l.take k = m
  induction m with
  | nil => simp
  | cons a m ih => rw [List.map_cons, List.sum_cons, List.sum_cons]; omega
/-- A file's lines are taken one by one. -/
theorem chain_of (s : ByteArray) (hs : s.size ≤ 129999999) (h : errF s = 0) : Chain s (fun k => (((lines s).take k).map pieces).foldl takeF start) ∧ (contF s).pl = 5 ∧ AOk (contF s) ((s.size + 1) / 2) := by
  have hc : lenF s = s.size ∧ isF (endF s) = true := by
    unfold errF at h
    split at h
    · cases h
    · rename_i hn
      have := len_le s
      refine ⟨by omega, ?_⟩
      cases hq : isF (endF s)
      · exact absurd (.inr hq) hn
      · rfl
  have hg := good_of (u := bts s) (by rw [bts_len]; exact hc.1) hc.2
  rw [← lines_runs] at hg
  obtain ⟨k1, k2⟩ := good_takes (lines s) (lines s).length hg (by simp) (by simp)
  rw [List.take_length] at k2
  have tot := lines_total s
  have grow : ∀ k, k ≤ (lines s).length → AOk ((((lines s).take k).map pieces).foldl takeF start) ((((lines s).map fun x => x.size + 1).take k).map (· / 2)).sum := by
    intro k
    induction k with
    | zero => intro _; exact ⟨Nat.zero_le _, Nat.zero_le _, Nat.zero_le _, Nat.zero_le _, fun i hi => by simp [start] at hi⟩
    | succ k ih =>
      intro hk
      have g := takes_grow (k1 k hk hk).1 (ih (by omega))
      have hp := pieces_le (lines s)[k]
      have e : ((((lines s).map fun x => x.size + 1).take (k + 1)).map (· / 2)).sum = ((((lines s).map fun x => x.size + 1).take k).map (· / 2)).sum + ((lines s)[k].size + 1) / 2 := by
        rw [List.take_succ_eq_append_getElem (by rw [List.length_map]; exact hk), List.map_append, List.sum_append, List.getElem_map]; simp
      rw [e]
      exact ⟨by have := g.o; omega, by have := g.s; omega, by have := g.r; omega, by have := g.f; omega, g.below⟩
  have bnd : ∀ k, ((((lines s).map fun x => x.size + 1).take k).map (· / 2)).sum ≤ (s.size + 1) / 2 := fun k => by
    have h1 := half_sum ((lines s).map fun x => x.size + 1) k
    have h2 := take_sum_le ((lines s).map fun x => x.size + 1) k
    omega
  refine ⟨⟨rfl, fun k h => (k1 k h h).1, fun k h => ?_, fun k h x hx => Nat.le_trans ((k1 k h h).2 x hx).2 (by omega)⟩, k2, ?_⟩
  · have g := grow k (by omega)
    have hp := pieces_le (lines s)[k]
    have b := bnd (k + 1)
    have e : ((((lines s).map fun x => x.size + 1).take (k + 1)).map (· / 2)).sum = ((((lines s).map fun x => x.size + 1).take k).map (· / 2)).sum + ((lines s)[k].size + 1) / 2 := by
      rw [List.take_succ_eq_append_getElem (by rw [List.length_map]; exact h), List.map_append, List.sum_append, List.getElem_map]; simp
    have := g.o; have := g.s; have := g.r
    exact ⟨by omega, by omega, by omega⟩
  · have g := grow (lines s).length (Nat.le_refl _)
    have b := bnd (lines s).length
    rw [List.take_length] at g
    unfold contF
    exact ⟨by have := g.o; omega, by have := g.s; omega, by have := g.r; omega, by have := g.f; omega, g.below⟩
end Go.Proofs.YtmagchclmmphaabGreatDoor
