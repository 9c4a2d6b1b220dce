import Derived.Test.YtojnlpicgemlaaaDoorXC
namespace Go.Proofs.YtojnlpicgemlaaaDoor
open Go.RowKit Go.Maps Go.Shelf

/-! ### The least word that is taken -/
theorem lng_of {w : World} {N : Nat} {mv : Int} {a1 a2 a3 : Option Addr} {St Fi : List Int} {Ed : List EdT} {len : Nat → Int} (hG : ArgA w N mv a1 a2 a3 St Fi Ed) (hb : Bfs N (fun q => (q : Int) ∈ Fi) (stepE true Ed) [] len) (hl : ∀ q, q < N → len q < N) : Lng N mv St Fi Ed len :=
  ⟨hG.prs, fun e he => ((may_parts hG.may).2.2.2.2.2 e he).2.1, hG.ins, hb, hl, hG.hS true, hG.hE true⟩
theorem mS_word (Ed : List EdT) (bs : Nat → Int) (M0 : Nat → Bool) : ∀ i, mS Ed bs M0 i = wordM Ed M0 ((List.range i).map bs)
  | 0 => rfl
  | i + 1 => by
    rw [mS, mS_word Ed bs M0 i, List.range_succ, List.map_append]
    exact (wordM_snoc _ _ _ _).symm
/-- A word that leads to where an end is ahead: so is one ahead of where it began. -/
theorem word_back {N : Nat} {mv : Int} {St Fi : List Int} {Ed : List EdT} {len : Nat → Int} (h : Lng N mv St Fi Ed len) (M : Nat → Bool) : ∀ (n : Nat) (u : List Int), u.length = n → ∀ (k q : Nat), wordM Ed M u q = true → Wlk (fun q => (q : Int) ∈ Fi) (stepE true Ed) k q → ∃ p, M p = true ∧ Wlk (fun q => (q : Int) ∈ Fi) (stepE true Ed) (n + k) p := by
  intro n
  induction n with
  | zero =>
    intro u hu k q hq hw
    obtain rfl := List.eq_nil_of_length_eq_zero hu
    exact ⟨q, hq, by rw [Nat.zero_add]; exact hw⟩
  | succ n ih =>
    intro u hu k q hq hw
    rcases List.eq_nil_or_concat u with rfl | ⟨W, s, rfl⟩
    · simp at hu
    · rw [List.concat_eq_append] at hu hq
      rw [wordM_snoc] at hq
      obtain ⟨e, he, h1, h2, h3⟩ := (postM_iff _ _ _ _).1 hq
      obtain ⟨p, r, hp, hr, a1, a2⟩ := h.ed e he
      rw [a1, Int.toNat_natCast] at h2
      obtain ⟨p', hp', hw'⟩ := ih W (by simpa using hu) (k + 1) p h2 (Lng.f3 he a1 h3 hw)
      exact ⟨p', hp', by rw [show n + 1 + k = n + (k + 1) by omega]; exact hw'⟩
theorem word_ahead {N : Nat} {mv : Int} {St Fi : List Int} {Ed : List EdT} {len : Nat → Int} (h : Lng N mv St Fi Ed len) {M : Nat → Bool} {u : List Int} (hM : ∀ p, M p = true → p < N) (hu : bothM N (wordM Ed M u) (inL Fi) = true) : bothM N M (ahN Ed (inL Fi) u.length) = true := by
  obtain ⟨q, hq, h1, h2⟩ := (bothM_iff _ _ _).1 hu
  unfold inL at h2
  rw [decide_eq_true_eq] at h2
  obtain ⟨p, hp, hw⟩ := word_back h M u.length u rfl 0 q h1 h2
  refine (bothM_iff _ _ _).2 ⟨p, hM p hp, hp, (ahN_wlk (fun e he => by obtain ⟨p, r, _, _, h1, h2⟩ := h.ed e he; exact ⟨p, r, h1, h2⟩) _ p).2 hw⟩
theorem st_lt {N : Nat} {mv : Int} {St Fi : List Int} {Ed : List EdT} {len : Nat → Int} (h : Lng N mv St Fi Ed len) (p : Nat) (hp : inL St p = true) : p < N := by
  unfold inL at hp
  rw [decide_eq_true_eq] at hp
  obtain ⟨q, hq, e⟩ := h.st _ hp
  omega
/-- Whatever word is taken: there is a least length, and it isn't shorter. -/
theorem least_len {N : Nat} {mv : Int} {St Fi : List Int} {Ed : List EdT} {len : Nat → Int} (h : Lng N mv St Fi Ed len) {u : List Int} (hu : bothM N (wordM Ed (inL St) u) (inL Fi) = true) : lenMin len St ≠ -1 ∧ lenMin len St ≤ (u.length : Int) := by
  have h1 := word_ahead h (st_lt h) hu
  constructor
  · intro hc
    rw [search_no h u.length (.inl hc)] at h1
    cases h1
  · refine Int.not_lt.1 (fun hc => ?_)
    rw [search_no h u.length (.inr hc)] at h1
    cases h1
/-- The least word is taken. -/
theorem least_taken {N : Nat} {mv : Int} {St Fi : List Int} {Ed : List EdT} {len : Nat → Int} (h : Lng N mv St Fi Ed len) {d : Nat} (hd : lenMin len St = (d : Int)) : bothM N (wordM Ed (inL St) ((List.range d).map (symI len N mv St Ed d))) (inL Fi) = true := by
  have hI := inv_all h hd d (Nat.le_refl _)
  obtain ⟨q, hq, hl⟩ := hI.e
  rw [Nat.sub_self] at hl
  have hqN := (hI.a q hq).1
  have hw := h.f1 hqN hl
  rw [← mS_word]
  exact (bothM_iff _ _ _).2 ⟨q, hqN, hq, by unfold inL; rw [decide_eq_true_eq]; exact hw⟩
/-- Word by word: is the first less? -/
def lexB : List Int → List Int → Bool
  | [], _ => false
  | _ :: _, [] => false
  | a :: v, b :: w => if a = b then lexB v w else decide (a < b)
def lessB (v w : List Int) : Bool := if v.length = w.length then lexB v w else decide (v.length < w.length)
theorem lexB_at : ∀ (v w : List Int), v.length = w.length → lexB v w = true → ∃ (pre : List Int) (a b : Int) (v' w' : List Int), v = pre ++ a :: v' ∧ w = pre ++ b :: w' ∧ a < b
  | [], w, _, h => by simp [lexB] at h
  | _ :: _, [], hl, _ => by simp at hl
  | a :: v, b :: w, hl, h => by
    unfold lexB at h
    split at h
    · rename_i e
      subst e
      obtain ⟨pre, x, y, v', w', h1, h2, h3⟩ := lexB_at v w (by simpa using hl) h
      exact ⟨a :: pre, x, y, v', w', by rw [h1]; rfl, by rw [h2]; rfl, h3⟩
    · exact ⟨[], a, b, v, w, rfl, rfl, of_decide_eq_true h⟩
theorem wordM_app (Ed : List EdT) (M : Nat → Bool) (u v : List Int) : wordM Ed M (u ++ v) = wordM Ed (wordM Ed M u) v := by simp [wordM]
/-- None that is taken is less. -/
theorem least_least {N : Nat} {mv : Int} {St Fi : List Int} {Ed : List EdT} {len : Nat → Int} (h : Lng N mv St Fi Ed len) {d : Nat} (hd : lenMin len St = (d : Int)) {u : List Int} (hu : bothM N (wordM Ed (inL St) u) (inL Fi) = true) : lessB u ((List.range d).map (symI len N mv St Ed d)) = false := by
  rw [Bool.eq_false_iff]
  intro hc
  have hl := (least_len h hu).2
  rw [hd] at hl
  have hwl : ((List.range d).map (symI len N mv St Ed d)).length = d := by simp
  unfold lessB at hc
  split at hc
  · rename_i e
    rw [hwl] at e
    obtain ⟨pre, a, b, v', w', h1, h2, h3⟩ := lexB_at _ _ (by rw [hwl]; exact e) hc
    have hi : pre.length < d := by
      have : u.length = pre.length + (v'.length + 1) := by rw [h1]; simp
      omega
    obtain ⟨i, hid⟩ : ∃ i, pre.length = i := ⟨_, rfl⟩
    rw [hid] at hi
    have hpre : pre = (List.range i).map (symI len N mv St Ed d) := by
      have h5 := congrArg (List.take i) h2
      rw [← List.map_take, List.take_range, Nat.min_eq_left (by omega), List.take_left' hid] at h5
      exact h5.symm
    have hb : b = symI len N mv St Ed d i := by
      have h5 := congrArg (fun L => L[i]?) h2
      simp only [List.getElem?_map] at h5
      rw [List.getElem?_range hi, List.getElem?_append_right (by omega), hid, Nat.sub_self] at h5
      simpa using h5.symm
    obtain ⟨c, hc1, hc2, hc3, _⟩ := greedy h hd i hi
    have hv' : v'.length = d - (i + 1) := by
      have : u.length = pre.length + (v'.length + 1) := by rw [h1]; simp
      omega
    rw [h1, show pre ++ a :: v' = (pre ++ [a]) ++ v' by simp, wordM_app, wordM_snoc, hpre, ← mS_word] at hu
    have hlt : ∀ p, postM Ed (mS Ed (symI len N mv St Ed d) (inL St) i) a p = true → p < N := fun p hp => by
      obtain ⟨e, he, _, _, h5⟩ := (postM_iff _ _ _ _).1 hp
      obtain ⟨p', r', hp', hr', a1, a2⟩ := h.ed e he
      omega
    have hx := word_ahead h hlt hu
    rw [hv'] at hx
    obtain ⟨q, hq, hx1, _⟩ := (bothM_iff _ _ _).1 hx
    obtain ⟨e, he, he1, _, _⟩ := (postM_iff _ _ _ _).1 hx1
    have hsy := h.sy e he
    obtain ⟨t, ht⟩ := Int.eq_ofNat_of_zero_le (show 0 ≤ a by omega)
    rw [ht] at hx
    rw [hc3 t (by omega)] at hx
    cases hx
  · have := of_decide_eq_true hc
    rw [hwl] at this
    omega
theorem fwd_back {St Fi : List Int} {Ed : List EdT} : ∀ (k l q : Nat), Wlk (fun q => (q : Int) ∈ St) (stepE false Ed) k q → Wlk (fun q => (q : Int) ∈ Fi) (stepE true Ed) l q → ∃ p : Nat, (p : Int) ∈ St ∧ Wlk (fun q => (q : Int) ∈ Fi) (stepE true Ed) (l + k) p
  | 0, l, q, h, hb => ⟨q, h, hb⟩
  | k + 1, l, q, ⟨p, hw, e, he, hend⟩, hb => by
    obtain ⟨r, h1, h2⟩ := fwd_back k (l + 1) p hw (Lng.f3 he (congrArg Prod.fst hend) (congrArg Prod.snd hend) hb)
    exact ⟨r, h1, by rw [show l + (k + 1) = l + 1 + k by omega]; exact h2⟩
/-- Trim has no state just if there is no word, and more states than the least word has symbols. -/
theorem useful_no {N : Nat} {U : Nat → Bool} {mv : Int} {St Fi : List Int} {Ed : List EdT} {len : Nat → Int} (h : Lng N mv St Fi Ed len) (hU : TrU N U St Fi Ed) (hd : lenMin len St = -1) : (uL U N).length = 0 := by
  cases hL : uL U N with
  | nil => rfl
  | cons q l =>
    obtain ⟨hq, hu⟩ := uL_mem.1 (show q ∈ uL U N by rw [hL]; simp)
    obtain ⟨⟨k, hk⟩, j, hj⟩ := (hU.us q hq).1 hu
    obtain ⟨p, hp, hw⟩ := fwd_back k j q hk hj
    obtain ⟨_, l1, _⟩ := h.f2 _ p hw
    have := ((min_le len St (-1)).2 _ hp (by rw [Int.toNat_natCast]; omega)).1
    exact absurd hd this
theorem useful_more {N : Nat} {U : Nat → Bool} {mv : Int} {St Fi : List Int} {Ed : List EdT} {len : Nat → Int} (h : Lng N mv St Fi Ed len) (hU : TrU N U St Fi Ed) {d : Nat} (hd : lenMin len St = (d : Int)) : d < (uL U N).length := by
  have hs : (List.range (d + 1)) ⊆ (uL U N).map (fun q => (len q).toNat) := fun j hj => by
    rw [List.mem_range] at hj
    have hI := inv_all h hd (d - j) (by omega)
    obtain ⟨q, hq, hl⟩ := hI.e
    have hqN := (hI.a q hq).1
    rw [show d - (d - j) = j by omega] at hl
    rw [mS_word] at hq
    have hf := (hU.rch _ _ rfl q hq).2
    refine List.mem_map.2 ⟨q, uL_mem.2 ⟨hqN, (hU.us q hqN).2 ⟨⟨_, hf⟩, j, h.f1 hqN hl⟩⟩, by rw [hl, Int.toNat_natCast]⟩
  have := List.nodup_range.length_le_of_subset hs
  rw [List.length_range, List.length_map] at this
  omega
end Go.Proofs.YtojnlpicgemlaaaDoor
namespace Go.Proofs.YtojnlpicgemlaaaDoor
open Go.RowKit Go.Maps Go.Shelf
attribute [local go_sem] Oper.semAt_some

/-! ### Less -/
theorem lexB_drop {A C : List Int} {i : Nat} (ha : i < A.length) (hc : i < C.length) : lexB (A.drop i) (C.drop i) = if A[i] = C[i] then lexB (A.drop (i + 1)) (C.drop (i + 1)) else decide (A[i] < C[i]) := by
  rw [List.drop_eq_getElem_cons ha, List.drop_eq_getElem_cons hc]
  rfl
set_option maxRecDepth 100000 in
set_option maxHeartbeats 2000000 in
theorem less_any (w : World) (aa ab : Option Addr) (ca cb : Nat) (A C : List Int) (ha : RdN w aa A) (hb : RdN w ab C) (hl : A.length ≤ 4194304) :
    Calls Tryd.prog 14 #[.slice aa A.length ca, .slice ab C.length cb] w fun e w' => e = .returned (.bool (lessB A C)) ∧ Below w.heap.size w w' := by
  have HQ := hide (And.intro ha hb)
  clear ha hb
  obtain ⟨r, hr⟩ : ∃ r, lessB A C = r := ⟨_, rfl⟩
  rw [hr]
  by_cases hn : A.length = C.length
  · obtain ⟨L, eL⟩ : ∃ L, A.length = L := ⟨_, rfl⟩
    have eC : C.length = L := by omega
    rw [eL, eC]
    rw [eL] at hl
    have HE := hide (And.intro eL (And.intro eC (show lexB A C = r by rw [← hr]; unfold lessB; rw [if_pos hn])))
    clear hn eL eC hr
    go_enter Tryd.func14, Tryd.ntmps14
    go_wp2_with fail
    go_loopw [5] (fun iv wr => ∃ i : Nat, i ≤ L ∧ iv = .int .i64 (i : Int) ∧ Hid (lexB (A.drop i) (C.drop i) = r ∧ Below w.heap.size w wr)) (fun iv _ => L - (intOf iv).toNat)
    case atStart => exact ⟨0, Nat.zero_le _, rfl, hide ⟨HE.out.2.2, Below.refl _ _⟩⟩
    case round =>
      obtain ⟨i, hi, rfl, HY⟩ := hrel
      by_cases hlt : i < L
      · have l0 : (i : Int) < (L : Int) := by omega
        have i0 : (0 : Int) ≤ (i : Int) := by omega
        have hia : i < A.length := by have := HE.out.1; omega
        have hic : i < C.length := by have := HE.out.2.1; omega
        obtain ⟨g, o, rfl, r1⟩ := (HQ.out.1.on HY.out.2) i hia
        obtain ⟨g', o', rfl, r2⟩ := (HQ.out.2.on HY.out.2) i hic
        have HT : Hid (A[i] = C[i] → lexB (A.drop (i + 1)) (C.drop (i + 1)) = r) := hide (fun e => by have t := HY.out.1; rw [lexB_drop hia hic, if_pos e] at t; exact t)
        have HN : Hid (A[i] ≠ C[i] → decide (A[i] < C[i]) = r) := hide (fun e => by have t := HY.out.1; rw [lexB_drop hia hic, if_neg e] at t; exact t)
        generalize A[i] = x at r1 HT HN
        generalize C[i] = y at r2 HT HN
        go_wp2_with fail
        go_quiet (fail)
        by_cases e : x = y
        · have J := hide (HT.out e)
          subst e
          clear HT HN
          go_wp2_with fail
          go_roundw
          case rel => exact ⟨i + 1, by omega, by go_num, hide ⟨J.out, below_drewN2 HY.out.2 _⟩⟩
          case measure => simp [intOf]; omega
        · have J := hide (HN.out e)
          clear HT HN
          go_wp2_with fail
          go_quiet (fail)
          go_wp2_with fail
          go_ret
          refine ⟨by rw [← J.out]; rfl, ?_⟩
          first
            | exact below_drewN2 HY.out.2 _
            | exact below_drewN2 (below_drewN2 HY.out.2 _) _
      · have l0 : ¬ (i : Int) < (L : Int) := by omega
        have e : r = false := by
          have t := HY.out.1
          rw [List.drop_eq_nil_of_le (by have := HE.out.1; omega)] at t
          rw [← t]
          rfl
        subst e
        go_wp2_with fail
        go_ret
        exact ⟨rfl, HY.out.2⟩
  · have u1 : ¬ ((A.length : Nat) : Int) = ((C.length : Nat) : Int) := by omega
    have e : r = decide (A.length < C.length) := by rw [← hr]; unfold lessB; rw [if_neg hn]
    have HR := hide e
    clear hr e
    go_enter Tryd.func14, Tryd.ntmps14
    go_wp2_with fail
    go_ret
    refine ⟨?_, Below.refl _ _⟩
    rw [HR.out]
    simp
end Go.Proofs.YtojnlpicgemlaaaDoor
namespace Go.Proofs.YtojnlpicgemlaaaDoor
open Go.RowKit Go.Maps Go.Shelf

/-! ### What is asked of Empty's word -/
structure TlF (N K : Nat) (mv : Int) (St Fi : List Int) (Ed : List EdT) (no : Bool) (L : List Int) : Prop where
  nk : no = decide (K = 0)
  n0 : no = true → L.length = 0
  y1 : no = false → L.length < K ∧ bothM N (wordM Ed (inL St) L) (inL Fi) = true
  le : ∀ u, bothM N (wordM Ed (inL St) u) (inL Fi) = true → no = false ∧ lessB u L = false
  ll : L.length ≤ 4194304
  kN : K ≤ 4096
/-- What Empty answers, by its lengths. -/
def EmQ (w' : World) (N : Nat) (mv : Int) (St Fi : List Int) (Ed : List EdT) (no : Bool) (L : List Int) (e : Ending) : Prop := ∃ ay cy, e = .returned (.tuple #[.bool no, .slice ay L.length cy, .int .i64 0]) ∧ RdN w' ay L ∧ ∃ len, Lng N mv St Fi Ed len ∧ ((no = true ∧ L = [] ∧ lenMin len St = -1) ∨ (no = false ∧ ∃ d : Nat, lenMin len St = (d : Int) ∧ L = (List.range d).map (symI len N mv St Ed d)))
theorem empty_q (w : World) (N : Nat) (mv : Int) (a1 a2 a3 : Option Addr) (c1 c2 c3 : Nat) (St Fi : List Int) (Ed : List EdT) (hA : RdA w a1 a2 a3 St Fi Ed) (h1 : St.length ≤ 4194304) (h2 : Fi.length ≤ 4194304) (h3 : Ed.length ≤ 4194304) (hT : TabAt w) (h0 : 0 < w.heap.size) (hm : mayA (N : Int) mv St Fi Ed = true) :
    Calls Tryd.prog 10 #[.agg #[.int .i64 (N : Int), .int .i64 mv, .slice a1 St.length c1, .slice a2 Fi.length c2, .slice a3 Ed.length c3]] w fun e w' => ∃ no L, EmQ w' N mv St Fi Ed no L e ∧ Below w.heap.size w w' := by
  have hG : ArgA w N mv a1 a2 a3 St Fi Ed := ⟨hm, hA.s, hA.f, hA.e, h1, h2⟩
  refine (empty_ok w N mv a1 a2 a3 c1 c2 c3 St Fi Ed (hide hA) h1 h2 h3 (hide ⟨hT, h0⟩) hm).mono ?_
  rintro e w' ⟨len, ⟨hb, hl⟩, hor, d⟩
  have hLg := lng_of hG hb hl
  rcases hor with ⟨hno, rfl⟩ | ⟨hge, vw, rfl, ho⟩
  · exact ⟨true, [], ⟨none, 0, rfl, fun j hj => absurd hj (Nat.not_lt_zero j), len, hLg, .inl ⟨rfl, rfl, hno⟩⟩, d⟩
  · obtain ⟨dd, hd⟩ := Int.eq_ofNat_of_zero_le hge
    rw [hd] at ho
    rw [lwS_word] at ho
    obtain ⟨ay, cy, hv, hr⟩ := la_own ho
    subst hv
    exact ⟨false, _, ⟨ay, cy, rfl, hr, len, hLg, .inr ⟨rfl, dd, hd, rfl⟩⟩, d⟩
theorem tlF_of {N : Nat} {U : Nat → Bool} {mv : Int} {St Fi : List Int} {Ed : List EdT} {len : Nat → Int} {no : Bool} {L : List Int} (hm : mayA (N : Int) mv St Fi Ed = true) (h : Lng N mv St Fi Ed len) (hU : TrU N U St Fi Ed) (hor : (no = true ∧ L = [] ∧ lenMin len St = -1) ∨ (no = false ∧ ∃ d : Nat, lenMin len St = (d : Int) ∧ L = (List.range d).map (symI len N mv St Ed d))) : TlF N (uL U N).length mv St Fi Ed no L := by
  have hN : N ≤ 4096 := by have := (may_parts hm).1; omega
  have hl : (uL U N).length ≤ N := by
    unfold uL
    exact Nat.le_trans (List.length_filter_le _ _) (Nat.le_of_eq List.length_range)
  rcases hor with ⟨rfl, rfl, hd⟩ | ⟨rfl, d, hd, rfl⟩
  · have hz := useful_no h hU hd
    exact ⟨by rw [hz]; rfl, fun _ => rfl, fun hc => (by cases hc), fun u hu => absurd hd (least_len h hu).1, by simp, by omega⟩
  · have hz := useful_more h hU hd
    exact ⟨by rw [decide_eq_false (by omega)], fun hc => (by cases hc), fun _ => ⟨by rw [List.length_map, List.length_range]; exact hz, least_taken h hd⟩, fun u hu => ⟨rfl, least_least h hd hu⟩, by rw [List.length_map, List.length_range]; omega, by omega⟩
end Go.Proofs.YtojnlpicgemlaaaDoor
namespace Go.Proofs.YtojnlpicgemlaaaDoor
open Go.RowKit Go.Maps Go.Shelf
attribute [local go_sem] Oper.semAt_some

set_option maxRecDepth 100000 in
set_option maxHeartbeats 4000000 in
theorem tleast_bad (w : World) (n : Int) (mv : Int) (a1 a2 a3 aw : Option Addr) (c1 c2 c3 cw : Nat) (St Fi Wd : List Int) (Ed : List EdT) (hA : Hid (RdA w a1 a2 a3 St Fi Ed)) (_hWd : Hid (RdN w aw Wd)) (h1 : St.length ≤ 4194304) (h2 : Fi.length ≤ 4194304) (h3 : Ed.length ≤ 4194304) (h4 : Wd.length ≤ 4194304) (hT : Hid (TabAt w)) (h0 : 0 < w.heap.size) (hm : mayA n mv St Fi Ed = false) :
    Calls Tryd.prog 4 #[.agg #[.int .i64 n, .int .i64 mv, .slice a1 St.length c1, .slice a2 Fi.length c2, .slice a3 Ed.length c3, .slice aw Wd.length cw]] w fun e w' => e = .returned (.bool true) ∧ Below w.heap.size w w' := by
  obtain ⟨n1, e1⟩ : ∃ n, St.length = n := ⟨_, rfl⟩
  obtain ⟨n2, e2⟩ : ∃ n, Fi.length = n := ⟨_, rfl⟩
  obtain ⟨n3, e3⟩ : ∃ n, Ed.length = n := ⟨_, rfl⟩
  obtain ⟨nw, ew⟩ : ∃ n, Wd.length = n := ⟨_, rfl⟩
  rw [e1, e2, e3, ew]
  have HE := hide (And.intro e1 (And.intro e2 (And.intro e3 ew)))
  have HL := hide (And.intro h1 (And.intro h2 (And.intro h3 h4)))
  have HM := hide hm
  obtain ⟨kk1, hk1⟩ : ∃ k, n1 + 64 = k := ⟨_, rfl⟩
  obtain ⟨kk2, hk2⟩ : ∃ k, n2 + 64 = k := ⟨_, rfl⟩
  obtain ⟨kk3, hk3⟩ : ∃ k, n3 + 64 = k := ⟨_, rfl⟩
  have HK := hide (And.intro hk1 (And.intro hk2 hk3))
  obtain ⟨W0, hW0⟩ : ∃ W0, w.alloc (.cells #[.int .i64 n, .int .i64 mv, .slice a1 n1 c1, .slice a2 n2 c2, .slice a3 n3 c3, .slice aw nw cw] 35) = W0 := ⟨_, rfl⟩
  have HB : Hid (W0.heap[w.heap.size]? = some (.cells #[.int .i64 n, .int .i64 mv, .slice a1 n1 c1, .slice a2 n2 c2, .slice a3 n3 c3, .slice aw nw cw] 35 (0, 0)) ∧ Below w.heap.size w W0) := hide (by rw [← hW0]; exact ⟨World.alloc_heap_new _ _, (Below.refl _ _).alloc (Nat.le_refl _) _⟩)
  have TTW : Hid (∀ W, Below w.heap.size w W → Calls Tryd.prog 6 #[.agg #[.int .i64 n, .int .i64 mv, .slice a1 n1 c1, .slice a2 n2 c2, .slice a3 n3 c3]] W fun e w' => ∃ b1 b2 b3, e = .returned (.agg #[.int .i64 n, .int .i64 mv, .slice (some ⟨b1, 0, none⟩) n1 kk1, .slice (some ⟨b2, 0, none⟩) n2 kk2, .slice (some ⟨b3, 0, none⟩) n3 kk3]) ∧ Hid (RdA w' (some ⟨b1, 0, none⟩) (some ⟨b2, 0, none⟩) (some ⟨b3, 0, none⟩) St Fi Ed) ∧ Below W.heap.size W w') := hide (fun W d => by
    have TW := twinA_any W n mv St Fi Ed a1 a2 a3 c1 c2 c3 (hide ⟨hA.out.s.on d, hA.out.f.on d, hA.out.e.on d⟩) HL.out.1 HL.out.2.1 HL.out.2.2.1
    rw [HE.out.1, HE.out.2.1, HE.out.2.2.1, HK.out.1, HK.out.2.1, HK.out.2.2] at TW
    refine TW.mono ?_
    rintro e w' ⟨b1, b2, b3, he, hTw, _, dd⟩
    exact ⟨b1, b2, b3, he, hide ⟨padN_reads hTw.s, padN_reads hTw.f, edPad_reads hTw.e⟩, dd⟩)
  have q0 : W0.cell? ⟨w.heap.size, 0, none⟩ = some (.int .i64 n) := cell_of HB.out.1 rfl
  have q1 : W0.cell? ⟨w.heap.size, 1, none⟩ = some (.int .i64 mv) := cell_of HB.out.1 rfl
  have q2 : W0.cell? ⟨w.heap.size, 2, none⟩ = some (.slice a1 n1 c1) := cell_of HB.out.1 rfl
  have q3 : W0.cell? ⟨w.heap.size, 3, none⟩ = some (.slice a2 n2 c2) := cell_of HB.out.1 rfl
  have q4 : W0.cell? ⟨w.heap.size, 4, none⟩ = some (.slice a3 n3 c3) := cell_of HB.out.1 rfl
  have q5 : W0.cell? ⟨w.heap.size, 5, none⟩ = some (.slice aw nw cw) := cell_of HB.out.1 rfl
  clear e1 e2 e3 ew hk1 hk2 hk3 h1 h2 h3 h4 hm
  go_enter Tryd.func4, Tryd.ntmps4
  go_wp2_with fail
  refine (TTW.out W0 HB.out.2).mono ?_
  rintro e w1 ⟨b1, b2, b3, rfl, HR1, d1⟩
  have H1 : Hid (w1.heap[w.heap.size]? = some (.cells #[.int .i64 n, .int .i64 mv, .slice a1 n1 c1, .slice a2 n2 c2, .slice a3 n3 c3, .slice aw nw cw] 35 (0, 0)) ∧ Below w.heap.size w w1) := hide ⟨blk_on HB.out.1 d1, HB.out.2.trans (d1.mono HB.out.2.size)⟩
  clear d1 HB hW0 q0 q1 q2 q3 q4 q5
  have T1 := empty_bad w1 n mv (some ⟨b1, 0, none⟩) (some ⟨b2, 0, none⟩) (some ⟨b3, 0, none⟩) kk1 kk2 kk3 St Fi Ed HR1 HL.out.1 HL.out.2.1 HL.out.2.2.1 HM.out
  rw [HE.out.1, HE.out.2.1, HE.out.2.2.1] at T1
  clear HR1
  go_wp2_with fail
  refine T1.mono ?_
  rintro e w2 ⟨rfl, d2⟩
  have H2 : Hid (w2.heap[w.heap.size]? = some (.cells #[.int .i64 n, .int .i64 mv, .slice a1 n1 c1, .slice a2 n2 c2, .slice a3 n3 c3, .slice aw nw cw] 35 (0, 0)) ∧ Below w.heap.size w w2) := hide ⟨blk_on H1.out.1 d2, H1.out.2.trans (d2.mono H1.out.2.size)⟩
  clear T1 d2 H1
  have q0 : w2.cell? ⟨w.heap.size, 0, none⟩ = some (.int .i64 n) := cell_of H2.out.1 rfl
  have q1 : w2.cell? ⟨w.heap.size, 1, none⟩ = some (.int .i64 mv) := cell_of H2.out.1 rfl
  have q2 : w2.cell? ⟨w.heap.size, 2, none⟩ = some (.slice a1 n1 c1) := cell_of H2.out.1 rfl
  have q3 : w2.cell? ⟨w.heap.size, 3, none⟩ = some (.slice a2 n2 c2) := cell_of H2.out.1 rfl
  have q4 : w2.cell? ⟨w.heap.size, 4, none⟩ = some (.slice a3 n3 c3) := cell_of H2.out.1 rfl
  have q5 : w2.cell? ⟨w.heap.size, 5, none⟩ = some (.slice aw nw cw) := cell_of H2.out.1 rfl
  go_wp2_with fail
  refine (TTW.out w2 H2.out.2).mono ?_
  rintro e w3 ⟨y1, y2, y3, rfl, HR3, d3⟩
  have H3 : Hid (w3.heap[w.heap.size]? = some (.cells #[.int .i64 n, .int .i64 mv, .slice a1 n1 c1, .slice a2 n2 c2, .slice a3 n3 c3, .slice aw nw cw] 35 (0, 0)) ∧ Below w.heap.size w w3) := hide ⟨blk_on H2.out.1 d3, H2.out.2.trans (d3.mono H2.out.2.size)⟩
  have T3 := trim_bad w3 n mv (some ⟨y1, 0, none⟩) (some ⟨y2, 0, none⟩) (some ⟨y3, 0, none⟩) kk1 kk2 kk3 St Fi Ed HR3 HL.out.1 HL.out.2.1 HL.out.2.2.1 HM.out
  rw [HE.out.1, HE.out.2.1, HE.out.2.2.1] at T3
  clear d3 H2 HR3 q0 q1 q2 q3 q4 q5
  go_wp2_with fail
  refine T3.mono ?_
  rintro e w4 ⟨rfl, d4⟩
  go_upto_region 3 with fail
  obtain ⟨bx, hbx⟩ : ∃ k, w4.heap.size = k := ⟨_, rfl⟩
  rw [hbx]
  obtain ⟨w5, hw5⟩ : ∃ W, w4.alloc (.cells #[.int .i64 0, .int .i64 0, .slice none 0 0, .slice none 0 0, .slice none 0 0] 25) = W := ⟨_, rfl⟩
  rw [hw5]
  have H5 : Hid (w5.heap[w.heap.size]? = some (.cells #[.int .i64 n, .int .i64 mv, .slice a1 n1 c1, .slice a2 n2 c2, .slice a3 n3 c3, .slice aw nw cw] 35 (0, 0)) ∧ Below w.heap.size w w5) := hide (by
    have d : Below w4.heap.size w4 w5 := by rw [← hw5]; exact (Below.refl _ _).alloc (Nat.le_refl _) _
    exact ⟨blk_on (blk_on H3.out.1 d4) d, (H3.out.2.trans (d4.mono H3.out.2.size)).trans (d.mono (Nat.le_trans H3.out.2.size d4.size))⟩)
  have T5 := rmay_any w5 n mv St Fi Ed a1 a2 a3 c1 c2 c3 (hide ⟨hA.out.s.on H5.out.2, hA.out.f.on H5.out.2, hA.out.e.on H5.out.2⟩) HL.out.1 HL.out.2.1 HL.out.2.2.1
  rw [HE.out.1, HE.out.2.1, HE.out.2.2.1, mayF_is, HM.out] at T5
  clear T3 d4 H3 hw5 hbx TTW
  have q0 : w5.cell? ⟨w.heap.size, 0, none⟩ = some (.int .i64 n) := cell_of H5.out.1 rfl
  have q1 : w5.cell? ⟨w.heap.size, 1, none⟩ = some (.int .i64 mv) := cell_of H5.out.1 rfl
  have q2 : w5.cell? ⟨w.heap.size, 2, none⟩ = some (.slice a1 n1 c1) := cell_of H5.out.1 rfl
  have q3 : w5.cell? ⟨w.heap.size, 3, none⟩ = some (.slice a2 n2 c2) := cell_of H5.out.1 rfl
  have q4 : w5.cell? ⟨w.heap.size, 4, none⟩ = some (.slice a3 n3 c3) := cell_of H5.out.1 rfl
  have q5 : w5.cell? ⟨w.heap.size, 5, none⟩ = some (.slice aw nw cw) := cell_of H5.out.1 rfl
  go_wp2_with fail
  refine T5.mono ?_
  rintro e w6 ⟨rfl, d6⟩
  have H6 := hide (H5.out.2.trans (d6.mono H5.out.2.size))
  have T6 := known_any w6 (hide (hT.out.below H6.out h0)) (Nat.lt_of_lt_of_le h0 H6.out.size)
  clear d6 T5 H5 q0 q1 q2 q3 q4 q5
  go_wp2_with fail
  refine T6.mono ?_
  rintro e w7 ⟨rfl, d7⟩
  have H7 := hide (H6.out.trans (d7.mono H6.out.size))
  clear d7 T6
  go_wp2_with fail
  go_ret
  exact ⟨rfl, H7.out⟩
set_option maxRecDepth 100000 in
set_option maxHeartbeats 8000000 in
theorem tleast_ok (w : World) (N : Nat) (mv : Int) (a1 a2 a3 aw : Option Addr) (c1 c2 c3 cw : Nat) (St Fi Wd : List Int) (Ed : List EdT) (hA : Hid (RdA w a1 a2 a3 St Fi Ed)) (hWd : Hid (RdN w aw Wd)) (h1 : St.length ≤ 4194304) (h2 : Fi.length ≤ 4194304) (h3 : Ed.length ≤ 4194304) (h4 : Wd.length ≤ 4194304) (hT : Hid (TabAt w)) (h0 : 0 < w.heap.size) (hm : mayA (N : Int) mv St Fi Ed = true) :
    Calls Tryd.prog 4 #[.agg #[.int .i64 (N : Int), .int .i64 mv, .slice a1 St.length c1, .slice a2 Fi.length c2, .slice a3 Ed.length c3, .slice aw Wd.length cw]] w fun e w' => e = .returned (.bool true) ∧ Below w.heap.size w w' := by
  obtain ⟨n1, e1⟩ : ∃ n, St.length = n := ⟨_, rfl⟩
  obtain ⟨n2, e2⟩ : ∃ n, Fi.length = n := ⟨_, rfl⟩
  obtain ⟨n3, e3⟩ : ∃ n, Ed.length = n := ⟨_, rfl⟩
  obtain ⟨nw, ew⟩ : ∃ n, Wd.length = n := ⟨_, rfl⟩
  rw [e1, e2, e3, ew]
  have HE := hide (And.intro e1 (And.intro e2 (And.intro e3 ew)))
  have HL := hide (And.intro h1 (And.intro h2 (And.intro h3 h4)))
  have HM := hide hm
  obtain ⟨kk1, hk1⟩ : ∃ k, n1 + 64 = k := ⟨_, rfl⟩
  obtain ⟨kk2, hk2⟩ : ∃ k, n2 + 64 = k := ⟨_, rfl⟩
  obtain ⟨kk3, hk3⟩ : ∃ k, n3 + 64 = k := ⟨_, rfl⟩
  have HK := hide (And.intro hk1 (And.intro hk2 hk3))
  obtain ⟨W0, hW0⟩ : ∃ W0, w.alloc (.cells #[.int .i64 (N : Int), .int .i64 mv, .slice a1 n1 c1, .slice a2 n2 c2, .slice a3 n3 c3, .slice aw nw cw] 35) = W0 := ⟨_, rfl⟩
  have HB : Hid (W0.heap[w.heap.size]? = some (.cells #[.int .i64 (N : Int), .int .i64 mv, .slice a1 n1 c1, .slice a2 n2 c2, .slice a3 n3 c3, .slice aw nw cw] 35 (0, 0)) ∧ Below w.heap.size w W0) := hide (by rw [← hW0]; exact ⟨World.alloc_heap_new _ _, (Below.refl _ _).alloc (Nat.le_refl _) _⟩)
  have TTW : Hid (∀ W, Below w.heap.size w W → Calls Tryd.prog 6 #[.agg #[.int .i64 (N : Int), .int .i64 mv, .slice a1 n1 c1, .slice a2 n2 c2, .slice a3 n3 c3]] W fun e w' => ∃ b1 b2 b3, e = .returned (.agg #[.int .i64 (N : Int), .int .i64 mv, .slice (some ⟨b1, 0, none⟩) n1 kk1, .slice (some ⟨b2, 0, none⟩) n2 kk2, .slice (some ⟨b3, 0, none⟩) n3 kk3]) ∧ Hid (RdA w' (some ⟨b1, 0, none⟩) (some ⟨b2, 0, none⟩) (some ⟨b3, 0, none⟩) St Fi Ed) ∧ Below W.heap.size W w') := hide (fun W d => by
    have TW := twinA_any W (N : Int) mv St Fi Ed a1 a2 a3 c1 c2 c3 (hide ⟨hA.out.s.on d, hA.out.f.on d, hA.out.e.on d⟩) HL.out.1 HL.out.2.1 HL.out.2.2.1
    rw [HE.out.1, HE.out.2.1, HE.out.2.2.1, HK.out.1, HK.out.2.1, HK.out.2.2] at TW
    refine TW.mono ?_
    rintro e w' ⟨b1, b2, b3, he, hTw, _, dd⟩
    exact ⟨b1, b2, b3, he, hide ⟨padN_reads hTw.s, padN_reads hTw.f, edPad_reads hTw.e⟩, dd⟩)
  have q0 : W0.cell? ⟨w.heap.size, 0, none⟩ = some (.int .i64 (N : Int)) := cell_of HB.out.1 rfl
  have q1 : W0.cell? ⟨w.heap.size, 1, none⟩ = some (.int .i64 mv) := cell_of HB.out.1 rfl
  have q2 : W0.cell? ⟨w.heap.size, 2, none⟩ = some (.slice a1 n1 c1) := cell_of HB.out.1 rfl
  have q3 : W0.cell? ⟨w.heap.size, 3, none⟩ = some (.slice a2 n2 c2) := cell_of HB.out.1 rfl
  have q4 : W0.cell? ⟨w.heap.size, 4, none⟩ = some (.slice a3 n3 c3) := cell_of HB.out.1 rfl
  have q5 : W0.cell? ⟨w.heap.size, 5, none⟩ = some (.slice aw nw cw) := cell_of HB.out.1 rfl
  clear e1 e2 e3 ew hk1 hk2 hk3 h1 h2 h3 h4 hm
  go_enter Tryd.func4, Tryd.ntmps4
  go_wp2_with fail
  refine (TTW.out W0 HB.out.2).mono ?_
  rintro e w1 ⟨b1, b2, b3, rfl, HR1, d1⟩
  have H1 : Hid (w1.heap[w.heap.size]? = some (.cells #[.int .i64 (N : Int), .int .i64 mv, .slice a1 n1 c1, .slice a2 n2 c2, .slice a3 n3 c3, .slice aw nw cw] 35 (0, 0)) ∧ Below w.heap.size w w1) := hide ⟨blk_on HB.out.1 d1, HB.out.2.trans (d1.mono HB.out.2.size)⟩
  clear d1 HB hW0 q0 q1 q2 q3 q4 q5
  have T1 := empty_q w1 N mv (some ⟨b1, 0, none⟩) (some ⟨b2, 0, none⟩) (some ⟨b3, 0, none⟩) kk1 kk2 kk3 St Fi Ed HR1.out HL.out.1 HL.out.2.1 HL.out.2.2.1 (hT.out.below H1.out.2 h0) (Nat.lt_of_lt_of_le h0 H1.out.2.size) HM.out
  rw [HE.out.1, HE.out.2.1, HE.out.2.2.1] at T1
  clear HR1
  go_wp2_with fail
  refine T1.mono ?_
  rintro e w2 ⟨no, L, ⟨ay, cy, rfl, RY, len, hLg, hor⟩, d2⟩
  have HLg := hide (And.intro hLg hor)
  obtain ⟨ly, ely⟩ : ∃ l, L.length = l := ⟨_, rfl⟩
  rw [ely]
  have H2 : Hid (w2.heap[w.heap.size]? = some (.cells #[.int .i64 (N : Int), .int .i64 mv, .slice a1 n1 c1, .slice a2 n2 c2, .slice a3 n3 c3, .slice aw nw cw] 35 (0, 0)) ∧ Below w.heap.size w w2) := hide ⟨blk_on H1.out.1 d2, H1.out.2.trans (d2.mono H1.out.2.size)⟩
  have HY2 := hide (And.intro ely RY)
  clear T1 d2 H1 hLg hor ely RY
  have q0 : w2.cell? ⟨w.heap.size, 0, none⟩ = some (.int .i64 (N : Int)) := cell_of H2.out.1 rfl
  have q1 : w2.cell? ⟨w.heap.size, 1, none⟩ = some (.int .i64 mv) := cell_of H2.out.1 rfl
  have q2 : w2.cell? ⟨w.heap.size, 2, none⟩ = some (.slice a1 n1 c1) := cell_of H2.out.1 rfl
  have q3 : w2.cell? ⟨w.heap.size, 3, none⟩ = some (.slice a2 n2 c2) := cell_of H2.out.1 rfl
  have q4 : w2.cell? ⟨w.heap.size, 4, none⟩ = some (.slice a3 n3 c3) := cell_of H2.out.1 rfl
  have q5 : w2.cell? ⟨w.heap.size, 5, none⟩ = some (.slice aw nw cw) := cell_of H2.out.1 rfl
  go_wp2_with fail
  refine (TTW.out w2 H2.out.2).mono ?_
  rintro e w3 ⟨y1, y2, y3, rfl, HR3, d3⟩
  have H3 : Hid (w3.heap[w.heap.size]? = some (.cells #[.int .i64 (N : Int), .int .i64 mv, .slice a1 n1 c1, .slice a2 n2 c2, .slice a3 n3 c3, .slice aw nw cw] 35 (0, 0)) ∧ RdN w3 ay L ∧ Below w.heap.size w w3) := hide ⟨blk_on H2.out.1 d3, HY2.out.2.on d3, H2.out.2.trans (d3.mono H2.out.2.size)⟩
  have T3 := trim_t w3 N mv (some ⟨y1, 0, none⟩) (some ⟨y2, 0, none⟩) (some ⟨y3, 0, none⟩) kk1 kk2 kk3 St Fi Ed HR3.out HL.out.1 HL.out.2.1 HL.out.2.2.1 (hT.out.below H3.out.2.2 h0) (Nat.lt_of_lt_of_le h0 H3.out.2.2.size) HM.out
  rw [HE.out.1, HE.out.2.1, HE.out.2.2.1] at T3
  clear d3 H2 HR3 q0 q1 q2 q3 q4 q5 TTW
  go_wp2_with fail
  refine T3.mono ?_
  rintro e w4 ⟨U, hU, ⟨t1, t2, t3, ao, k1, k2, k3, ko, rfl, _, _⟩, d4⟩
  have HF := hide (tlF_of HM.out HLg.out.1 hU.out HLg.out.2)
  go_upto_region 3 with fail
  obtain ⟨bx, hbx⟩ : ∃ k, w4.heap.size = k := ⟨_, rfl⟩
  rw [hbx]
  obtain ⟨K, hK⟩ : ∃ K, (uL U N).length = K := ⟨_, rfl⟩
  obtain ⟨m1, x1⟩ : ∃ n, (dL U (riseL St)).length = n := ⟨_, rfl⟩
  obtain ⟨m2, x2⟩ : ∃ n, (dL U (riseL Fi)).length = n := ⟨_, rfl⟩
  obtain ⟨m3, x3⟩ : ∃ n, (dE U (riseE Ed)).length = n := ⟨_, rfl⟩
  obtain ⟨m4, x4⟩ : ∃ n, (natL (uL U N)).length = n := ⟨_, rfl⟩
  rw [hK] at HF
  rw [hK, x1, x2, x3, x4]
  obtain ⟨w5, hw5⟩ : ∃ W, w4.alloc (.cells #[.int .i64 (K : Int), .int .i64 mv, .slice t1 m1 k1, .slice t2 m2 k2, .slice t3 m3 k3] 25) = W := ⟨_, rfl⟩
  rw [hw5]
  have H5 : Hid (w5.heap[w.heap.size]? = some (.cells #[.int .i64 (N : Int), .int .i64 mv, .slice a1 n1 c1, .slice a2 n2 c2, .slice a3 n3 c3, .slice aw nw cw] 35 (0, 0)) ∧ w5.heap[bx]? = some (.cells #[.int .i64 (K : Int), .int .i64 mv, .slice t1 m1 k1, .slice t2 m2 k2, .slice t3 m3 k3] 25 (0, 0)) ∧ RdN w5 ay L ∧ Below w.heap.size w w5) := hide (by
    have d : Below w4.heap.size w4 w5 := by rw [← hw5]; exact (Below.refl _ _).alloc (Nat.le_refl _) _
    exact ⟨blk_on (blk_on H3.out.1 d4) d, by rw [← hw5, ← hbx]; exact World.alloc_heap_new _ _, (H3.out.2.1.on d4).on d, (H3.out.2.2.trans (d4.mono H3.out.2.2.size)).trans (d.mono (Nat.le_trans H3.out.2.2.size d4.size))⟩)
  have HY := hide HY2.out.1
  clear T3 d4 H3 hw5 hbx hU HLg HY2 hK x1 x2 x3 x4
  go_upto_region 5 with fail
  have T5 := rmay_any w5 (N : Int) mv St Fi Ed a1 a2 a3 c1 c2 c3 (hide ⟨hA.out.s.on H5.out.2.2.2, hA.out.f.on H5.out.2.2.2, hA.out.e.on H5.out.2.2.2⟩) HL.out.1 HL.out.2.1 HL.out.2.2.1
  rw [HE.out.1, HE.out.2.1, HE.out.2.2.1, mayF_is, HM.out] at T5
  have q0 : w5.cell? ⟨w.heap.size, 0, none⟩ = some (.int .i64 (N : Int)) := cell_of H5.out.1 rfl
  have q1 : w5.cell? ⟨w.heap.size, 1, none⟩ = some (.int .i64 mv) := cell_of H5.out.1 rfl
  have q2 : w5.cell? ⟨w.heap.size, 2, none⟩ = some (.slice a1 n1 c1) := cell_of H5.out.1 rfl
  have q3 : w5.cell? ⟨w.heap.size, 3, none⟩ = some (.slice a2 n2 c2) := cell_of H5.out.1 rfl
  have q4 : w5.cell? ⟨w.heap.size, 4, none⟩ = some (.slice a3 n3 c3) := cell_of H5.out.1 rfl
  have q5 : w5.cell? ⟨w.heap.size, 5, none⟩ = some (.slice aw nw cw) := cell_of H5.out.1 rfl
  go_wp2_with fail
  refine T5.mono ?_
  rintro e w6 ⟨rfl, d6⟩
  have H6 : Hid (w6.heap[w.heap.size]? = some (.cells #[.int .i64 (N : Int), .int .i64 mv, .slice a1 n1 c1, .slice a2 n2 c2, .slice a3 n3 c3, .slice aw nw cw] 35 (0, 0)) ∧ w6.heap[bx]? = some (.cells #[.int .i64 (K : Int), .int .i64 mv, .slice t1 m1 k1, .slice t2 m2 k2, .slice t3 m3 k3] 25 (0, 0)) ∧ RdN w6 ay L ∧ Below w.heap.size w w6) := hide ⟨blk_on H5.out.1 d6, blk_on H5.out.2.1 d6, H5.out.2.2.1.on d6, H5.out.2.2.2.trans (d6.mono H5.out.2.2.2.size)⟩
  clear T5 d6 H5 q0 q1 q2 q3 q4 q5
  have r0 : w6.cell? ⟨bx, 0, none⟩ = some (.int .i64 (K : Int)) := cell_of H6.out.2.1 rfl
  have hK4 := HF.out.kN
  cases no with
  | true =>
    have kz : K = 0 := of_decide_eq_true HF.out.nk.symm
    subst kz
    have lz : ly = 0 := by rw [← HY.out]; exact HF.out.n0 rfl
    subst lz
    go_upto_region 7 with fail
    go_upto_region 9 with fail
    clear r0
    have qm : w6.cell? ⟨w.heap.size, 1, none⟩ = some (.int .i64 mv) := cell_of H6.out.1 rfl
    have TWd := words_any w6 mv
    go_upto_region 10 with (go_at_call 13; refine TWd.mono ?_; rintro e w8 ⟨v8, n, rfl, ⟨vals, hv1, hv2, hv3⟩, hn60, d8⟩)
    clear TWd qm
    obtain ⟨y8, z8, e8⟩ := own_slice hv2
    subst e8
    have HV8 : Hid (vals.length = n ∧ w8.ownsRow w6.heap.size 22 1 (.slice y8 n z8) n vals ∧ ∀ x ∈ vals, WdV w8 n x) := hide ⟨hv1, hv2, hv3⟩
    have HD8 := hide d8
    have s78 := d8.size
    clear d8 hv1 hv2 hv3
    obtain ⟨i2, hi2, hz20, hz21, hz22⟩ := info_parts info22
    have qw : w8.cell? ⟨w.heap.size, 5, none⟩ = some (.slice aw nw cw) := cell_of (blk_on H6.out.1 HD8.out) rfl
    go_upto_region 11 with (at_builtin; refine wpList_append_own_at _ rfl _ _ 41 rfl w6.heap.size 22 i2 _ 1 24 Tryd.underlying41 hi2 hz20 hz21 hz22 rfl (by omega) (.slice y8 n z8) n vals rfl (HV8.out.2.1.alloc _) ⟨w8.heap.size, 0, none⟩ 1 1 [.slice aw nw cw] rfl rfl (World.news_of_block (cs := #[.slice aw nw cw]) (t := 22) (fr := (0, 0)) (heap_alloc_new w8 _)) (by simp [Value.oneCell']) (by unfold maxLen; omega) (by omega) (by rw [World.size_alloc]; omega) ?_; intro v10 w10 ho hg hn1 hl1)
    have HV10 : Hid ((∀ x ∈ vals ++ [.slice aw nw cw], WdR w10 x) ∧ Below w6.heap.size w6 w10) := hide (by
      have hg' := hg
      rw [← HE.out.2.2.2] at hg' ⊢
      exact wl_last HV8.out HD8.out H6.out.2.2.2 hWd.out HL.out.2.2.2 hn60 hg')
    obtain ⟨y10, z10, e10⟩ := own_slice ho
    subst e10
    have HO : Hid (∃ gy, y10 = some ⟨gy, 0, none⟩ ∧ ∀ i (h : i < (vals ++ [Value.slice aw nw cw]).length), w10.cell? ⟨gy, i, none⟩ = some (vals ++ [Value.slice aw nw cw])[i]) := hide (by
      rcases ho.2 with ⟨hv, h0⟩ | ⟨gy, cap, cur, hv, hB, hb2, hn2, hcap, hsz, hxs⟩
      · simp at h0
      · cases hv
        refine ⟨gy, rfl, fun i hi => ?_⟩
        refine cell_of hb2 ?_
        have hlen : (vals ++ [Value.slice aw nw cw]).length = n + 1 := by rw [List.length_append, HV8.out.1]; rfl
        have h1 : (cur.toList.take ((n + 1) * 1))[i]? = some (vals ++ [Value.slice aw nw cw])[i] := by rw [hxs, List.getElem?_eq_getElem hi]
        rw [List.getElem?_take_of_lt (by omega)] at h1
        simpa using h1)
    obtain ⟨gy, rfl, HO2⟩ := HO.out
    obtain ⟨M, hM⟩ : ∃ M, n + 1 = M := ⟨_, rfl⟩
    obtain ⟨VL, hVL⟩ : ∃ V, vals ++ [Value.slice aw nw cw] = V := ⟨_, rfl⟩
    have hMl : VL.length = M := by rw [← hVL, List.length_append, HV8.out.1, ← hM]; rfl
    rw [hM]
    have HVL : Hid (VL.length = M ∧ (∀ x ∈ VL, WdR w10 x) ∧ ∀ i (h : i < VL.length), w10.cell? ⟨gy, i, none⟩ = some VL[i]) := hide ⟨hMl, by rw [← hVL]; exact HV10.out.1, by subst hVL; exact HO2⟩
    have hM60 : M ≤ 61 := by omega
    have H10 : Hid (w10.heap[w.heap.size]? = some (.cells #[.int .i64 (N : Int), .int .i64 mv, .slice a1 n1 c1, .slice a2 n2 c2, .slice a3 n3 c3, .slice aw nw cw] 35 (0, 0)) ∧ RdN w10 ay L ∧ Below w.heap.size w w10) := hide ⟨blk_on H6.out.1 HV10.out.2, H6.out.2.2.1.on HV10.out.2, H6.out.2.2.2.trans (HV10.out.2.mono H6.out.2.2.2.size)⟩
    clear ho hg hn1 hl1 HV8 HD8 s78 qw HV10 HO HO2 hM hVL hMl hn60 H6
    go_wp2_with fail
    go_loopw [10] (fun iv wr => ∃ i : Nat, i ≤ M ∧ iv = .int .i64 (i : Int) ∧ Hid (Below w10.heap.size w10 wr)) (fun iv _ => M - (intOf iv).toNat)
    case atStart => exact ⟨0, Nat.zero_le _, rfl, hide (Below.refl _ _)⟩
    case round =>
      obtain ⟨i, hi, rfl, HY3⟩ := hrel
      by_cases hlt : i < M
      · have l0 : (i : Int) < (M : Int) := by omega
        have i0 : (0 : Int) ≤ (i : Int) := by omega
        have hil : i < VL.length := by have := HVL.out.1; omega
        obtain ⟨a, c, X, ex, hr, hl⟩ := HVL.out.2.1 _ (List.getElem_mem hil)
        have cx := HVL.out.2.2 i hil
        rw [ex] at cx
        obtain ⟨l, el⟩ : ∃ l, X.length = l := ⟨_, rfl⟩
        rw [el] at cx
        have HRD := hide (And.intro hr (And.intro hl (And.intro el cx)))
        obtain ⟨b, hb⟩ : ∃ b, bothM N (wordM Ed (inL St) X) (inL Fi) = b := ⟨_, rfl⟩
        have HBB := hide hb
        have HLe : Hid (b = true → False) := hide (fun e => by have t := HF.out.le X (hb.trans e); exact absurd t.1 (by decide))
        clear hr hl el cx ex hil hb
        have SKK : Hid (∀ W, Below w10.heap.size w10 W → (fun W => (W.cell? ⟨w.heap.size, 0, none⟩ = some (.int .i64 (N : Int)) ∧ W.cell? ⟨w.heap.size, 1, none⟩ = some (.int .i64 mv) ∧ W.cell? ⟨w.heap.size, 2, none⟩ = some (.slice a1 n1 c1) ∧ W.cell? ⟨w.heap.size, 3, none⟩ = some (.slice a2 n2 c2) ∧ W.cell? ⟨w.heap.size, 4, none⟩ = some (.slice a3 n3 c3) ∧ W.cell? ⟨w.heap.size, 5, none⟩ = some (.slice aw nw cw)) ∧ (W.cell? ⟨gy, i, none⟩ = some (.slice a l c)) ∧ Hid (Below w10.heap.size w10 W)) W) := hide (fun W d => by
          have e0 := blk_on H10.out.1 d
          exact ⟨⟨cell_of e0 rfl, cell_of e0 rfl, cell_of e0 rfl, cell_of e0 rfl, cell_of e0 rfl, cell_of e0 rfl⟩, (d.cell (World.block_lt_of_cell? w10 _ HRD.out.2.2.2)).trans HRD.out.2.2.2, hide d⟩)
        have TA : Hid (∀ W, Below w10.heap.size w10 W → Calls Tryd.prog 12 #[.agg #[.int .i64 (N : Int), .int .i64 mv, .slice a1 n1 c1, .slice a2 n2 c2, .slice a3 n3 c3], .slice a l c] W fun e w' => e = .returned (.bool b) ∧ Below w10.heap.size w10 w') := hide (fun W d => by
          have dw := H10.out.2.2.trans (d.mono H10.out.2.2.size)
          have t := takes_any W N mv a1 a2 a3 c1 c2 c3 St Fi Ed a c X ⟨HM.out, hA.out.s.on dw, hA.out.f.on dw, hA.out.e.on dw, HL.out.1, HL.out.2.1⟩ (HRD.out.1.on d) HRD.out.2.1
          rw [HE.out.1, HE.out.2.1, HE.out.2.2.1, HRD.out.2.2.1, HBB.out] at t
          exact t.mono fun e w' ⟨he, dd⟩ => ⟨he, d.trans (dd.mono d.size)⟩)
        go_upto_region 14 with fail
        have SD : Hid (∀ W, (fun W => (W.cell? ⟨w.heap.size, 0, none⟩ = some (.int .i64 (N : Int)) ∧ W.cell? ⟨w.heap.size, 1, none⟩ = some (.int .i64 mv) ∧ W.cell? ⟨w.heap.size, 2, none⟩ = some (.slice a1 n1 c1) ∧ W.cell? ⟨w.heap.size, 3, none⟩ = some (.slice a2 n2 c2) ∧ W.cell? ⟨w.heap.size, 4, none⟩ = some (.slice a3 n3 c3) ∧ W.cell? ⟨w.heap.size, 5, none⟩ = some (.slice aw nw cw)) ∧ (W.cell? ⟨gy, i, none⟩ = some (.slice a l c)) ∧ Hid (Below w10.heap.size w10 W)) W → Below w10.heap.size w10 W) := hide (fun W h => h.2.2.out)
        have S0 := SKK.out wr.drew HY3.out.drew
        go_region_held3 (fun W => (W.cell? ⟨w.heap.size, 0, none⟩ = some (.int .i64 (N : Int)) ∧ W.cell? ⟨w.heap.size, 1, none⟩ = some (.int .i64 mv) ∧ W.cell? ⟨w.heap.size, 2, none⟩ = some (.slice a1 n1 c1) ∧ W.cell? ⟨w.heap.size, 3, none⟩ = some (.slice a2 n2 c2) ∧ W.cell? ⟨w.heap.size, 4, none⟩ = some (.slice a3 n3 c3) ∧ W.cell? ⟨w.heap.size, 5, none⟩ = some (.slice aw nw cw)) ∧ (W.cell? ⟨gy, i, none⟩ = some (.slice a l c)) ∧ Hid (Below w10.heap.size w10 W))
          (with_reducible assumption)
          ((first
            | (go_at_call 12; refine (TA.out _ (SD.out _ (by with_reducible assumption))).mono ?_; rintro e wa ⟨rfl, da⟩; have Swa := SKK.out wa da)))
        have HDa := hide da
        clear S0 Swa SD da SKK TA
        cases b with
        | true => exact absurd (HLe.out rfl) id
        | false =>
          go_wp2_with fail
          go_roundw
          case rel => exact ⟨i + 1, by omega, by go_num, HDa⟩
          case measure => simp [intOf]; omega
      · have l0 : ¬ (i : Int) < (M : Int) := by omega
        have HG := hide (H10.out.2.2.trans (HY3.out.mono H10.out.2.2.size))
        have TKn := known_any wr (hide (hT.out.below HG.out h0)) (Nat.lt_of_lt_of_le h0 HG.out.size)
        clear HVL
        go_wp2_with fail
        refine TKn.mono ?_
        rintro e wz ⟨rfl, dz⟩
        have HZ := hide (HG.out.trans (dz.mono HG.out.size))
        clear dz TKn
        go_wp2_with fail
        go_ret
        exact ⟨rfl, HZ.out⟩
  | false =>
    have kz : ¬ K = 0 := of_decide_eq_false HF.out.nk.symm
    have kz2 : ¬ (K : Int) = 0 := by omega
    have kz3 : ((K : Int) == 0) = false := by simpa using kz2
    go_upto_region 7 with fail
    have ll : ly < K := by rw [← HY.out]; exact (HF.out.y1 rfl).1
    have ll2 : ¬ (K : Int) ≤ (ly : Int) := by omega
    have ll3 : ¬ K ≤ ly := by omega
    have ll4 : decide (K ≤ ly) = false := decide_eq_false ll3
    have T7 := takes_any w6 N mv a1 a2 a3 c1 c2 c3 St Fi Ed ay cy L ⟨HM.out, hA.out.s.on H6.out.2.2.2, hA.out.f.on H6.out.2.2.2, hA.out.e.on H6.out.2.2.2, HL.out.1, HL.out.2.1⟩ H6.out.2.2.1 HF.out.ll
    rw [HE.out.1, HE.out.2.1, HE.out.2.2.1, HY.out, (HF.out.y1 rfl).2] at T7
    have q0 : w6.cell? ⟨w.heap.size, 0, none⟩ = some (.int .i64 (N : Int)) := cell_of H6.out.1 rfl
    have q1 : w6.cell? ⟨w.heap.size, 1, none⟩ = some (.int .i64 mv) := cell_of H6.out.1 rfl
    have q2 : w6.cell? ⟨w.heap.size, 2, none⟩ = some (.slice a1 n1 c1) := cell_of H6.out.1 rfl
    have q3 : w6.cell? ⟨w.heap.size, 3, none⟩ = some (.slice a2 n2 c2) := cell_of H6.out.1 rfl
    have q4 : w6.cell? ⟨w.heap.size, 4, none⟩ = some (.slice a3 n3 c3) := cell_of H6.out.1 rfl
    have q5 : w6.cell? ⟨w.heap.size, 5, none⟩ = some (.slice aw nw cw) := cell_of H6.out.1 rfl
    go_upto_region 9 with (go_at_call 12; refine T7.mono ?_; rintro e w7 ⟨rfl, d7⟩)
    replace H6 : Hid (w7.heap[w.heap.size]? = some (.cells #[.int .i64 (N : Int), .int .i64 mv, .slice a1 n1 c1, .slice a2 n2 c2, .slice a3 n3 c3, .slice aw nw cw] 35 (0, 0)) ∧ w7.heap[bx]? = some (.cells #[.int .i64 (K : Int), .int .i64 mv, .slice t1 m1 k1, .slice t2 m2 k2, .slice t3 m3 k3] 25 (0, 0)) ∧ RdN w7 ay L ∧ Below w.heap.size w w7) := hide ⟨blk_on H6.out.1 d7, blk_on H6.out.2.1 d7, H6.out.2.2.1.on d7, H6.out.2.2.2.trans (d7.mono H6.out.2.2.2.size)⟩
    clear T7 d7 r0 q0 q1 q2 q3 q4 q5
    have qm : w7.cell? ⟨w.heap.size, 1, none⟩ = some (.int .i64 mv) := cell_of H6.out.1 rfl
    have TWd := words_any w7 mv
    go_upto_region 10 with (go_at_call 13; refine TWd.mono ?_; rintro e w8 ⟨v8, n, rfl, ⟨vals, hv1, hv2, hv3⟩, hn60, d8⟩)
    clear TWd qm
    obtain ⟨y8, z8, e8⟩ := own_slice hv2
    subst e8
    have HV8 : Hid (vals.length = n ∧ w8.ownsRow w7.heap.size 22 1 (.slice y8 n z8) n vals ∧ ∀ x ∈ vals, WdV w8 n x) := hide ⟨hv1, hv2, hv3⟩
    have HD8 := hide d8
    have s78 := d8.size
    clear d8 hv1 hv2 hv3
    obtain ⟨i2, hi2, hz20, hz21, hz22⟩ := info_parts info22
    have qw : w8.cell? ⟨w.heap.size, 5, none⟩ = some (.slice aw nw cw) := cell_of (blk_on H6.out.1 HD8.out) rfl
    go_upto_region 11 with (at_builtin; refine wpList_append_own_at _ rfl _ _ 41 rfl w7.heap.size 22 i2 _ 1 24 Tryd.underlying41 hi2 hz20 hz21 hz22 rfl (by omega) (.slice y8 n z8) n vals rfl (HV8.out.2.1.alloc _) ⟨w8.heap.size, 0, none⟩ 1 1 [.slice aw nw cw] rfl rfl (World.news_of_block (cs := #[.slice aw nw cw]) (t := 22) (fr := (0, 0)) (heap_alloc_new w8 _)) (by simp [Value.oneCell']) (by unfold maxLen; omega) (by omega) (by rw [World.size_alloc]; omega) ?_; intro v10 w10 ho hg hn1 hl1)
    have HV10 : Hid ((∀ x ∈ vals ++ [.slice aw nw cw], WdR w10 x) ∧ Below w7.heap.size w7 w10) := hide (by
      have hg' := hg
      rw [← HE.out.2.2.2] at hg' ⊢
      exact wl_last HV8.out HD8.out H6.out.2.2.2 hWd.out HL.out.2.2.2 hn60 hg')
    obtain ⟨y10, z10, e10⟩ := own_slice ho
    subst e10
    have HO : Hid (∃ gy, y10 = some ⟨gy, 0, none⟩ ∧ ∀ i (h : i < (vals ++ [Value.slice aw nw cw]).length), w10.cell? ⟨gy, i, none⟩ = some (vals ++ [Value.slice aw nw cw])[i]) := hide (by
      rcases ho.2 with ⟨hv, h0⟩ | ⟨gy, cap, cur, hv, hB, hb2, hn2, hcap, hsz, hxs⟩
      · simp at h0
      · cases hv
        refine ⟨gy, rfl, fun i hi => ?_⟩
        refine cell_of hb2 ?_
        have hlen : (vals ++ [Value.slice aw nw cw]).length = n + 1 := by rw [List.length_append, HV8.out.1]; rfl
        have h1 : (cur.toList.take ((n + 1) * 1))[i]? = some (vals ++ [Value.slice aw nw cw])[i] := by rw [hxs, List.getElem?_eq_getElem hi]
        rw [List.getElem?_take_of_lt (by omega)] at h1
        simpa using h1)
    obtain ⟨gy, rfl, HO2⟩ := HO.out
    obtain ⟨M, hM⟩ : ∃ M, n + 1 = M := ⟨_, rfl⟩
    obtain ⟨VL, hVL⟩ : ∃ V, vals ++ [Value.slice aw nw cw] = V := ⟨_, rfl⟩
    have hMl : VL.length = M := by rw [← hVL, List.length_append, HV8.out.1, ← hM]; rfl
    rw [hM]
    have HVL : Hid (VL.length = M ∧ (∀ x ∈ VL, WdR w10 x) ∧ ∀ i (h : i < VL.length), w10.cell? ⟨gy, i, none⟩ = some VL[i]) := hide ⟨hMl, by rw [← hVL]; exact HV10.out.1, by subst hVL; exact HO2⟩
    have hM60 : M ≤ 61 := by omega
    have H10 : Hid (w10.heap[w.heap.size]? = some (.cells #[.int .i64 (N : Int), .int .i64 mv, .slice a1 n1 c1, .slice a2 n2 c2, .slice a3 n3 c3, .slice aw nw cw] 35 (0, 0)) ∧ RdN w10 ay L ∧ Below w.heap.size w w10) := hide ⟨blk_on H6.out.1 HV10.out.2, H6.out.2.2.1.on HV10.out.2, H6.out.2.2.2.trans (HV10.out.2.mono H6.out.2.2.2.size)⟩
    clear ho hg hn1 hl1 HV8 HD8 s78 qw HV10 HO HO2 hM hVL hMl hn60 H6
    go_wp2_with fail
    go_loopw [10] (fun iv wr => ∃ i : Nat, i ≤ M ∧ iv = .int .i64 (i : Int) ∧ Hid (Below w10.heap.size w10 wr)) (fun iv _ => M - (intOf iv).toNat)
    case atStart => exact ⟨0, Nat.zero_le _, rfl, hide (Below.refl _ _)⟩
    case round =>
      obtain ⟨i, hi, rfl, HY3⟩ := hrel
      by_cases hlt : i < M
      · have l0 : (i : Int) < (M : Int) := by omega
        have i0 : (0 : Int) ≤ (i : Int) := by omega
        have hil : i < VL.length := by have := HVL.out.1; omega
        obtain ⟨a, c, X, ex, hr, hl⟩ := HVL.out.2.1 _ (List.getElem_mem hil)
        have cx := HVL.out.2.2 i hil
        rw [ex] at cx
        obtain ⟨l, el⟩ : ∃ l, X.length = l := ⟨_, rfl⟩
        rw [el] at cx
        have HRD := hide (And.intro hr (And.intro hl (And.intro el cx)))
        obtain ⟨b, hb⟩ : ∃ b, bothM N (wordM Ed (inL St) X) (inL Fi) = b := ⟨_, rfl⟩
        have HBB := hide hb
        have HLe : Hid (b = true → lessB X L = false) := hide (fun e => by have t := HF.out.le X (hb.trans e); exact t.2)
        clear hr hl el cx ex hil hb
        have SKK : Hid (∀ W, Below w10.heap.size w10 W → (fun W => (W.cell? ⟨w.heap.size, 0, none⟩ = some (.int .i64 (N : Int)) ∧ W.cell? ⟨w.heap.size, 1, none⟩ = some (.int .i64 mv) ∧ W.cell? ⟨w.heap.size, 2, none⟩ = some (.slice a1 n1 c1) ∧ W.cell? ⟨w.heap.size, 3, none⟩ = some (.slice a2 n2 c2) ∧ W.cell? ⟨w.heap.size, 4, none⟩ = some (.slice a3 n3 c3) ∧ W.cell? ⟨w.heap.size, 5, none⟩ = some (.slice aw nw cw)) ∧ (W.cell? ⟨gy, i, none⟩ = some (.slice a l c)) ∧ Hid (Below w10.heap.size w10 W)) W) := hide (fun W d => by
          have e0 := blk_on H10.out.1 d
          exact ⟨⟨cell_of e0 rfl, cell_of e0 rfl, cell_of e0 rfl, cell_of e0 rfl, cell_of e0 rfl, cell_of e0 rfl⟩, (d.cell (World.block_lt_of_cell? w10 _ HRD.out.2.2.2)).trans HRD.out.2.2.2, hide d⟩)
        have TA : Hid (∀ W, Below w10.heap.size w10 W → Calls Tryd.prog 12 #[.agg #[.int .i64 (N : Int), .int .i64 mv, .slice a1 n1 c1, .slice a2 n2 c2, .slice a3 n3 c3], .slice a l c] W fun e w' => e = .returned (.bool b) ∧ Below w10.heap.size w10 w') := hide (fun W d => by
          have dw := H10.out.2.2.trans (d.mono H10.out.2.2.size)
          have t := takes_any W N mv a1 a2 a3 c1 c2 c3 St Fi Ed a c X ⟨HM.out, hA.out.s.on dw, hA.out.f.on dw, hA.out.e.on dw, HL.out.1, HL.out.2.1⟩ (HRD.out.1.on d) HRD.out.2.1
          rw [HE.out.1, HE.out.2.1, HE.out.2.2.1, HRD.out.2.2.1, HBB.out] at t
          exact t.mono fun e w' ⟨he, dd⟩ => ⟨he, d.trans (dd.mono d.size)⟩)
        go_upto_region 14 with fail
        have SD : Hid (∀ W, (fun W => (W.cell? ⟨w.heap.size, 0, none⟩ = some (.int .i64 (N : Int)) ∧ W.cell? ⟨w.heap.size, 1, none⟩ = some (.int .i64 mv) ∧ W.cell? ⟨w.heap.size, 2, none⟩ = some (.slice a1 n1 c1) ∧ W.cell? ⟨w.heap.size, 3, none⟩ = some (.slice a2 n2 c2) ∧ W.cell? ⟨w.heap.size, 4, none⟩ = some (.slice a3 n3 c3) ∧ W.cell? ⟨w.heap.size, 5, none⟩ = some (.slice aw nw cw)) ∧ (W.cell? ⟨gy, i, none⟩ = some (.slice a l c)) ∧ Hid (Below w10.heap.size w10 W)) W → Below w10.heap.size w10 W) := hide (fun W h => h.2.2.out)
        have S0 := SKK.out wr.drew HY3.out.drew
        go_region_held3 (fun W => (W.cell? ⟨w.heap.size, 0, none⟩ = some (.int .i64 (N : Int)) ∧ W.cell? ⟨w.heap.size, 1, none⟩ = some (.int .i64 mv) ∧ W.cell? ⟨w.heap.size, 2, none⟩ = some (.slice a1 n1 c1) ∧ W.cell? ⟨w.heap.size, 3, none⟩ = some (.slice a2 n2 c2) ∧ W.cell? ⟨w.heap.size, 4, none⟩ = some (.slice a3 n3 c3) ∧ W.cell? ⟨w.heap.size, 5, none⟩ = some (.slice aw nw cw)) ∧ (W.cell? ⟨gy, i, none⟩ = some (.slice a l c)) ∧ Hid (Below w10.heap.size w10 W))
          (with_reducible assumption)
          ((first
            | (go_at_call 12; refine (TA.out _ (SD.out _ (by with_reducible assumption))).mono ?_; rintro e wa ⟨rfl, da⟩; have Swa := SKK.out wa da)))
        have HDa := hide da
        clear S0 Swa SD da SKK TA
        cases b with
        | false =>
          go_wp2_with fail
          go_roundw
          case rel => exact ⟨i + 1, by omega, by go_num, HDa⟩
          case measure => simp [intOf]; omega
        | true =>
          have cy2 : wa.cell? ⟨gy, i, none⟩ = some (.slice a l c) := (HDa.out.cell (World.block_lt_of_cell? w10 _ HRD.out.2.2.2)).trans HRD.out.2.2.2
          have TL := less_any wa a ay c cy X L (HRD.out.1.on HDa.out) (H10.out.2.1.on HDa.out) HRD.out.2.1
          rw [HLe.out rfl, HRD.out.2.2.1, HY.out] at TL
          go_wp2_with fail
          refine TL.mono ?_
          rintro e wb ⟨rfl, db⟩
          have HDb := hide (HDa.out.trans (db.mono HDa.out.size))
          clear db TL cy2
          go_wp2_with fail
          go_roundw
          case rel => exact ⟨i + 1, by omega, by go_num, HDb⟩
          case measure => simp [intOf]; omega
      · have l0 : ¬ (i : Int) < (M : Int) := by omega
        have HG := hide (H10.out.2.2.trans (HY3.out.mono H10.out.2.2.size))
        have TKn := known_any wr (hide (hT.out.below HG.out h0)) (Nat.lt_of_lt_of_le h0 HG.out.size)
        clear HVL
        go_wp2_with fail
        refine TKn.mono ?_
        rintro e wz ⟨rfl, dz⟩
        have HZ := hide (HG.out.trans (dz.mono HG.out.size))
        clear dz TKn
        go_wp2_with fail
        go_ret
        exact ⟨rfl, HZ.out⟩
theorem tleast_any (w : World) (n mv : Int) (a1 a2 a3 aw : Option Addr) (c1 c2 c3 cw : Nat) (St Fi Wd : List Int) (Ed : List EdT) (hA : Hid (RdA w a1 a2 a3 St Fi Ed)) (hWd : Hid (RdN w aw Wd)) (h1 : St.length ≤ 4194304) (h2 : Fi.length ≤ 4194304) (h3 : Ed.length ≤ 4194304) (h4 : Wd.length ≤ 4194304) (hT : Hid (TabAt w)) (h0 : 0 < w.heap.size) :
    Calls Tryd.prog 4 #[.agg #[.int .i64 n, .int .i64 mv, .slice a1 St.length c1, .slice a2 Fi.length c2, .slice a3 Ed.length c3, .slice aw Wd.length cw]] w fun e w' => e = .returned (.bool true) ∧ Below w.heap.size w w' := by
  by_cases hm : mayA n mv St Fi Ed = true
  · obtain ⟨N, rfl, _⟩ := arg_of hA.out h1 h2 hm
    exact tleast_ok w N mv a1 a2 a3 aw c1 c2 c3 cw St Fi Wd Ed hA hWd h1 h2 h3 h4 hT h0 hm
  · exact tleast_bad w n mv a1 a2 a3 aw c1 c2 c3 cw St Fi Wd Ed hA hWd h1 h2 h3 h4 hT h0 (by simpa using hm)
end Go.Proofs.YtojnlpicgemlaaaDoor
