import Derived.Test.YtmagchclmmphaaaDoorCV
import Derived.Test.YtmagchclmmphaaaDoorSm
import Derived.Test.YtmagchclmmphaaaDoorLZ
namespace Go.Proofs.YtmagchclmmphaaaDoor
open Go.RowKit Go.Maps

/-! ### A file that was read, and what it prints -/
/-- Its content's lists. -/
def oT (s : ByteArray) : List OpI := (contF s).O.map opOI
def sT (s : ByteArray) : List ByteArray := (contF s).S
def fT (s : ByteArray) : List ByteArray := namesAt (finN (contF s)) (contF s).S
def rT (s : ByteArray) : List RuT := (contF s).R
def tT (s : ByteArray) : ByteArray := (contF s).ti
/-- Its canonical text. -/
def canT (s : ByteArray) : ByteArray := writeT (tT s) ((oT s).map opN) (sT s) (fT s) (rT s)
theorem oT_back (s : ByteArray) : (oT s).map opN = (contF s).O := by
  unfold oT
  rw [List.map_map]
  calc (contF s).O.map (opN ∘ opOI) = (contF s).O.map id := List.map_congr_left (fun x _ => by simp [opN, opOI])
    _ = _ := List.map_id _
theorem val_T (s : ByteArray) (h : errF s = 0) : valF (tT s) (oT s) (sT s) (fT s) (rT s) = true := read_val s h
/-- The canonical text says the same. -/
theorem can_T (s : ByteArray) (h : errF s = 0) : errF (canT s) = 0 ∧ tT (canT s) = tT s ∧ oT (canT s) = oT s ∧ sT (canT s) = sT s ∧ fT (canT s) = fT s ∧ rT (canT s) = rT s := by
  have hc := cok_of (val_T s h)
  have k1 := (written_lines hc).1
  have k2 := written_cont hc
  have k3 := written_fin hc
  refine ⟨k1, ?_, ?_, ?_, ?_, ?_⟩
  · unfold canT tT; unfold tT at k2; rw [k2]
  · have e : oT (canT s) = ((oT s).map opN).map opOI := by
      unfold canT; rw [oT, k2]
    rw [e, oT_back]; rfl
  · unfold canT; rw [sT, k2]
  · have e : sT (canT s) = sT s := by unfold canT; rw [sT, k2]
    show namesAt (finN (contF (canT s))) (sT (canT s)) = fT s
    rw [e]; exact k3
  · unfold canT; rw [rT, k2]
theorem can_can (s : ByteArray) (h : errF s = 0) : canT (canT s) = canT s := by
  obtain ⟨_, k1, k2, k3, k4, k5⟩ := can_T s h
  show writeT (tT (canT s)) ((oT (canT s)).map opN) (sT (canT s)) (fT (canT s)) (rT (canT s)) = _
  rw [k1, k2, k3, k4, k5]; rfl
theorem len_T (s : ByteArray) (hs : s.size ≤ 129999999) (h : errF s = 0) : (oT s).length ≤ (s.size + 1) / 2 ∧ (sT s).length ≤ (s.size + 1) / 2 ∧ (fT s).length ≤ (s.size + 1) / 2 ∧ (rT s).length ≤ (s.size + 1) / 2 := by
  have k := (chain_of s hs h).2.2
  refine ⟨by unfold oT; rw [List.length_map]; exact k.o, k.s, ?_, k.r⟩
  unfold fT namesAt finN
  rw [List.length_map, List.length_map]
  have h1 := compact_len ((contF s).N.map Int.ofNat |>.mergeSort fun x y => decide (x ≤ y))
  rw [List.length_mergeSort, List.length_map] at h1
  exact Nat.le_trans h1 k.f
theorem can_size (s : ByteArray) (hs : s.size ≤ 1048576) (h : errF s = 0) : (canT s).size ≤ 129999999 := by
  obtain ⟨l1, l2, l3, l4⟩ := len_T s (by omega) h
  have hw := wok_of (val_T s h) (by omega) (by omega) (by omega) (by omega)
  have k1 := foldT_size opT (⟨#[]⟩ ++ ⟨#[79, 112, 115]⟩) ((oT s).map opN) 19 (fun x hx => opT_size x (hw.o x hx).1)
  have e1 : ((⟨#[]⟩ ++ ⟨#[79, 112, 115]⟩ : ByteArray)).size = 3 := by rw [ByteArray.size_append]; rfl
  rw [List.length_map] at k1
  have k2 := onT_size (w2T (tT s) ((oT s).map opN)) (sT s) 16 hw.s
  have k3 := onT_size (w3T (tT s) ((oT s).map opN) (sT s)) (fT s) 16 hw.f
  have k4 := foldT_size ruT (w4T (tT s) ((oT s).map opN) (sT s) (fT s)) (rT s) 55 (fun x hx => ruT_size x (hw.r x hx))
  have e2 : (w2T (tT s) ((oT s).map opN)).size = (w1T ((oT s).map opN)).size + (18 + (tT s).size) := by
    unfold w2T
    rw [ByteArray.size_append, ByteArray.size_append, ByteArray.size_append]
    have a : (⟨#[10, 65, 117, 116, 111, 109, 97, 116, 111, 110, 32]⟩ : ByteArray).size = 11 := rfl
    have b : (⟨#[10, 83, 116, 97, 116, 101, 115]⟩ : ByteArray).size = 7 := rfl
    omega
  have e3 : (w3T (tT s) ((oT s).map opN) (sT s)).size = (onT (w2T (tT s) ((oT s).map opN)) (sT s)).size + 13 := by unfold w3T; rw [ByteArray.size_append]; rfl
  have e4 : (w4T (tT s) ((oT s).map opN) (sT s) (fT s)).size = (onT (w3T (tT s) ((oT s).map opN) (sT s)) (fT s)).size + 13 := by unfold w4T; rw [ByteArray.size_append]; rfl
  have e5 : (w1T ((oT s).map opN)).size ≤ 3 + (oT s).length * 19 := by unfold w1T opsT; omega
  have ht := hw.ti
  show (writeT (tT s) ((oT s).map opN) (sT s) (fT s) (rT s)).size ≤ _
  unfold writeT rulesT
  omega

theorem parse_read (s : ByteArray) (w : World) (hT : Hid (RowsAt w ∧ BytesAt w ∧ 1 < w.heap.size)) (hsz : s.size ≤ 129999999) (he : errF s = 0) :
    Calls Tryd.prog 5 #[.string s] w fun e w' => ∃ ao co asx cs an cn ar cr, e = .returned (.tuple #[.agg #[.string (tT s), .slice ao (oT s).length co, .slice asx (sT s).length cs, .slice an (fT s).length cn, .slice ar (rT s).length cr], .agg #[.int .i64 0, .int .i64 0]]) ∧ RdO w' ao (oT s) ∧ ReadsS w' asx (sT s) ∧ ReadsS w' an (fT s) ∧ RdRu w' ar (rT s) ∧ Below w.heap.size w w' := by
  refine (parse_ok s w hT hsz he).mono ?_
  rintro e w1 ⟨vo, vs, vn, vr, rfl, ro, rs, rn, rr, rd, d1⟩
  have hf : (finN (contF s)).length = (namesAt (finN (contF s)) (contF s).S).length := by simp [namesAt]
  rw [hf] at rn
  rw [text_cells] at rs
  obtain ⟨ao, co, rfl, qo⟩ := rdO_of ro
  obtain ⟨asx, cs, rfl, qs⟩ := rdS_of rs
  obtain ⟨an, cn, rfl, qn⟩ := rdS_of rn
  obtain ⟨ar, cr, rfl, qr⟩ := rdR_of rr
  refine ⟨ao, co, asx, cs, an, cn, ar, cr, ?_, qo, qs, qn, qr, d1⟩
  show Ending.returned (.tuple #[.agg #[.string (tT s), .slice ao (contF s).O.length co, .slice asx (sT s).length cs, .slice an (fT s).length cn, .slice ar (rT s).length cr], .agg #[.int .i64 0, .int .i64 0]]) = _
  rw [show (oT s).length = (contF s).O.length by unfold oT; rw [List.length_map]]
theorem print_read (s : ByteArray) (w : World) (ao asx af ar : Option Addr) (co cs cf cr : Nat) (hT : Hid (BytesAt w ∧ 1 < w.heap.size)) (hs : (oT s).length ≤ 4194304 ∧ (sT s).length ≤ 4194304 ∧ (fT s).length ≤ 4194304 ∧ (rT s).length ≤ 4194304) (he : errF s = 0) (hO : Hid (RdO w ao (oT s))) (hS : Hid (ReadsS w asx (sT s))) (hF : Hid (ReadsS w af (fT s))) (hR : Hid (RdRu w ar (rT s))) :
    Calls Tryd.prog 7 #[.agg #[.string (tT s), .slice ao (oT s).length co, .slice asx (sT s).length cs, .slice af (fT s).length cf, .slice ar (rT s).length cr]] w fun e w' => e = .returned (.tuple #[.string (canT s), .int .i64 0]) ∧ Below w.heap.size w w' := by
  have hw := wok_of (val_T s he) hs.1 hs.2.1 hs.2.2.1 hs.2.2.2
  have q := print_any w (tT s) ao asx af ar co cs cf cr (oT s) (sT s) (fT s) (rT s) hT hO hS hF hR (hide ⟨fun x hx => show x.size ≤ _ by have := hw.f x hx; omega, fun x hx => by obtain ⟨a, b, c⟩ := hw.r x hx; exact ⟨by omega, by omega, by omega⟩⟩) hs.1 hs.2.1 hs.2.2.1 hs.2.2.2
  rw [val_T s he] at q
  exact q
end Go.Proofs.YtmagchclmmphaaaDoor
namespace Go.Proofs.YtmagchclmmphaaaDoor
open Go.RowKit Go.Maps

/-- How long a printed text is. -/
theorem write_size {ti : ByteArray} {O : List OpI} {S F : List ByteArray} {R : List RuT} (hv : valF ti O S F R = true) (l1 : O.length ≤ 1048576) (l2 : S.length ≤ 1048576) (l3 : F.length ≤ 1048576) (l4 : R.length ≤ 1048576) :
    (writeT ti (O.map opN) S F R).size ≤ 129999999 := by
  have hw := wok_of hv (by omega) (by omega) (by omega) (by omega)
  have k1 := foldT_size opT (⟨#[]⟩ ++ ⟨#[79, 112, 115]⟩) (O.map opN) 19 (fun x hx => opT_size x (hw.o x hx).1)
  have e1 : ((⟨#[]⟩ ++ ⟨#[79, 112, 115]⟩ : ByteArray)).size = 3 := by rw [ByteArray.size_append]; rfl
  rw [List.length_map] at k1
  have k2 := onT_size (w2T ti (O.map opN)) S 16 hw.s
  have k3 := onT_size (w3T ti (O.map opN) S) F 16 hw.f
  have k4 := foldT_size ruT (w4T ti (O.map opN) S F) R 55 (fun x hx => ruT_size x (hw.r x hx))
  have e2 : (w2T ti (O.map opN)).size = (w1T (O.map opN)).size + (18 + ti.size) := by
    unfold w2T
    rw [ByteArray.size_append, ByteArray.size_append, ByteArray.size_append]
    have a : (⟨#[10, 65, 117, 116, 111, 109, 97, 116, 111, 110, 32]⟩ : ByteArray).size = 11 := rfl
    have b : (⟨#[10, 83, 116, 97, 116, 101, 115]⟩ : ByteArray).size = 7 := rfl
    omega
  have e3 : (w3T ti (O.map opN) S).size = (onT (w2T ti (O.map opN)) S).size + 13 := by unfold w3T; rw [ByteArray.size_append]; rfl
  have e4 : (w4T ti (O.map opN) S F).size = (onT (w3T ti (O.map opN) S) F).size + 13 := by unfold w4T; rw [ByteArray.size_append]; rfl
  have e5 : (w1T (O.map opN)).size ≤ 3 + O.length * 19 := by unfold w1T opsT; omega
  have ht := hw.ti
  unfold writeT rulesT
  omega
/-- What is printed is read as it was. -/
theorem back_T {ti : ByteArray} {O : List OpI} {S F : List ByteArray} {R : List RuT} (hv : valF ti O S F R = true) :
    errF (writeT ti (O.map opN) S F R) = 0 ∧ tT (writeT ti (O.map opN) S F R) = ti ∧ oT (writeT ti (O.map opN) S F R) = O ∧ sT (writeT ti (O.map opN) S F R) = S ∧ fT (writeT ti (O.map opN) S F R) = F ∧ rT (writeT ti (O.map opN) S F R) = R := by
  have hc := cok_of hv
  have k1 := (written_lines hc).1
  have k2 := written_cont hc
  have k3 := written_fin hc
  have hn : O.all opOk = true := by
    unfold valF namesOk at hv
    simp only [Bool.and_eq_true] at hv
    exact hv.1.1.1.1.1.1.1
  refine ⟨k1, ?_, ?_, ?_, ?_, ?_⟩
  · rw [tT, k2]
  · rw [oT, k2]
    show (O.map opN).map opOI = O
    rw [List.map_map]
    calc O.map (opOI ∘ opN) = O.map id := List.map_congr_left (fun x hx => by
          have q := List.all_eq_true.1 hn x hx
          simp only [opOk, Bool.and_eq_true, decide_eq_true_eq] at q
          have : ((x.2.toNat : Nat) : Int) = x.2 := by omega
          simp [opN, opOI, this])
      _ = _ := List.map_id _
  · rw [sT, k2]
  · have e : sT (writeT ti (O.map opN) S F R) = S := by rw [sT, k2]
    show namesAt (finN (contF (writeT ti (O.map opN) S F R))) (sT (writeT ti (O.map opN) S F R)) = F
    rw [e]; exact k3
  · rw [rT, k2]
end Go.Proofs.YtmagchclmmphaaaDoor
namespace Go.Proofs.YtmagchclmmphaaaDoor
open Go.RowKit Go.Maps

/-! ### A text that is laid otherwise says the same -/
theorem fold_ne : ∀ (LP : List (List ByteArray)) (a : AS), LP.foldl takeF a = (LP.filter fun L => !L.isEmpty).foldl takeF a
  | [], _ => rfl
  | L :: LP, a => by
    by_cases h : L = []
    · subst h
      rw [List.foldl_cons, show takeF a [] = a by simp [takeF], fold_ne LP a]
      rfl
    · rw [List.foldl_cons, fold_ne LP, List.filter_cons_of_pos (by simp [h]), List.foldl_cons]
theorem PL_lines (s : ByteArray) : PL (runsF fdB [] (bts s)) = (((lines s).map pieces).filter fun L => !L.isEmpty).map (List.map bts) := by
  rw [← lines_runs]
  unfold PL
  rw [List.map_map, List.filter_map]
  have e : (runsF isNm [] ∘ bts) = (fun x => (pieces x).map bts) := funext fun x => (pieces_runs x).symm
  rw [e, List.filter_map, List.map_map]
  congr 1
  rw [List.filter_congr]
  intro x _
  simp
theorem Lk.pl {q : Nat × Nat} {u v cur : List Nat} {D : List (List Nat)} (h : Lk q u v D cur) : PL (runsF fdB [] u) = PL (runsF fdB [] v) := by
  obtain ⟨_, _, Ls, c, Ls', c', r1, r2, r3, r4, e⟩ := h
  rw [r1.all, r3.all, PL_end, PL_end, e, r2.all, r4.all]
theorem lk_cont {s t : ByteArray} {u : List Nat} {q : Nat × Nat} (h : LkX q u (bts t)) (hu : runsF fdB [] u = runsF fdB [] (bts s)) (hf : isF q = true) : errF t = 0 ∧ contF t = contF s := by
  obtain ⟨D, cur, h, _, _⟩ := h
  refine ⟨?_, ?_⟩
  · unfold errF lenF endF
    rw [h.gv, bts_len]
    rw [if_neg (by simp [hf])]
  · have e := h.pl
    rw [hu, PL_lines, PL_lines] at e
    have e2 := (List.map_inj_right (fun _ _ q => map_inj_bts q)).1 e
    unfold contF
    rw [fold_ne, fold_ne ((lines s).map pieces), e2]
theorem blk_app {a b : List Nat} (ha : Blk a) (hb : Blk b) : Blk (a ++ b) := by
  induction hb with
  | nil => simpa using ha
  | add l _ hl ih => rw [← List.append_assoc]; exact .add l ih hl
theorem img_same (u : List Nat) (b : Nat) : Img u b [b] := by
  by_cases h : b = 10
  · subst h; exact .feed [] [] (fun _ h => by cases h) .nil
  · by_cases h2 : b = 32
    · subst h2
      by_cases h3 : ∃ x, u = x ++ wFin
      · obtain ⟨x, e⟩ := h3; exact .word x e
      · exact .blank [] (fun x e => h3 ⟨x, e⟩) (fun _ h => by cases h)
    · exact .byte b h h2
theorem lk_ahead {l : List Nat} (hg : (goF (1, 0) l).2 = l.length) {a m : List Nat} (ha : Bl a) (hm : Blk m) : LkX (goF (1, 0) l).1 l ((a ++ [10] ++ m) ++ l) := by
  have hb : Blk (a ++ [10] ++ m) := by
    have := Blk.add a .nil ha
    exact blk_app (by simpa using this) hm
  have h0 : Lk (1, 0) [] [] [] [] := ⟨rfl, rfl, [], [], [], [], RunS.nil _, RunS.nil _, RunS.nil _, RunS.nil _, rfl⟩
  have h1 := (h0.lines (by decide) hb).1
  rw [List.nil_append] at h1
  have key : ∀ k, k ≤ l.length → LkX (goF (1, 0) (l.take k)).1 (l.take k) ((a ++ [10] ++ m) ++ l.take k) := by
    intro k
    induction k with
    | zero =>
      intro _
      exact ⟨[], [], by rw [List.take_zero, List.append_nil]; exact h1, fun ⟨x, e⟩ => by simp at e, fun ⟨x, e⟩ => by simp at e⟩
    | succ k ih =>
      intro hk
      obtain ⟨g1, g2⟩ := go_pre hg k hk
      have := (ih (by omega)).step g1 (img_same _ _)
      rw [g2, List.take_succ_eq_append_getElem hk, ← List.append_assoc _ (l.take k)]
      exact this
  have := key l.length (Nat.le_refl _)
  rwa [List.take_length] at this
theorem cnt_nm {n : List Nat} (h : nmOk n) : n.count 10 = 0 := List.count_eq_zero.2 (fun q => absurd (h.2.2 10 q) (by decide))
theorem cnt_flat {α : Type} (f : α → List Nat) (c : Nat) : ∀ (L : List α), (∀ x ∈ L, (f x).count 10 ≤ c) → (L.flatMap f).count 10 ≤ c * L.length
  | [], _ => by simp
  | x :: L, h => by
    rw [List.flatMap_cons, List.count_append, List.length_cons]
    have h1 := h x (by simp)
    have h2 := cnt_flat f c L (fun y hy => h y (by simp [hy]))
    rw [Nat.mul_add, Nat.mul_one]; omega
set_option maxHeartbeats 1000000 in
/-- A canonical text: how it begins, ends, and how many lines it has. -/
theorem can_text {ti : ByteArray} {O : List OpT} {S F : List ByteArray} {R : List RuT} (h : COk ti O S F R) :
    (bts (writeT ti O S F R))[0]? = some 79 ∧ goF (1, 0) (bts (writeT ti O S F R)) = ((24, 0), (writeT ti O S F R).size) ∧ (∃ u, bts (writeT ti O S F R) = u ++ [10]) ∧ (bts (writeT ti O S F R)).count 10 ≤ 5 + R.length ∧ 3 ≤ (writeT ti O S F R).size := by
  have hn : ∀ x ∈ O, x.2 ≤ 1 := fun x hx => (h.o x hx).2
  have hr : ∀ r ∈ R.map ruQ, nmOk r.1 ∧ (r.2.1 = [] ∨ nmOk r.2.1) ∧ nmOk r.2.2 := by
    intro r hr
    obtain ⟨x, hx, rfl⟩ := List.mem_map.1 hr
    obtain ⟨q1, q2, q3⟩ := h.r x hx
    refine ⟨vld_nm (h.o _ q1).1, ?_, vld_nm (h.s _ q2)⟩
    rcases q3 with e | e
    · exact .inl (bts_nil.2 e)
    · exact .inr (vld_nm (h.s _ e))
  have hP : ∀ x ∈ O.map opQ, nmOk x.1 := fun x hx => by obtain ⟨y, hy, rfl⟩ := List.mem_map.1 hx; exact vld_nm (h.o y hy).1
  have ha : arO (O.map opQ) := fun x hx => by obtain ⟨y, hy, rfl⟩ := List.mem_map.1 hx; have := hn y hy; show 48 + y.2 = 48 ∨ 48 + y.2 = 49; omega
  have hS : ∀ x ∈ S.map bts, nmOk x := fun x hx => by obtain ⟨y, hy, rfl⟩ := List.mem_map.1 hx; exact vld_nm (h.s y hy)
  have hF : ∀ x ∈ F.map bts, nmOk x := fun x hx => by obtain ⟨y, hy, rfl⟩ := List.mem_map.1 hx; exact vld_nm (h.s y (h.f y hy))
  have k := file_goes (vld_nm h.ti) hP ha hS hF hr
  have e := write_bts (ti := ti) (S := S) (F := F) (R := R) hn
  rw [← bts_len, e]
  have e79 : (fileN (bts ti) (O.map opQ) (S.map bts) (F.map bts) (R.map ruQ))[0]? = some 79 := by
    unfold fileN wOps
    simp only [List.append_assoc, List.cons_append, List.getElem?_cons_zero]
  refine ⟨e79, k.1, ?_, ?_, ?_⟩
  · rcases List.eq_nil_or_concat (R.map ruQ) with q | ⟨R', r, q⟩
    · rw [q]
      unfold fileN
      rw [List.flatMap_nil, List.append_nil]
      exact ⟨_, rfl⟩
    · obtain ⟨A, hA⟩ : ∃ A, fileN (bts ti) (O.map opQ) (S.map bts) (F.map bts) (R.map ruQ) = A ++ (R.map ruQ).flatMap ruN := ⟨_, rfl⟩
      obtain ⟨u, hu⟩ : ∃ u, ruN r = u ++ [10] := ⟨_, rfl⟩
      rw [hA, q, List.concat_eq_append, List.flatMap_append]
      refine ⟨A ++ R'.flatMap ruN ++ u, ?_⟩
      rw [List.flatMap_cons, List.flatMap_nil, List.append_nil, hu]
      simp only [List.append_assoc]
  · unfold fileN
    have c1 := cnt_flat (fun x : List Nat × Nat => [32] ++ x.1 ++ [58, x.2]) 0 (O.map opQ) (fun x hx => by
      have := cnt_nm (hP x hx)
      rw [List.count_append, List.count_append, this]
      have := ha x hx
      rcases this with q | q <;> rw [q] <;> decide)
    have c2 := cnt_flat (fun x : List Nat => [32] ++ x) 0 (S.map bts) (fun x hx => by
      have := cnt_nm (hS x hx)
      rw [List.count_append, this]; decide)
    have c3 := cnt_flat (fun x : List Nat => [32] ++ x) 0 (F.map bts) (fun x hx => by
      have := cnt_nm (hF x hx)
      rw [List.count_append, this]; decide)
    have c4 := cnt_flat ruN 1 (R.map ruQ) (fun r hx => by
      obtain ⟨q1, q2, q3⟩ := hr r hx
      have e2 : r.2.1.count 10 = 0 := by
        rcases q2 with q | q
        · rw [q]; rfl
        · exact cnt_nm q
      unfold ruN
      simp only [List.count_append]
      rw [cnt_nm q1, e2, cnt_nm q3]; decide)
    have c5 := cnt_nm (vld_nm h.ti)
    simp only [List.count_append]
    rw [List.length_map] at c4
    have d1 : wOps.count 10 = 0 := by decide
    have d2 : wAut.count 10 = 0 := by decide
    have d3 : wSta.count 10 = 0 := by decide
    have d4 : wFin.count 10 = 0 := by decide
    have d5 : wTra.count 10 = 0 := by decide
    have d6 : ([10] : List Nat).count 10 = 1 := by decide
    have d7 : ([32] : List Nat).count 10 = 0 := by decide
    simp only [d1, d2, d3, d4, d5, d6, d7, c5]
    omega
  · unfold fileN
    simp only [List.length_append]
    have : wOps.length = 3 := rfl
    omega
theorem go_whole {l : List Nat} (h : (goF (1, 0) l).2 = l.length) (k : Nat) : (goF (1, 0) (l.take k)).2 = (l.take k).length := by
  have e : l = l.take k ++ l.drop k := (List.take_append_drop k l).symm
  rcases Nat.lt_or_ge (goF (1, 0) (l.take k)).2 (l.take k).length with q | q
  · have h2 := goF_app_stop (l.drop k) q
    rw [← e] at h2
    rw [h2] at h
    have : (l.take k).length ≤ l.length := by rw [List.length_take]; omega
    omega
  · have := goF_le (1, 0) (l.take k); omega
/-- Lines of blanks ahead, the last line feed left out. -/
theorem lk_second {X Y b : ByteArray} (hX : bts X = bts Y ++ [10]) (hg : goF (1, 0) (bts X) = ((24, 0), X.size)) (hb : Bh b) : errF (b ++ Y) = 0 ∧ contF (b ++ Y) = contF X := by
  obtain ⟨l, m, hl, hm, e⟩ := hb
  have hf : (goF (1, 0) (bts X)).2 = (bts X).length := by rw [hg, bts_len]
  have hlen : (bts Y).length < (bts X).length := by rw [hX]; simp
  have et : (bts X).take (bts Y).length = bts Y := by rw [hX]; simp
  have eg : (bts X)[(bts Y).length] = 10 := by simp [hX]
  have h1 := go_whole hf (bts Y).length
  have h2 := (go_pre hf (bts Y).length hlen).2
  rw [et] at h1 h2
  rw [eg, List.take_of_length_le (by rw [hX]; simp), hg] at h2
  have h3 := lk_ahead h1 hl hm
  rw [← e, ← bts_two] at h3
  refine lk_cont h3 ?_ (by unfold isF; rw [← h2]; rfl)
  obtain ⟨D, c, x, r, _⟩ := RunS.ex fdB (bts Y)
  have h4 := (r.off (b := 10) rfl).all
  rw [endC_nil] at h4
  rw [hX, h4, r.all]
theorem cont_T {s t : ByteArray} (h : contF t = contF s) : tT t = tT s ∧ oT t = oT s ∧ sT t = sT s ∧ fT t = fT s ∧ rT t = rT s := by
  unfold tT oT sT fT rT
  rw [h]
  exact ⟨rfl, rfl, rfl, rfl, rfl⟩
end Go.Proofs.YtmagchclmmphaaaDoor
