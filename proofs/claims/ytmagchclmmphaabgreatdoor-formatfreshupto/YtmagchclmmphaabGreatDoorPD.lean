import Derived.Test.YtmagchclmmphaabGreatDoorCV
import Derived.Test.YtmagchclmmphaabGreatDoorVL
namespace Go.Proofs.YtmagchclmmphaabGreatDoor
open Go.RowKit Go.Maps

/-! ### A file that was read, and what it prints -/
/-- Its content's lists. -/
def oT (s : ByteArray) : List OpI := (contF s).O.map opOI
def sT (s : ByteArray) : List ByteArray := (contF s).S
def fT (s : ByteArray) : List ByteArray := namesAt (finN (contF s)) (contF s).S
def rT (s : ByteArray) : List RuT := (contF s).R
def tT (s : ByteArray) : ByteArray := (contF s).ti
/-- Its canonical text. -/
def canT (s : ByteArray) : ByteArray := writeT (tT s) ((oT s).map opN) (sT s) (fT s) (rT s)
theorem oT_back (s : ByteArray) : (oT s).map opN = (contF s).O := by
  unfold oT
  rw [List.map_map]
  calc (contF s).O.map (opN ∘ opOI) = (contF s).O.map id := List.map_congr_left (fun x _ => by simp [opN, opOI])
    _ = _ := List.map_id _
theorem val_T (s : ByteArray) (h : errF s = 0) : valF (tT s) (oT s) (sT s) (fT s) (rT s) = true := read_val s h
/-- The canonical text says the same. -/
theorem can_T (s : ByteArray) (h : errF s = 0) : errF (canT s) = 0 ∧ tT (canT s) = tT s ∧ oT (canT s) = oT s ∧ sT (canT s) = sT s ∧ fT (canT s) = fT s ∧ rT (canT s) = rT s := by
  have hc := cok_of (val_T s h)
  have k1 := (written_lines hc).1
  have k2 := written_cont hc
  have k3 := written_fin hc
  refine ⟨k1, ?_, ?_, ?_, ?_, ?_⟩
  · unfold canT tT; unfold tT at k2; rw [k2]
  · have e : oT (canT s) = ((oT s).map opN).map opOI := by
      unfold canT; rw [oT, k2]
    rw [e, oT_back]; rfl
  · unfold canT; rw [sT, k2]
  · have e : sT (canT s) = sT s := by unfold canT; rw [sT, k2]
    show namesAt (finN (contF (canT s))) (sT (canT s)) = fT s
    rw [e]; exact k3
  · unfold canT; rw [rT, k2]
theorem can_can (s : ByteArray) (h : errF s = 0) : canT (canT s) = canT s := by
  obtain ⟨_, k1, k2, k3, k4, k5⟩ := can_T s h
  show writeT (tT (canT s)) ((oT (canT s)).map opN) (sT (canT s)) (fT (canT s)) (rT (canT s)) = _
  rw [k1, k2, k3, k4, k5]; rfl
theorem len_T (s : ByteArray) (hs : s.size ≤ 129999999) (h : errF s = 0) : (oT s).length ≤ (s.size + 1) / 2 ∧ (sT s).length ≤ (s.size + 1) / 2 ∧ (fT s).length ≤ (s.size + 1) / 2 ∧ (rT s).length ≤ (s.size + 1) / 2 := by
  have k := (chain_of s hs h).2.2
  refine ⟨by unfold oT; rw [List.length_map]; exact k.o, k.s, ?_, k.r⟩
  unfold fT namesAt finN
  rw [List.length_map, List.length_map]
  have h1 := compact_len ((contF s).N.map Int.ofNat |>.mergeSort fun x y => decide (x ≤ y))
  rw [List.length_mergeSort, List.length_map] at h1
  exact Nat.le_trans h1 k.f
theorem can_size (s : ByteArray) (hs : s.size ≤ 1048576) (h : errF s = 0) : (canT s).size ≤ 129999999 := by
  obtain ⟨l1, l2, l3, l4⟩ := len_T s (by omega) h
  have hw := wok_of (val_T s h) (by omega) (by omega) (by omega) (by omega)
  have k1 := foldT_size opT (⟨#[]⟩ ++ ⟨#[79, 112, 115]⟩) ((oT s).map opN) 19 (fun x hx => opT_size x (hw.o x hx).1)
  have e1 : ((⟨#[]⟩ ++ ⟨#[79, 112, 115]⟩ : ByteArray)).size = 3 := by rw [ByteArray.size_append]; rfl
  rw [List.length_map] at k1
  have k2 := onT_size (w2T (tT s) ((oT s).map opN)) (sT s) 16 hw.s
  have k3 := onT_size (w3T (tT s) ((oT s).map opN) (sT s)) (fT s) 16 hw.f
  have k4 := foldT_size ruT (w4T (tT s) ((oT s).map opN) (sT s) (fT s)) (rT s) 55 (fun x hx => ruT_size x (hw.r x hx))
  have e2 : (w2T (tT s) ((oT s).map opN)).size = (w1T ((oT s).map opN)).size + (18 + (tT s).size) := by
    unfold w2T
    rw [ByteArray.size_append, ByteArray.size_append, ByteArray.size_append]
    have a : (⟨#[10, 65, 117, 116, 111, 109, 97, 116, 111, 110, 32]⟩ : ByteArray).size = 11 := rfl
    have b : (⟨#[10, 83, 116, 97, 116, 101, 115]⟩ : ByteArray).size = 7 := rfl
    omega
  have e3 : (w3T (tT s) ((oT s).map opN) (sT s)).size = (onT (w2T (tT s) ((oT s).map opN)) (sT s)).size + 13 := by unfold w3T; rw [ByteArray.size_append]; rfl
  have e4 : (w4T (tT s) ((oT s).map opN) (sT s) (fT s)).size = (onT (w3T (tT s) ((oT s).map opN) (sT s)) (fT s)).size + 13 := by unfold w4T; rw [ByteArray.size_append]; rfl
  have e5 : (w1T ((oT s).map opN)).size ≤ 3 + (oT s).length * 19 := by unfold w1T opsT; omega
  have ht := hw.ti
  show (writeT (tT s) ((oT s).map opN) (sT s) (fT s) (rT s)).size ≤ _
  unfold writeT rulesT
  omega

theorem parse_read (s : ByteArray) (w : World) (hT : Hid (RowsAt w ∧ BytesAt w ∧ 1 < w.heap.size)) (hsz : s.size ≤ 129999999) (he : errF s = 0) :
    Calls Tryz.prog 13 #[.string s] w fun e w' => ∃ ao co asx cs an cn ar cr, e = .returned (.tuple #[.agg #[.string (tT s), .slice ao (oT s).length co, .slice asx (sT s).length cs, .slice an (fT s).length cn, .slice ar (rT s).length cr], .agg #[.int .i64 0, .int .i64 0]]) ∧ RdO w' ao (oT s) ∧ ReadsS w' asx (sT s) ∧ ReadsS w' an (fT s) ∧ RdRu w' ar (rT s) ∧ Below w.heap.size w w' := by
  refine (parse_ok s w hT hsz he).mono ?_
  rintro e w1 ⟨vo, vs, vn, vr, rfl, ro, rs, rn, rr, rd, d1⟩
  have hf : (finN (contF s)).length = (namesAt (finN (contF s)) (contF s).S).length := by simp [namesAt]
  rw [hf] at rn
  rw [text_cells] at rs
  obtain ⟨ao, co, rfl, qo⟩ := rdO_of ro
  obtain ⟨asx, cs, rfl, qs⟩ := rdS_of rs
  obtain ⟨an, cn, rfl, qn⟩ := rdS_of rn
  obtain ⟨ar, cr, rfl, qr⟩ := rdR_of rr
  refine ⟨ao, co, asx, cs, an, cn, ar, cr, ?_, qo, qs, qn, qr, d1⟩
  show Ending.returned (.tuple #[.agg #[.string (tT s), .slice ao (contF s).O.length co, .slice asx (sT s).length cs, .slice an (fT s).length cn, .slice ar (rT s).length cr], .agg #[.int .i64 0, .int .i64 0]]) = _
  rw [show (oT s).length = (contF s).O.length by unfold oT; rw [List.length_map]]
theorem print_read (s : ByteArray) (w : World) (ao asx af ar : Option Addr) (co cs cf cr : Nat) (hT : Hid (BytesAt w ∧ 1 < w.heap.size)) (hs : (oT s).length ≤ 4194304 ∧ (sT s).length ≤ 4194304 ∧ (fT s).length ≤ 4194304 ∧ (rT s).length ≤ 4194304) (he : errF s = 0) (hO : Hid (RdO w ao (oT s))) (hS : Hid (ReadsS w asx (sT s))) (hF : Hid (ReadsS w af (fT s))) (hR : Hid (RdRu w ar (rT s))) :
    Calls Tryz.prog 12 #[.agg #[.string (tT s), .slice ao (oT s).length co, .slice asx (sT s).length cs, .slice af (fT s).length cf, .slice ar (rT s).length cr]] w fun e w' => e = .returned (.tuple #[.string (canT s), .int .i64 0]) ∧ Below w.heap.size w w' := by
  have hw := wok_of (val_T s he) hs.1 hs.2.1 hs.2.2.1 hs.2.2.2
  have q := print_any w (tT s) ao asx af ar co cs cf cr (oT s) (sT s) (fT s) (rT s) hT hO hS hF hR (hide ⟨fun x hx => show x.size ≤ _ by have := hw.f x hx; omega, fun x hx => by obtain ⟨a, b, c⟩ := hw.r x hx; exact ⟨by omega, by omega, by omega⟩⟩) hs.1 hs.2.1 hs.2.2.1 hs.2.2.2
  rw [val_T s he] at q
  exact q
end Go.Proofs.YtmagchclmmphaabGreatDoor
namespace Go.Proofs.YtmagchclmmphaabGreatDoor
open Go.RowKit Go.Maps

/-- How long a printed text is. -/
theorem write_size {ti : ByteArray} {O : List OpI} {S F : List ByteArray} {R : List RuT} (hv : valF ti O S F R = true) (l1 : O.length ≤ 1048576) (l2 : S.length ≤ 1048576) (l3 : F.length ≤ 1048576) (l4 : R.length ≤ 1048576) :
    (writeT ti (O.map opN) S F R).size ≤ 129999999 := by
  have hw := wok_of hv (by omega) (by omega) (by omega) (by omega)
  have k1 := foldT_size opT (⟨#[]⟩ ++ ⟨#[79, 112, 115]⟩) (O.map opN) 19 (fun x hx => opT_size x (hw.o x hx).1)
  have e1 : ((⟨#[]⟩ ++ ⟨#[79, 112, 115]⟩ : ByteArray)).size = 3 := by rw [ByteArray.size_append]; rfl
  rw [List.length_map] at k1
  have k2 := onT_size (w2T ti (O.map opN)) S 16 hw.s
  have k3 := onT_size (w3T ti (O.map opN) S) F 16 hw.f
  have k4 := foldT_size ruT (w4T ti (O.map opN) S F) R 55 (fun x hx => ruT_size x (hw.r x hx))
  have e2 : (w2T ti (O.map opN)).size = (w1T (O.map opN)).size + (18 + ti.size) := by
    unfold w2T
    rw [ByteArray.size_append, ByteArray.size_append, ByteArray.size_append]
    have a : (⟨#[10, 65, 117, 116, 111, 109, 97, 116, 111, 110, 32]⟩ : ByteArray).size = 11 := rfl
    have b : (⟨#[10, 83, 116, 97, 116, 101, 115]⟩ : ByteArray).size = 7 := rfl
    omega
  have e3 : (w3T ti (O.map opN) S).size = (onT (w2T ti (O.map opN)) S).size + 13 := by unfold w3T; rw [ByteArray.size_append]; rfl
  have e4 : (w4T ti (O.map opN) S F).size = (onT (w3T ti (O.map opN) S) F).size + 13 := by unfold w4T; rw [ByteArray.size_append]; rfl
  have e5 : (w1T (O.map opN)).size ≤ 3 + O.length * 19 := by unfold w1T opsT; omega
  have ht := hw.ti
  unfold writeT rulesT
  omega
/-- What is printed is read as it was. -/
theorem back_T {ti : ByteArray} {O : List OpI} {S F : List ByteArray} {R : List RuT} (hv : valF ti O S F R = true) :
    errF (writeT ti (O.map opN) S F R) = 0 ∧ tT (writeT ti (O.map opN) S F R) = ti ∧ oT (writeT ti (O.map opN) S F R) = O ∧ sT (writeT ti (O.map opN) S F R) = S ∧ fT (writeT ti (O.map opN) S F R) = F ∧ rT (writeT ti (O.map opN) S F R) = R := by
  have hc := cok_of hv
  have k1 := (written_lines hc).1
  have k2 := written_cont hc
  have k3 := written_fin hc
  have hn : O.all opOk = true := by
    unfold valF namesOk at hv
    simp only [Bool.and_eq_true] at hv
    exact hv.1.1.1.1.1.1.1
  refine ⟨k1, ?_, ?_, ?_, ?_, ?_⟩
  · rw [tT, k2]
  · rw [oT, k2]
    show (O.map opN).map opOI = O
    rw [List.map_map]
    calc O.map (opOI ∘ opN) = O.map id := List.map_congr_left (fun x hx => by
          have q := List.all_eq_true.1 hn x hx
          simp only [opOk, Bool.and_eq_true, decide_eq_true_eq] at q
          have : ((x.2.toNat : Nat) : Int) = x.2 := by omega
          simp [opN, opOI, this])
      _ = _ := List.map_id _
  · rw [sT, k2]
  · have e : sT (writeT ti (O.map opN) S F R) = S := by rw [sT, k2]
    show namesAt (finN (contF (writeT ti (O.map opN) S F R))) (sT (writeT ti (O.map opN) S F R)) = F
    rw [e]; exact k3
  · rw [rT, k2]
end Go.Proofs.YtmagchclmmphaabGreatDoor
