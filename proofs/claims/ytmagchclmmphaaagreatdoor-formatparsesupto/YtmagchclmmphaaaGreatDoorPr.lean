import Derived.Test.YtmagchclmmphaaaGreatDoorPp
namespace Go.Proofs.YtmagchclmmphaaaGreatDoor
open Go.RowKit Go.Maps
attribute [local go_sem] Oper.semAt_some

theorem rise_in {S : List ByteArray} : ∀ {F : List ByteArray} {z : Int}, riseOk S z F = true → ∀ x ∈ F, x ∈ S
  | [], _, _, x, hx => by cases hx
  | y :: t, z, h, x, hx => by
    unfold riseOk at h
    simp only [Bool.and_eq_true, decide_eq_true_eq] at h
    rcases List.mem_cons.1 hx with rfl | hx
    · have := List.findIdx_getElem (p := fun y => decide (y = x)) (w := h.1.1)
      have e := of_decide_eq_true this
      rw [← e]; exact List.getElem_mem _
    · exact rise_in h.2 x hx
theorem wok_of {ti : ByteArray} {O : List OpI} {S F : List ByteArray} {R : List RuT} (h : valF ti O S F R = true) (hlo : O.length ≤ 4194304) (hls : S.length ≤ 4194304) (hlf : F.length ≤ 4194304) (hlr : R.length ≤ 4194304) : WOk ti (O.map opN) S F R := by
  unfold valF namesOk at h
  simp only [Bool.and_eq_true, decide_eq_true_eq] at h
  obtain ⟨⟨⟨⟨⟨⟨⟨h1, h2⟩, h3⟩, h4⟩, h5⟩, h6⟩, h7⟩, h8⟩ := h
  have hs : ∀ x ∈ S, x.size ≤ 16 := fun x hx => vld_size (List.all_eq_true.1 h2 x hx)
  have ho : ∀ x ∈ O.map opN, x.1.size ≤ 16 ∧ x.2 ≤ 1 := by
    intro x hx
    obtain ⟨y, hy, rfl⟩ := List.mem_map.1 hx
    have q := List.all_eq_true.1 h1 _ hy
    simp only [opOk, Bool.and_eq_true, decide_eq_true_eq] at q
    exact ⟨vld_size q.1.1, show y.2.toNat ≤ 1 by omega⟩
  refine ⟨vld_size h3, ho, hs, fun x hx => hs x (rise_in h7 x hx), fun x hx => ?_, by rw [List.length_map]; exact hlo, hls, hlf, hlr⟩
  have q := List.all_eq_true.1 h8 x hx
  unfold ruleOk at q
  simp only [Bool.and_eq_true, Bool.or_eq_true, decide_eq_true_eq] at q
  refine ⟨(ho _ (memO_iff.1 q.1.1)).1, ?_, hs _ (memS_iff.1 q.1.2)⟩
  rcases q.2 with e | e
  · rw [e]; exact Nat.zero_le _
  · exact hs _ (memS_iff.1 e)

set_option maxRecDepth 100000 in
set_option maxHeartbeats 2000000 in
theorem print_any (w : World) (ti : ByteArray) (ao asx af ar : Option Addr) (co cs cf cr : Nat) (O : List OpI) (S F : List ByteArray) (R : List RuT) (hT : Hid (BytesAt w ∧ 1 < w.heap.size)) (hO : Hid (RdO w ao O)) (hS : Hid (ReadsS w asx S)) (hF : Hid (ReadsS w af F)) (hR : Hid (RdRu w ar R))
    (hok : Hid ((∀ x ∈ F, kText.ok x) ∧ ∀ x ∈ R, kRules.ok x)) (hlo : O.length ≤ 4194304) (hls : S.length ≤ 4194304) (hlf : F.length ≤ 4194304) (hlr : R.length ≤ 4194304) :
    Calls Tryz.prog 11 #[.agg #[.string ti, .slice ao O.length co, .slice asx S.length cs, .slice af F.length cf, .slice ar R.length cr]] w fun e w' => e = .returned (.tuple #[.string (if valF ti O S F R then writeT ti (O.map opN) S F R else ⟨#[]⟩), .int .i64 (if valF ti O S F R then 0 else 5)]) ∧ Below w.heap.size w w' := by
  obtain ⟨W0, hW0⟩ : ∃ W0, w.alloc (.cells #[.string ti, .slice ao O.length co, .slice asx S.length cs, .slice af F.length cf, .slice ar R.length cr] 26) = W0 := ⟨_, rfl⟩
  have d0 : Below w.heap.size w W0 := by rw [← hW0]; exact (Below.refl _ _).alloc (Nat.le_refl _) _
  have b0 : W0.heap[w.heap.size]? = some (.cells #[.string ti, .slice ao O.length co, .slice asx S.length cs, .slice af F.length cf, .slice ar R.length cr] 26 (0, 0)) := by rw [← hW0]; exact World.alloc_heap_new _ _
  have HBX : Hid (Bx5 W0 w.heap.size (.string ti) (.slice ao O.length co) (.slice asx S.length cs) (.slice af F.length cf) (.slice ar R.length cr)) := hide ⟨cell_of b0 rfl, cell_of b0 rfl, cell_of b0 rfl, cell_of b0 rfl, cell_of b0 rfl⟩
  obtain ⟨c0, c1, c2, c3, c4⟩ := HBX.out
  have T1 := valid_file W0 ti ao asx af ar co cs cf cr O S F R (hide ⟨hT.out.1.below d0 hT.out.2, Nat.lt_of_lt_of_le hT.out.2 d0.size⟩) (hide (hO.out.on d0)) (hide (hS.out.below d0)) (hide (hF.out.below d0)) (hide (hR.out.on d0)) hok hlo hls hlf hlr
  have HD := hide d0
  have HO := hide (hO.out.on d0)
  have HS := hide (hS.out.below d0)
  have HF := hide (hF.out.below d0)
  have HR := hide (hR.out.on d0)
  clear hT hO hS hF hR d0 b0
  cases hv : valF ti O S F R with
  | false =>
    rw [hv] at T1
    go_enter Tryz.func11, Tryz.ntmps11
    go_wp2_with (go_at_call 17; refine T1.mono ?_; rintro e w1 ⟨rfl, d1⟩)
    go_ret2
    exact ⟨rfl, HD.out.trans (d1.mono HD.out.size)⟩
  | true =>
    rw [hv] at T1
    have hw := wok_of hv hlo hls hlf hlr
    have hn : O.all opOk = true := by
      unfold valF namesOk at hv
      simp only [Bool.and_eq_true] at hv
      exact hv.1.1.1.1.1.1.1
    have T2 : Hid (∀ W, Below W0.heap.size W0 W → Calls Tryz.prog 24 #[.agg #[.string ti, .slice ao O.length co, .slice asx S.length cs, .slice af F.length cf, .slice ar R.length cr]] W fun e w' => e = .returned (.string (writeT ti (O.map opN) S F R)) ∧ Below W.heap.size W w') := hide fun W d => by
      have q := write_any W ti ao asx af ar co cs cf cr (O.map opN) S F R (hide (ops_nat hn (HO.out.on d))) (hide (HS.out.below d)) (hide (HF.out.below d)) (hide (HR.out.on d)) (hide hw)
      rwa [List.length_map] at q
    clear hw hn
    go_enter Tryz.func11, Tryz.ntmps11
    go_wp2_with (first
      | (go_at_call 17; refine T1.mono ?_; rintro e w1 ⟨rfl, d1⟩; have D1 := hide d1; clear c0 c1 c2 c3 c4 d1; obtain ⟨c0, c1, c2, c3, c4⟩ := HBX.out.on D1.out)
      | (go_at_call 24; refine (T2.out w1 D1.out).mono ?_; rintro e w2 ⟨rfl, d2⟩))
    go_ret2
    exact ⟨rfl, HD.out.trans ((D1.out.trans (d2.mono D1.out.size)).mono HD.out.size)⟩
end Go.Proofs.YtmagchclmmphaaaGreatDoor
