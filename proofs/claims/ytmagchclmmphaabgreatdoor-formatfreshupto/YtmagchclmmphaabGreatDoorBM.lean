import Derived.Test.YtmagchclmmphaabGreatDoorFL
import Derived.Test.YtmagchclmmphaabGreatDoorEN
namespace Go.Proofs.YtmagchclmmphaabGreatDoor
open Go.RowKit Go.Maps

/-! ### An automaton's content gives the automaton back -/
theorem vld_ne {x : ByteArray} (h : vld x = true) : x ≠ ⟨#[]⟩ := by
  rintro rfl
  have : vld ⟨#[]⟩ = false := vld_len _ (by simp [ByteArray.size])
  rw [this] at h
  cases h
/-- What is known of an automaton and names that From takes. -/
structure FrK (ti : ByteArray) (n m : Int) (St Fi : List Int) (Ed : List EdT) (S Y : List ByteArray) : Prop where
  may : mayF n m St Fi Ed = true
  hn : (S.length : Int) = n
  hm : (Y.length : Int) = m
  ti : vld ti = true
  s : S.all vld = true
  y : Y.all vld = true
  ns : S.Nodup
  ny : Y.Nodup
theorem FrK.le {ti : ByteArray} {n m : Int} {St Fi : List Int} {Ed : List EdT} {S Y : List ByteArray} (h : FrK ti n m St Fi Ed S Y) : S.length ≤ 4096 ∧ Y.length ≤ 128 ∧ Ed.length ≤ 65536 := by
  have := h.may
  unfold mayF at this
  simp only [Bool.and_eq_true, decide_eq_true_eq] at this
  have := h.hn
  have := h.hm
  omega
theorem FrK.st {ti : ByteArray} {n m : Int} {St Fi : List Int} {Ed : List EdT} {S Y : List ByteArray} (h : FrK ti n m St Fi Ed S Y) {q : Int} (hq : q ∈ St) : 0 ≤ q ∧ q < (S.length : Int) := by
  have := h.may
  unfold mayF at this
  simp only [Bool.and_eq_true] at this
  have k := isB_iff.1 (List.all_eq_true.1 this.1.2 q hq)
  rw [h.hn]; exact k
theorem FrK.fi {ti : ByteArray} {n m : Int} {St Fi : List Int} {Ed : List EdT} {S Y : List ByteArray} (h : FrK ti n m St Fi Ed S Y) {q : Int} (hq : q ∈ Fi) : 0 ≤ q ∧ q < (S.length : Int) := by
  have := h.may
  unfold mayF at this
  simp only [Bool.and_eq_true] at this
  have k := isB_iff.1 (List.all_eq_true.1 this.2 q hq)
  rw [h.hn]; exact k
theorem FrK.ed {ti : ByteArray} {n m : Int} {St Fi : List Int} {Ed : List EdT} {S Y : List ByteArray} (h : FrK ti n m St Fi Ed S Y) {e : EdT} (he : e ∈ Ed) : (0 ≤ e.1 ∧ e.1 < (S.length : Int)) ∧ (0 ≤ e.2.1 ∧ e.2.1 < (Y.length : Int)) ∧ (0 ≤ e.2.2 ∧ e.2.2 < (S.length : Int)) := by
  have := h.may
  unfold mayF at this
  simp only [Bool.and_eq_true] at this
  have k := List.all_eq_true.1 this.1.1.2 e he
  unfold edOk at k
  simp only [Bool.and_eq_true, isB_iff] at k
  rw [h.hn, h.hm]; exact ⟨k.1.1, k.1.2, k.2⟩
theorem txA_get {S : List ByteArray} {q : Int} (h : 0 ≤ q ∧ q < (S.length : Int)) : ∃ hi : q.toNat < S.length, txA S q = S[q.toNat] := ⟨by omega, by unfold txA; rw [List.getElem?_eq_getElem (by omega)]; rfl⟩
theorem txA_mem {S : List ByteArray} {q : Int} (h : 0 ≤ q ∧ q < (S.length : Int)) : txA S q ∈ S := by obtain ⟨hi, e⟩ := txA_get h; rw [e]; exact List.getElem_mem hi
theorem txA_pos {S : List ByteArray} (hn : S.Nodup) {q : Int} (h : 0 ≤ q ∧ q < (S.length : Int)) : ((posOf S (txA S q) : Nat) : Int) = q := by
  obtain ⟨hi, e⟩ := txA_get h
  rw [e, posOf_at hn hi]
  omega
theorem txA_inj {S : List ByteArray} (hn : S.Nodup) {p q : Int} (hp : 0 ≤ p ∧ p < (S.length : Int)) (hq : 0 ≤ q ∧ q < (S.length : Int)) (h : txA S p = txA S q) : p = q := by
  rw [← txA_pos hn hp, h, txA_pos hn hq]
theorem txA_vld {S : List ByteArray} (hs : S.all vld = true) {q : Int} (h : 0 ≤ q ∧ q < (S.length : Int)) : vld (txA S q) = true := List.all_eq_true.1 hs _ (txA_mem h)
section
variable {ti : ByteArray} {n m : Int} {St Fi : List Int} {Ed : List EdT} {S Y : List ByteArray}
theorem FrK.st' (h : FrK ti n m St Fi Ed S Y) {q : Int} (hq : q ∈ riseL St) : 0 ≤ q ∧ q < (S.length : Int) := h.st ((riseL_iff _ _).1 hq)
theorem FrK.fi' (h : FrK ti n m St Fi Ed S Y) {q : Int} (hq : q ∈ riseL Fi) : 0 ≤ q ∧ q < (S.length : Int) := h.fi ((riseL_iff _ _).1 hq)
theorem FrK.ed' (h : FrK ti n m St Fi Ed S Y) {e : EdT} (he : e ∈ dE Ed) : (0 ≤ e.1 ∧ e.1 < (S.length : Int)) ∧ (0 ≤ e.2.1 ∧ e.2.1 < (Y.length : Int)) ∧ (0 ≤ e.2.2 ∧ e.2.2 < (S.length : Int)) := h.ed ((dE_iff _ _).1 he)
theorem FrK.isS (_ : FrK ti n m St Fi Ed S Y) (q : Int) : isSt (ruS S q) = true := by simp [isSt, ruS]
theorem FrK.isE (h : FrK ti n m St Fi Ed S Y) {e : EdT} (he : e ∈ dE Ed) : isSt (ruE S Y e) = false := by
  have := vld_ne (txA_vld h.s (h.ed' he).1)
  simp [isSt, ruE, this]
theorem FrK.fS (h : FrK ti n m St Fi Ed S Y) : (rulF S Y St Ed).filter isSt = (riseL St).map (ruS S) := by
  unfold rulF
  rw [List.filter_append, List.filter_eq_self.2 (fun r hr => by obtain ⟨q, _, rfl⟩ := List.mem_map.1 hr; exact h.isS q), List.filter_eq_nil_iff.2 (fun r hr => by obtain ⟨e, he, rfl⟩ := List.mem_map.1 hr; rw [h.isE he]; simp), List.append_nil]
theorem FrK.fE (h : FrK ti n m St Fi Ed S Y) : ((rulF S Y St Ed).filter fun r => !isSt r) = (dE Ed).map (ruE S Y) := by
  unfold rulF
  rw [List.filter_append, List.filter_eq_nil_iff.2 (fun r hr => by obtain ⟨q, _, rfl⟩ := List.mem_map.1 hr; rw [h.isS q]; simp), List.filter_eq_self.2 (fun r hr => by obtain ⟨e, he, rfl⟩ := List.mem_map.1 hr; rw [h.isE he]; rfl), List.nil_append]
theorem FrK.stF_is (h : FrK ti n m St Fi Ed S Y) : stF S (rulF S Y St Ed) = riseL St := by
  unfold stF
  rw [h.fS, List.map_map]
  conv => rhs; rw [← List.map_id (riseL St)]
  exact List.map_congr_left fun q hq => txA_pos h.ns (h.st' hq)
theorem FrK.edF_is (h : FrK ti n m St Fi Ed S Y) : edF S Y (rulF S Y St Ed) = dE Ed := by
  unfold edF
  rw [h.fE, List.map_map]
  conv => rhs; rw [← List.map_id (dE Ed)]
  refine List.map_congr_left fun e he => ?_
  obtain ⟨h1, h2, h3⟩ := h.ed' he
  exact Prod.ext (txA_pos h.ns h1) (Prod.ext (txA_pos h.ny h2) (txA_pos h.ns h3))
theorem sym_ops (Y : List ByteArray) : symF ((opsF Y).map opOI) = Y := by
  unfold symF opsF
  rw [List.map_cons, List.map_map, List.filter_cons_of_neg (by simp [opOI]), List.filter_eq_self.2 (fun x hx => by obtain ⟨y, _, rfl⟩ := List.mem_map.1 hx; simp [opOI]), List.map_map]
  conv => rhs; rw [← List.map_id Y]
  exact List.map_congr_left fun y _ => rfl
theorem FrK.fiF_is (h : FrK ti n m St Fi Ed S Y) : fiF S (namesAt (tN (riseL Fi)) S) = riseL Fi := by
  unfold fiF namesAt tN
  rw [List.map_map, List.map_map]
  conv => rhs; rw [← List.map_id (riseL Fi)]
  exact List.map_congr_left fun q hq => txA_pos h.ns (h.fi' hq)
theorem dE_nd (L : List EdT) : (dE L).Nodup := (dE_ss L).imp fun {a b} q e => by subst e; rw [ltE_ir] at q; cases q
theorem rise_nd (L : List Int) : (riseL L).Nodup := (riseL_lt L).imp fun {a b} q e => by omega
theorem inj_nd {α β : Type} {f : α → β} : ∀ {l : List α}, l.Nodup → (∀ a ∈ l, ∀ b ∈ l, f a = f b → a = b) → (l.map f).Nodup
  | [], _, _ => List.nodup_nil
  | a :: l, hn, hf => by
    rw [List.nodup_cons] at hn
    rw [List.map_cons, List.nodup_cons]
    refine ⟨fun hm => ?_, inj_nd hn.2 fun x hx y hy => hf x (by simp [hx]) y (by simp [hy])⟩
    obtain ⟨b, hb, e⟩ := List.mem_map.1 hm
    have := hf b (by simp [hb]) a (by simp) e
    subst this
    exact hn.1 hb
theorem wStart_vld : vld wStart = true := by decide +kernel
theorem opsF_ok (hY : Y.all vld = true) : ((opsF Y).map opOI).all opOk = true := by
  rw [List.all_eq_true]
  intro x hx
  unfold opsF at hx
  rw [List.map_cons, List.mem_cons, List.map_map] at hx
  rcases hx with rfl | hx
  · exact opOk_yes rfl rfl wStart_vld (by simp [opOI]) (by simp [opOI])
  · obtain ⟨y, hy, rfl⟩ := List.mem_map.1 hx
    exact opOk_yes rfl rfl (List.all_eq_true.1 hY y hy) (by simp [opOI]) (by simp [opOI])
theorem ops_back (Y : List ByteArray) : ((opsF Y).map opOI).map opN = opsF Y := by
  rw [List.map_map]
  conv => rhs; rw [← List.map_id (opsF Y)]
  exact List.map_congr_left fun x _ => by simp [opN, opOI]
theorem ops_nd (hn : Y.Nodup) : (opsF Y).Nodup := by
  unfold opsF
  rw [List.nodup_cons]
  refine ⟨fun hm => ?_, inj_nd hn fun a _ b _ e => by simpa using e⟩
  obtain ⟨y, _, e⟩ := List.mem_map.1 hm
  simp at e
theorem FrK.rul_nd (h : FrK ti n m St Fi Ed S Y) : (rulF S Y St Ed).Nodup := by
  unfold rulF
  rw [List.nodup_append]
  refine ⟨inj_nd (rise_nd St) fun a ha b hb e => ?_, inj_nd (dE_nd Ed) fun a ha b hb e => ?_, fun a ha b hb e => ?_⟩
  · simp only [ruS, Prod.mk.injEq, true_and] at e
    exact txA_inj h.ns (h.st' ha) (h.st' hb) e
  · simp only [ruE, Prod.mk.injEq] at e
    obtain ⟨a1, a2, a3⟩ := h.ed' ha
    obtain ⟨b1, b2, b3⟩ := h.ed' hb
    exact Prod.ext (txA_inj h.ns a1 b1 e.2.1) (Prod.ext (txA_inj h.ny a2 b2 e.1) (txA_inj h.ns a3 b3 e.2.2))
  · obtain ⟨q, _, rfl⟩ := List.mem_map.1 ha
    obtain ⟨x, hx, rfl⟩ := List.mem_map.1 hb
    have := h.isE hx
    rw [← e, h.isS q] at this
    cases this
theorem FrK.rul_ok (h : FrK ti n m St Fi Ed S Y) : (rulF S Y St Ed).all (ruleOk (opsF Y) S) = true := by
  rw [List.all_eq_true]
  intro r hr
  unfold rulF at hr
  rcases List.mem_append.1 hr with hr | hr
  · obtain ⟨q, hq, rfl⟩ := List.mem_map.1 hr
    have k := txA_mem (h.st' hq)
    unfold ruleOk
    simp only [Bool.and_eq_true, Bool.or_eq_true, decide_eq_true_eq, memO_iff, memS_iff]
    exact ⟨⟨by simp [opR, ruS, opsF], k⟩, .inl rfl⟩
  · obtain ⟨e, he, rfl⟩ := List.mem_map.1 hr
    obtain ⟨h1, h2, h3⟩ := h.ed' he
    have hne := vld_ne (txA_vld h.s h1)
    unfold ruleOk
    simp only [Bool.and_eq_true, Bool.or_eq_true, decide_eq_true_eq, memO_iff, memS_iff]
    refine ⟨⟨?_, txA_mem h3⟩, .inr (txA_mem h1)⟩
    unfold opsF
    refine List.mem_cons.2 (.inr (List.mem_map.2 ⟨txA Y e.2.1, txA_mem h2, ?_⟩))
    simp [opR, ruE, hne]
theorem FrK.val (h : FrK ti n m St Fi Ed S Y) : valF ti ((opsF Y).map opOI) S (namesAt (tN (riseL Fi)) S) (rulF S Y St Ed) = true := by
  unfold valF namesOk
  rw [ops_back]
  simp only [Bool.and_eq_true, decide_eq_true_eq]
  refine ⟨⟨⟨⟨⟨⟨⟨opsF_ok h.y, h.s⟩, h.ti⟩, ops_nd h.ny⟩, h.ns⟩, h.rul_nd⟩, ?_⟩, h.rul_ok⟩
  refine rise_names h.ns _ (-1) ?_ fun k hk => ?_
  · rw [tN_back fun z hz => (h.fi' hz).1]; exact riseL_lt Fi
  · obtain ⟨z, hz, rfl⟩ := List.mem_map.1 hk
    have := h.fi' hz
    omega
theorem FrK.small (h : FrK ti n m St Fi Ed S Y) : ¬ bigF ((opsF Y).map opOI) S (rulF S Y St Ed) := by
  unfold bigF
  rw [sym_ops, h.fE, List.length_map]
  have := h.le
  have := dE_len Ed
  omega
theorem FrK.auto (h : FrK ti n m St Fi Ed S Y) : auV ti ((opsF Y).map opOI) S (namesAt (tN (riseL Fi)) S) (rulF S Y St Ed) = ⟨S.length, Y.length, riseL St, riseL Fi, dE Ed, S, Y, 0⟩ := by
  unfold auV
  rw [if_neg (by rw [h.val]; simp), if_neg h.small, sym_ops, h.stF_is, h.edF_is, h.fiF_is, compact_up (riseL_lt St), ← sort_is (dE_nd Ed) (dE_ss Ed) fun y => Iff.rfl]
end
end Go.Proofs.YtmagchclmmphaabGreatDoor
namespace Go.Proofs.YtmagchclmmphaabGreatDoor
open Go.RowKit Go.Maps

/-! ### What From says: an error, or the content -/
theorem frV_cases (ti : ByteArray) (n m : Int) (St Fi : List Int) (Ed : List EdT) (S Y : List ByteArray) : (∃ x, x ≠ 0 ∧ frV ti n m St Fi Ed S Y = noF x) ∨ (FrK ti n m St Fi Ed S Y ∧ frV ti n m St Fi Ed S Y = okFr ti St Fi Ed S Y) := by
  unfold frV
  split
  · exact .inl ⟨2, by omega, rfl⟩
  · rename_i hm
    split
    · exact .inl ⟨1, by omega, rfl⟩
    · rename_i hn
      split
      · exact .inl ⟨20, by omega, rfl⟩
      · rename_i hv
        split
        · exact .inl ⟨21, by omega, rfl⟩
        · rename_i hd
          have hn := Classical.not_not.1 hn
          have hv := Classical.not_not.1 hv
          have hd := Classical.not_not.1 hd
          exact .inr ⟨⟨by simpa using hm, hn.1, hn.2, hv.1, hv.2.1, hv.2.2, hd.1, hd.2⟩, rfl⟩
end Go.Proofs.YtmagchclmmphaabGreatDoor
