import Derived.Test.YtmagchclmmphaabGreatDoorVc
import Derived.Test.YtmagchclmmphaabGreatDoorQA
namespace Go.Proofs.YtmagchclmmphaabGreatDoor
open Go.RowKit Go.Maps
attribute [local go_sem] Oper.semAt_some

def cntF (O : List OpI) : Nat := O.countP (fun x => x.2 == 1)
/-- The symbols' names. -/
def symF (O : List OpI) : List ByteArray := (O.filter (fun x => x.2 == 1)).map (·.1)
theorem symF_len (O : List OpI) : (symF O).length = cntF O := by
  unfold symF cntF
  rw [List.length_map, List.countP_eq_length_filter]
theorem symF_next {O : List OpI} {k : Nat} (hk : k < O.length) : symF (O.take (k + 1)) = symF (O.take k) ++ (if O[k].2 = 1 then [O[k].1] else []) := by
  unfold symF
  rw [List.take_succ_eq_append_getElem hk, List.filter_append, List.map_append]
  congr 1
  by_cases h : O[k].2 = 1
  · simp [h]
  · simp [h]

theorem cnew (w : World) (o : Obj) (s : ByteArray) : ∀ j u, [Value.string s][j]? = some u → ((w.alloc o).alloc (.cells #[.string s] 9)).cell? ((⟨w.heap.size + 1, 0, none⟩ : Addr).add j) = some u := by
  intro j u hj
  cases j with
  | zero =>
    obtain rfl : Value.string s = u := by simpa using hj
    exact cell_of (by have := World.alloc_heap_new (w.alloc o) (.cells #[.string s] 9); simpa using this) rfl
  | succ j => simp at hj
set_option maxRecDepth 100000 in
set_option maxHeartbeats 2000000 in
theorem symbols_any (w : World) (ao : Option Addr) (cap : Nat) (O : List OpI) (hA : Hid (RdO w ao O)) (hl : O.length ≤ 4194304) :
    Calls Tryz.prog 44 #[.slice ao O.length cap] w fun e w' => ∃ v, e = .returned v ∧ w'.ownsRow w.heap.size 9 1 v (symF O).length (strV (symF O)) ∧ Below w.heap.size w w' := by
  obtain ⟨i9, hi9, hz90, hz91, hz92⟩ := info_parts info9
  go_enter Tryz.func44, Tryz.ntmps44
  go_wp2_with fail
  go_loopw [3, 8] (fun v i wr => ∃ k : Nat, k ≤ O.length ∧ i = .int .i64 k ∧ Hid (wr.ownsRow w.heap.size 9 1 v (symF (O.take k)).length (strV (symF (O.take k))) ∧ Below w.heap.size w wr)) (fun _ i _ => O.length - (intOf i).toNat)
  case atStart => exact ⟨0, Nat.zero_le _, rfl, hide ⟨⟨rfl, .inl ⟨rfl, rfl⟩⟩, Below.refl _ _⟩⟩
  case round =>
    obtain ⟨k, hk, rfl, HH⟩ := hrel
    by_cases hlt : k < O.length
    · obtain ⟨g1, o1, rfl, q0, q1⟩ := (hA.out.on HH.out.2) k hlt
      have i2 : (k : Int) < (O.length : Int) := by omega
      have i3 : (0 : Int) ≤ (k : Int) := by omega
      have hn := symF_next hlt
      obtain ⟨s, hs⟩ : ∃ s, O[k].1 = s := ⟨_, rfl⟩
      obtain ⟨x, hx⟩ : ∃ x, O[k].2 = x := ⟨_, rfl⟩
      rw [hs] at q0 hn
      rw [hx] at q1 hn
      have HN := hide hn
      have hb : (symF (O.take k)).length ≤ 4194304 := by
        rw [symF_len]; unfold cntF
        have := List.countP_le_length (p := fun x : OpI => x.2 == 1) (l := O.take k)
        rw [List.length_take] at this
        omega
      obtain ⟨L, hL⟩ : ∃ L, symF (O.take k) = L := ⟨_, rfl⟩
      rw [hL] at HH HN hb
      clear hn hs hx hL
      have hsz := HH.out.2.size
      by_cases h1 : x = 1
      · subst h1
        go_wp2_with (at_builtin; refine wpList_append_own_at _ rfl _ _ _ rfl w.heap.size 9 i9 _ 1 16 Tryz.underlying26 hi9 hz90 hz91 hz92 rfl (by omega) u3 L.length (strV L) rfl (owns_below HH.out.1 (((Below.refl _ wr).alloc (Nat.le_refl _) _).alloc (by simp) _)) ⟨wr.heap.size + 1, 0, none⟩ 1 1 [.string s] rfl rfl (cnew wr _ s) (rf.strV_one [s]) (by unfold maxLen; omega) (by omega) (by simp; omega) ?_; intro v' w2 ho hgr hnil hloc)
        have hb0 := HH.out.1.lt
        refine ⟨⟨k + 1, by omega, by go_num, hide ?_⟩, by simp [intOf]; omega⟩
        rw [HN.out, if_pos rfl]
        refine ⟨by simpa [strV] using ho, ?_⟩
        exact (((HH.out.2.alloc hsz _).alloc (by simp; omega) _).grown hgr (by simp; omega) (fun k hk => (hb0 k hk).1))
      · have e1 : (x == 1) = false := by rw [beq_eq_false_iff_ne]; exact h1
        go_wp2
        refine ⟨⟨k + 1, by omega, by go_num, hide ?_⟩, by simp [intOf]; omega⟩
        rw [HN.out, if_neg h1, List.append_nil]
        exact ⟨owns_below HH.out.1 ((Below.refl _ wr).alloc (Nat.le_refl _) _), HH.out.2.alloc hsz _⟩
    · obtain rfl : k = O.length := by omega
      have i2 : ¬ (O.length : Int) < (O.length : Int) := by omega
      rw [List.take_length] at HH
      go_wp2
      go_ret
      exact ⟨_, rfl, HH.out.1, HH.out.2⟩
end Go.Proofs.YtmagchclmmphaabGreatDoor
namespace Go.Proofs.YtmagchclmmphaabGreatDoor
open Go.RowKit Go.Maps
attribute [local go_sem] Oper.semAt_some

/-- Names whose places rise, by the document's places. -/
def riseR (S : List ByteArray) : Int → List ByteArray → Bool
  | _, [] => true
  | z, x :: t => decide (z < plcF S x) && riseR S (plcF S x) t
theorem plcF_pos {S : List ByteArray} {x : ByteArray} (h : x ∈ S) : plcF S x = (posOf S x : Int) := by
  unfold plcF posOf; rw [if_pos h]
theorem plcF_not {α : Type} [DecidableEq α] {S : List α} {x : α} (h : x ∉ S) : plcF S x = -1 := by
  unfold plcF; rw [if_neg h]
theorem plcF_ge {α : Type} [DecidableEq α] (S : List α) (x : α) : -1 ≤ plcF S x := by
  unfold plcF; split <;> omega
theorem plcF_lt {α : Type} [DecidableEq α] (S : List α) (x : α) : plcF S x < (S.length : Int) ∨ plcF S x = -1 := by
  unfold plcF
  split
  · left
    rename_i h
    have : S.findIdx (fun y => decide (y = x)) < S.length := List.findIdx_lt_length_of_exists ⟨x, h, by simp⟩
    omega
  · right; rfl
theorem riseR_eq {S : List ByteArray} : ∀ (F : List ByteArray) (z : Int), -1 ≤ z → riseR S z F = riseOk S z F
  | [], _, _ => rfl
  | x :: t, z, hz => by
    unfold riseR riseOk
    by_cases h : x ∈ S
    · obtain ⟨hi, _⟩ := posOf_get h
      rw [plcF_pos h, decide_eq_true hi, Bool.true_and, riseR_eq t _ (by omega)]
    · have h2 : ¬ posOf S x < S.length := fun q => h (by
        have := List.findIdx_getElem (p := fun y => decide (y = x)) (w := q)
        have e := of_decide_eq_true this
        rw [← e]; exact List.getElem_mem _)
      rw [plcF_not h, decide_eq_false (show ¬ z < -1 by omega), decide_eq_false h2]; simp
theorem riseR_drop {S F : List ByteArray} {k : Nat} (hk : k < F.length) (z : Int) : riseR S z (F.drop k) = (decide (z < plcF S F[k]) && riseR S (plcF S F[k]) (F.drop (k + 1))) := by
  rw [List.drop_eq_getElem_cons hk]; rfl
/-- A rule's parts are declared, by the document's words. -/
def memI (O : List OpI) (x : OpI) : Bool := O.any fun y => decide (y = x)
theorem memI_iff {O : List OpI} {x : OpI} : memI O x = true ↔ x ∈ O := by simp [memI]
def ruleOkI (O : List OpI) (S : List ByteArray) (r : RuT) : Bool := memI O (opRI r) && memS S r.2.2 && (decide (r.2.1 = ⟨#[]⟩) || memS S r.2.1)
def rvalF (ti : ByteArray) (O : List OpI) (S F : List ByteArray) (R : List RuT) : Bool :=
  vld ti && (S.all vld && decide S.Nodup) && (O.all opOk && decide O.Nodup) && riseR S (-1) F && (R.all (ruleOkI O S) && decide R.Nodup)
theorem opN_inj {x y : OpI} (hx : opOk x = true) (hy : opOk y = true) (h : opN x = opN y) : x = y := by
  simp only [opOk, Bool.and_eq_true, decide_eq_true_eq] at hx hy
  obtain ⟨a, b⟩ := x
  obtain ⟨c, d⟩ := y
  simp only [opN, Prod.mk.injEq] at h hx hy ⊢
  exact ⟨h.1, by omega⟩
theorem opN_nodup {O : List OpI} (h : O.all opOk = true) : (O.map opN).Nodup ↔ O.Nodup := by
  unfold List.Nodup
  rw [List.pairwise_map]
  have hm := List.all_eq_true.1 h
  constructor
  · intro p
    exact p.imp_of_mem fun ha hb q e => q (by rw [e])
  · intro p
    exact p.imp_of_mem fun ha hb q e => q (opN_inj (hm _ ha) (hm _ hb) e)
theorem opN_RI (r : RuT) : opN (opRI r) = opR r := by
  unfold opN opRI opR
  simp only
  split <;> rfl
theorem opRI_ok {r : RuT} (h : vld r.1 = true) : opOk (opRI r) = true := by
  unfold opRI opOk
  simp only [h]
  split <;> simp
theorem opRI_mem {O : List OpI} (h : O.all opOk = true) (r : RuT) : opRI r ∈ O ↔ opR r ∈ O.map opN := by
  have hm := List.all_eq_true.1 h
  constructor
  · intro q
    rw [← opN_RI]
    exact List.mem_map_of_mem q
  · intro q
    obtain ⟨y, hy, e⟩ := List.mem_map.1 q
    rw [← opN_RI] at e
    have h1 := hm _ hy
    have hv : vld r.1 = true := by
      have e1 : y.1 = r.1 := congrArg Prod.fst e
      simp only [opOk, Bool.and_eq_true] at h1
      rw [← e1]; exact h1.1.1
    rw [← opN_inj h1 (opRI_ok hv) e]
    exact hy
theorem ruleOkI_eq {O : List OpI} {S : List ByteArray} (h : O.all opOk = true) (r : RuT) : ruleOkI O S r = ruleOk (O.map opN) S r := by
  unfold ruleOkI ruleOk
  have e1 : memO (O.map opN) (opR r) = memI O (opRI r) := by
    rw [Bool.eq_iff_iff, memO_iff, memI_iff]; exact (opRI_mem h r).symm
  rw [e1]
theorem rvalF_eq (ti : ByteArray) (O : List OpI) (S F : List ByteArray) (R : List RuT) : rvalF ti O S F R = valF ti O S F R := by
  unfold rvalF valF namesOk
  rw [riseR_eq F (-1) (by omega)]
  cases hO : O.all opOk
  · simp
  · rw [show ruleOkI O S = ruleOk (O.map opN) S from funext (ruleOkI_eq hO), show decide (O.map opN).Nodup = decide O.Nodup from by rw [decide_eq_decide]; exact opN_nodup hO]
    generalize vld ti = a
    generalize S.all vld = b
    generalize decide S.Nodup = c
    generalize decide O.Nodup = d
    generalize riseOk S (-1) F = e
    generalize R.all (ruleOk (O.map opN) S) = f
    generalize decide R.Nodup = g
    cases a <;> cases b <;> cases c <;> cases d <;> cases e <;> cases f <;> cases g <;> rfl
end Go.Proofs.YtmagchclmmphaabGreatDoor
