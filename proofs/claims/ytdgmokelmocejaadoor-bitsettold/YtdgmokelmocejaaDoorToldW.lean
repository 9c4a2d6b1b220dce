import Derived.Test.YtdgmokelmocejaaDoorEql
import Derived.Test.YtdgmokelmocejaaDoorKeysW
namespace Go.Proofs.YtdgmokelmocejaaDoor
open Go.RowKit

/-- A set's key as a text. -/
def keyStr (n X : Nat) : ByteArray := ⟨(keyPre n X ((n + 7) / 8)).toArray⟩

theorem keyStr_size (n X : Nat) : (keyStr n X).size = 2 + (n + 7) / 8 := by
  show (keyPre n X ((n + 7) / 8)).toArray.size = _
  rw [List.size_toArray, keyPre_length]

theorem keyStr_list (n X : Nat) : (keyStr n X).data.toList = keyPre n X ((n + 7) / 8) := rfl

theorem keyStr_N (n X : Nat) (hn : n ≤ 8192) : keyN (keyStr n X) = n := by
  unfold keyN
  rw [keyStr_list]
  simp [keyPre]
  omega

theorem keyStr_Y (n X : Nat) (hX : X < 2 ^ n) : keyY (keyStr n X) = X := by
  have hlt : keyY (keyStr n X) < 2 ^ (8 * ((n + 7) / 8)) := by have := keyY_lt (keyStr n X); rw [keyStr_size] at this; simpa using this
  have hX8 : X < 2 ^ (8 * ((n + 7) / 8)) := Nat.lt_of_lt_of_le hX (Nat.pow_le_pow_right (by decide) (by omega))
  apply Nat.eq_of_testBit_eq
  intro i
  by_cases hi : i / 8 < (n + 7) / 8
  · have hk : 2 + i / 8 < (keyStr n X).size := by rw [keyStr_size]; omega
    have h1 := keyY_byte (keyStr n X) (i / 8) hk
    have h2 : (keyStr n X)[2 + i / 8].toNat = X / 2 ^ (8 * (i / 8)) % 256 := by
      rw [byte_at]
      have e : (keyStr n X).data.toList[2 + i / 8]? = some (UInt8.ofNat (X / 2 ^ (8 * (i / 8)))) := by
        rw [keyStr_list, show 2 + i / 8 = i / 8 + 1 + 1 by omega, keyPre, List.getElem?_cons_succ, List.getElem?_cons_succ]
        simp [hi]
      have e2 := List.getElem?_eq_some_iff.1 e
      obtain ⟨h3, h4⟩ := e2
      rw [h4, UInt8.toNat_ofNat']
    rw [byte_bit (keyY (keyStr n X)) i, byte_bit X i, ← h1, ← h2]
  · have h8 : 8 * ((n + 7) / 8) ≤ i := by omega
    rw [Nat.testBit_lt_two_pow (Nat.lt_of_lt_of_le hlt (Nat.pow_le_pow_right (by decide) h8)), Nat.testBit_lt_two_pow (Nat.lt_of_lt_of_le hX8 (Nat.pow_le_pow_right (by decide) h8))]

theorem keyStr_good (n X : Nat) (hn : n ≤ 8192) (hX : X < 2 ^ n) : Good (keyStr n X) := by
  refine ⟨by rw [keyStr_size]; omega, ?_, ?_, ?_⟩
  · rw [keyStr_N n X hn]; exact hn
  · rw [keyStr_N n X hn, keyStr_size]
  · rw [keyStr_N n X hn, keyStr_Y n X hX]; exact hX

theorem good_eq (s : ByteArray) (h : Good s) : s = keyStr (keyN s) (keyY s) := by
  have e := keyPre_ext _ _ s h.1 rfl h.2.2.1 (fun _ _ => rfl)
  unfold keyStr
  rw [e]

theorem keyStr_inj (n X m Y : Nat) (hn : n ≤ 8192) (hm : m ≤ 8192) (hX : X < 2 ^ n) (hY : Y < 2 ^ m) : keyStr n X = keyStr m Y ↔ (n = m ∧ X = Y) := by
  constructor
  · intro h
    have h1 := congrArg keyN h
    have h2 := congrArg keyY h
    rw [keyStr_N n X hn, keyStr_N m Y hm] at h1
    rw [keyStr_Y n X hX, keyStr_Y m Y hY] at h2
    exact ⟨h1, h2⟩
  · rintro ⟨rfl, rfl⟩; rfl

theorem fk_key (n X : Nat) (w : World) (hn : n ≤ 8192) (hX : X < 2 ^ n) :
    Calls Tryd.prog 20 #[.string (keyStr n X)] w fun e w' => ∃ b g cap, e = .returned (.tuple #[.pointer (some ⟨b, 0, none⟩), .int .i64 0]) ∧ IsSet w' b g cap n X ∧ w.heap.size ≤ b ∧ w.heap.size ≤ g ∧ b ≠ g ∧ Below w.heap.size w w' := by
  have := fk_good (keyStr n X) w (keyStr_good n X hn hX)
  rwa [keyStr_N n X hn, keyStr_Y n X hX] at this

theorem lalike_any (b1 g1 c1 n X b2 g2 c2 n2 Y : Nat) (w : World) (h1 : IsSet w b1 g1 c1 n X) (h2 : IsSet w b2 g2 c2 n2 Y) (hT : TabAt w) (hb : b1 ≠ b2) :
    Calls Tryd.prog 24 #[.pointer (some ⟨b1, 0, none⟩), .pointer (some ⟨b2, 0, none⟩)] w fun e w' => e = .returned (.bool (decide (n = n2 ∧ X = Y))) ∧ Below w.heap.size w w' := by
  by_cases h : n = n2 ∧ X = Y
  · obtain ⟨rfl, rfl⟩ := h
    have := lalike_yes b1 g1 c1 n X b2 g2 c2 w h1 h2 hT hb
    simpa using this
  · rw [decide_eq_false h]
    exact lalike_no b1 g1 c1 n X b2 g2 c2 n2 Y w h1 h2 hb h

theorem str_beq (a b : ByteArray) : (a.toList == b.toList) = decide (a = b) := by
  rw [Bool.eq_iff_iff]
  simp only [beq_iff_eq, decide_eq_true_eq, toList_eq]
  exact ⟨fun h => WideShapes.bytes_inj h, fun h => by rw [h]⟩

theorem rem_at (a : Int) (L : Nat) (h2 : 2 ≤ L) (h3 : L ≤ 100000) : ∃ I : Nat, I < L ∧ (a.tmod (L : Int) < 0 → wrap64 (-a.tmod (L : Int)) = (I : Int)) ∧ (0 ≤ a.tmod (L : Int) → a.tmod (L : Int) = (I : Int)) := by
  have h1 : (a.tmod (L : Int)).natAbs < L := by
    rw [Int.natAbs_tmod]
    simp only [Int.natAbs_natCast]
    exact Nat.mod_lt _ (by omega)
  refine ⟨(a.tmod (L : Int)).natAbs, h1, fun h => ?_, fun h => by omega⟩
  unfold wrap64
  omega

theorem conv_one (W : World) (H c : Nat) (hc : c < 256) (h : W.cell? ⟨H, 0, none⟩ = some (.int .u8 c)) : (convert 50 9 (.slice (some ⟨H, 0, none⟩) 1 1)).run Tryd.prog W = .ok (.string ⟨#[UInt8.ofNat c]⟩) W :=
  run_convert_bytes_back (P := Tryd.prog) W 50 9 5 ⟨H, 0, none⟩ 1 [UInt8.ofNat c] Tryd.underlying50 Tryd.underlying5 Tryd.underlying9 (fun j hj => by
    have hj0 : j = 0 := by simp at hj; omega
    subst hj0
    rw [Addr.add_lit]
    simp only [List.getElem_cons_zero, UInt8.toNat_ofNat']
    rw [Nat.mod_eq_of_lt hc]
    exact h)

theorem bad_snoc (n X : Nat) (hn : n ≤ 8192) : ¬ Good (keyStr n X ++ ⟨#[0]⟩) := by
  rintro ⟨_, _, hsz, _⟩
  have hd : (keyStr n X ++ (⟨#[0]⟩ : ByteArray)).data.toList = (keyStr n X).data.toList ++ [0] := by
    rw [ByteArray.data_append, Array.toList_append]
  have hN : keyN (keyStr n X ++ ⟨#[0]⟩) = n := by
    unfold keyN
    rw [hd, keyStr_list]
    simp [keyPre]
    omega
  have hs : (keyStr n X ++ (⟨#[0]⟩ : ByteArray)).size = (keyStr n X).size + 1 := by
    rw [← size_eq, hd, List.length_append, size_eq]
    rfl
  rw [hN, hs, keyStr_size] at hsz
  omega

set_option maxRecDepth 100000 in
set_option maxHeartbeats 2000000 in
theorem told_any (v : Value) (N at' : Int) (c : Nat) (A B C : List Int) (w : World) (h : ThreeV w v N A B C) (hT : TabAt w) (hw0 : 0 < w.heap.size) (_hat1 : -9223372036854775808 ≤ at') (_hat2 : at' ≤ 9223372036854775807) (hc : c < 256) :
    Calls Tryd.prog 5 #[v, .int .i64 at', .int .u8 c] w fun e w' => e = .returned (.bool true) ∧ Below w.heap.size w w' := by
  obtain ⟨n1, n2, ⟨a1, p1, a2, p2, a3, p3, rfl, r1, r2, r3⟩, la, lb, lc⟩ := h
  have hA : Below w.heap.size w (w.alloc (.cells #[.int .i64 N, .slice a1 A.length p1, .slice a2 B.length p2, .slice a3 C.length p3] 24)) := (Below.refl _ _).alloc (Nat.le_refl _) _
  have h3 : ThreeV (w.alloc (.cells #[.int .i64 N, .slice a1 A.length p1, .slice a2 B.length p2, .slice a3 C.length p3] 24)) (.agg #[.int .i64 N, .slice a1 A.length p1, .slice a2 B.length p2, .slice a3 C.length p3]) N A B C := ⟨n1, n2, ⟨a1, p1, a2, p2, a3, p3, rfl, r1.below hA, r2.below hA, r3.below hA⟩, la, lb, lc⟩
  have H3 := hide h3
  have hle := boundN_le N
  have HT := hide hT
  clear h3 r1 r2 r3 la lb lc hT
  go_enter Tryd.func5, Tryd.ntmps5
  go_wp2_with fail
  refine (sets_any _ N A B C _ H3.out).mono ?_
  rintro e w1 ⟨b1, g1, c1, b2, g2, c2, b3, g3, c3, rfl, s1, s2, s3, m1, m2, m3, m4, m5, m6, e1, e2, e3, l1, l2, l3, l4, d1⟩
  have D1 : Below w.heap.size w w1 := hA.trans (d1.mono (by simp))
  have T1 := hide (HT.out.below D1 hw0)
  generalize setI (boundN N) A = X at s1
  generalize setI (boundN N) B = Y at s2
  generalize boundN N = n at *
  have W1 : 0 < w1.heap.size := Nat.lt_of_lt_of_le hw0 D1.size
  clear s3 m1 m2 m3 m4 m5 m6 d1 hA H3 e3 HT
  go_wp2_with fail
  refine (known_any _ T1.out W1).mono ?_
  rintro e w2 ⟨rfl, d2⟩
  have s1 := s1.below d2
  have s2 := s2.below d2
  have T2 := hide (T1.out.below d2 W1)
  have D2 := D1.trans (d2.mono D1.size)
  have W2 : 0 < w2.heap.size := Nat.lt_of_lt_of_le hw0 D2.size
  clear T1 d2 D1 W1
  go_wp2_with fail
  refine (key_b b1 g1 c1 n X (keyStr n X) _ (hide rfl) s1).mono ?_
  rintro e w3 ⟨rfl, d3⟩
  have s1 := s1.below d3
  have s2 := s2.below d3
  have T3 := hide (T2.out.below d3 W2)
  have D3 := D2.trans (d3.mono D2.size)
  have W3 : 0 < w3.heap.size := Nat.lt_of_lt_of_le hw0 D3.size
  clear T2 d3 D2 W2
  have hX := s1.hX
  have hY := s2.hX
  go_wp2_with fail
  refine (fk_key n X _ hle hX).mono ?_
  rintro e w4 ⟨b4, g4, c4, rfl, s4, m1, m2, e4, d4⟩
  have hne : b4 ≠ b1 := by have := s1.blt; omega
  have s1 := s1.below d4
  have s2 := s2.below d4
  have T4 := hide (T3.out.below d4 W3)
  have D4 := D3.trans (d4.mono D3.size)
  have W4 : 0 < w4.heap.size := Nat.lt_of_lt_of_le hw0 D4.size
  clear T3 d4 D3 W3 m1 m2
  obtain ⟨K, hK⟩ : ∃ K, keyStr n X = K := ⟨_, rfl⟩
  obtain ⟨K2, hK2⟩ : ∃ K2, keyStr n Y = K2 := ⟨_, rfl⟩
  obtain ⟨r, hr⟩ : ∃ r, decide (X = Y) = r := ⟨_, rfl⟩
  have hKs : K.size = 2 + (n + 7) / 8 := by rw [← hK, keyStr_size]
  have hKb : (K.toList == K2.toList) = r := by
    rw [str_beq, ← hr, ← hK, ← hK2, Bool.eq_iff_iff]
    simp only [decide_eq_true_eq]
    rw [keyStr_inj n X n Y hle hle hX hY]
    simp
  have hlenb : ((K.size : Int) != 2 + ((n : Int) + 7) / 8) = false := by rw [bne_eq_false_iff_eq]; omega
  have hKs1 : (K.size : Int) ≤ 1026 := by omega
  have hKs2 : (2 : Int) ≤ K.size := by omega
  have HAL := hide (fun (w : World) (h1 : IsSet w b1 g1 c1 n X) (h2 : IsSet w b2 g2 c2 n Y) (hT : TabAt w) => (show Calls Tryd.prog 24 #[.pointer (some ⟨b1, 0, none⟩), .pointer (some ⟨b2, 0, none⟩)] w fun e w' => e = .returned (.bool r) ∧ Below w.heap.size w w' by
    have := lalike_any b1 g1 c1 n X b2 g2 c2 n Y w h1 h2 hT (by omega)
    rw [← hr]
    simpa using this))
  have HK := hide hK
  have HK2 := hide hK2
  have HKS := hide hKs
  have HXY := hide (And.intro hX hY)
  rw [hK]
  clear hK hK2 hr hKs hX hY
  go_wp2_with fail
  refine (lalike_yes b4 g4 c4 n X b1 g1 c1 _ s4 s1 T4.out hne).mono ?_
  rintro e w5 ⟨rfl, d5⟩
  have s1 := s1.below d5
  have s2 := s2.below d5
  have T5 := hide (T4.out.below d5 W4)
  have D5 := D4.trans (d5.mono D4.size)
  have W5 : 0 < w5.heap.size := Nat.lt_of_lt_of_le hw0 D5.size
  clear T4 d5 D4 W4 s4 hne
  go_wp2_with fail
  refine (bound_b b1 n _ s1.c0).mono ?_
  rintro e w6 ⟨rfl, d6⟩
  have s1 := s1.below d6
  have s2 := s2.below d6
  have T6 := hide (T5.out.below d6 W5)
  have D6 := D5.trans (d6.mono D5.size)
  have W6 : 0 < w6.heap.size := Nat.lt_of_lt_of_le hw0 D6.size
  clear T5 d6 D5 W5
  go_wp2_with fail
  refine (key_b b2 g2 c2 n Y K2 _ HK2 s2).mono ?_
  rintro e w7 ⟨rfl, d7⟩
  have s1 := s1.below d7
  have s2 := s2.below d7
  have T7 := hide (T6.out.below d7 W6)
  have D7 := D6.trans (d7.mono D6.size)
  have W7 : 0 < w7.heap.size := Nat.lt_of_lt_of_le hw0 D7.size
  clear T6 d7 D6 W6
  go_wp2_with fail
  refine (HAL.out _ s1 s2 T7.out).mono ?_
  rintro e w8 ⟨rfl, d8⟩
  have s1 := s1.below d8
  have T8 := hide (T7.out.below d8 W7)
  have D8 := D7.trans (d8.mono D7.size)
  have W8 : 0 < w8.heap.size := Nat.lt_of_lt_of_le hw0 D8.size
  clear T7 d8 D7 W7 s2 HAL
  obtain ⟨I, hIl, hI⟩ := rem_at at' K.size (by omega) (by omega)
  have HI := hide hI
  clear hI
  have i0 : (0 : Int) ≤ (I : Int) := by omega
  have i1 : (I : Int) ≤ K.size := by omega
  have i2 : (I : Int) + 1 ≤ K.size := by omega
  have i3 : IntKind.i64.wrap ((I : Int) + 1) = (I : Int) + 1 := by rw [IntKind.wrap_i64]; omega
  have hcv : ∀ (W : World) (H : Nat), W.cell? ⟨H, 0, none⟩ = some (.int .u8 c) → (convert 50 9 (.slice (some ⟨H, 0, none⟩) 1 1)).run Tryd.prog W = .ok (.string ⟨#[UInt8.ofNat c]⟩) W := fun W H hc' => conv_one W H c hc hc'
  go_wp2_with fail
  all_goals first | rw [HI.out.1 (by assumption)] | rw [HI.out.2 (by assumption)]
  all_goals
    go_cut [15] (fun s15 wx => (∃ S, s15 = .string S) ∧ Below w8.heap.size w8 wx)
    case first =>
      go_region
      all_goals (go_wp2_with fail; go_meet)
      all_goals exact ⟨⟨_, rfl⟩, ((Below.refl _ _).alloc (Nat.le_refl _) _).drew⟩
    case rest =>
      obtain ⟨⟨S, rfl⟩, d9⟩ := hcut
      have s1 := s1.below d9
      have T9 := hide (T8.out.below d9 W8)
      have D9 := D8.trans (d9.mono D8.size)
      have W9 : 0 < wc.heap.size := Nat.lt_of_lt_of_le hw0 D9.size
      clear T8 d9 D8 W8 hcv i0 i1 i2 i3 HI hKb hlenb HK2
      by_cases hgd : Good S
      · have HG := hide hgd
        obtain ⟨r2, hr2⟩ : ∃ r2, decide (keyN S = n ∧ keyY S = X) = r2 := ⟨_, rfl⟩
        have hSb : (S.toList == K.toList) = r2 := by
          rw [str_beq, ← hr2, ← HK.out, Bool.eq_iff_iff]
          simp only [decide_eq_true_eq]
          have e := good_eq S hgd
          have := keyStr_inj (keyN S) (keyY S) n X hgd.2.1 hle hgd.2.2.2 HXY.out.1
          rw [← e] at this
          exact this
        have HR2 := hide hr2
        clear hgd hr2
        go_wp2_with fail
        refine (fk_good S _ HG.out).mono ?_
        rintro e w10 ⟨b5, g5, c5, rfl, s5, m1, m2, e5, d10⟩
        have hne : b5 ≠ b1 := by have := s1.blt; omega
        have s1 := s1.below d10
        have T10 := hide (T9.out.below d10 W9)
        have D10 := D9.trans (d10.mono D9.size)
        have W10 : 0 < w10.heap.size := Nat.lt_of_lt_of_le hw0 D10.size
        clear T9 d10 D9 W9 m1 m2
        go_wp2_with fail
        refine (key_good S b5 g5 c5 _ HG.out s5).mono ?_
        rintro e w11 ⟨rfl, d11⟩
        have s1 := s1.below d11
        have s5 := s5.below d11
        have T11 := hide (T10.out.below d11 W10)
        have D11 := D10.trans (d11.mono D10.size)
        clear T10 d11 D10 W10
        go_wp2_with fail
        refine (lalike_any b5 g5 c5 _ _ b1 g1 c1 n X _ s5 s1 T11.out hne).mono ?_
        rintro e w12 ⟨rfl, d12⟩
        rw [HR2.out]
        have D12 := D11.trans (d12.mono D11.size)
        clear T11 d12 D11 s1 s5
        go_wp2
        go_ret
        exact ⟨rfl, D12⟩
      · have HG := hide hgd
        have hSb : (S.toList == K.toList) = false := by
          rw [str_beq, decide_eq_false]
          intro e
          apply hgd
          rw [e, ← HK.out]
          exact keyStr_good n X hle HXY.out.1
        clear hgd
        go_wp2_with fail
        refine (fk_bad S _ HG.out).mono ?_
        rintro e w10 ⟨rfl, d10⟩
        have D10 := D9.trans (d10.mono D9.size)
        clear T9 d10 D9 W9 s1
        go_wp2_with fail
        refine (fk_bad _ _ (by rw [← HK.out]; exact bad_snoc n X hle)).mono ?_
        rintro e w11 ⟨rfl, d11⟩
        have D11 := D10.trans (d11.mono D10.size)
        clear d11 D10
        go_wp2
        go_ret
        exact ⟨rfl, D11⟩
end Go.Proofs.YtdgmokelmocejaaDoor
