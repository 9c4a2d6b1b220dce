import Derived.Test.YtmagchclmmphaaaGreatDoorTs
import Derived.Deep.RegionHeld3
namespace Go.Proofs.YtmagchclmmphaaaGreatDoor
open Go.RowKit Go.Maps

/-- An arity's first byte as a number. -/
def arB (s : ByteArray) : Nat := (s.data[0]?.getD 48 - 48).toNat
def opB (p : ByteArray × ByteArray) : OpT := (p.1, arB p.2)
def stO (r : RS) (P : List (ByteArray × ByteArray)) (k : Nat) (v m : Value) : RS := { r with O := ((P.take k).map opB).foldl sadd r.O, vo := v, mo := m }
/-- A line of pairs. -/
structure Prs (L : List ByteArray) (P : List (ByteArray × ByteArray)) : Prop where
  len : L.length = 2 * P.length
  fst : ∀ k (h : k < P.length), L[2 * k]? = some P[k].1
  snd : ∀ k (h : k < P.length), L[2 * k + 1]? = some P[k].2
  ok : ∀ p ∈ P, p.1.size ≤ 1048576 ∧ 0 < p.2.size
theorem arB_le (s : ByteArray) : arB s ≤ 255 := by unfold arB; have := (s.data[0]?.getD 48 - 48).toNat_lt; omega
theorem wrap_ar (s : ByteArray) (h : 0 < s.size) : IntKind.u8.wrap ((s[0].toNat : Int) - 48) = (arB s : Int) := by
  have e : arB s = (s[0] - 48).toNat := by
    unfold arB
    rw [Array.getElem?_eq_getElem (by exact h)]
    rfl
  have hl := s[0].toNat_lt
  rw [e, UInt8.toNat_sub]
  have h48 : (48 : UInt8).toNat = 48 := rfl
  rw [h48]
  simp only [IntKind.wrap, IntKind.bits, IntKind.signed]
  simp
  omega
theorem wrap_id (n : Nat) (h : n ≤ 1073741824) : IntKind.i64.wrap (n : Int) = (n : Int) := by
  simp [IntKind.wrap, IntKind.bits, IntKind.signed]; omega
theorem wrap_one (n : Nat) (h : n ≤ 1073741824) : IntKind.i64.wrap ((n : Int) + 1) = (n : Int) + 1 := by
  simp [IntKind.wrap, IntKind.bits, IntKind.signed]; omega
theorem opB_ok {p : ByteArray × ByteArray} (h : p.1.size ≤ 1048576) : okOp (opB p) := ⟨h, by have := arB_le p.2; show arB p.2 ≤ _; omega⟩

set_option maxRecDepth 100000 in
set_option maxHeartbeats 2000000 in
theorem takeOps_any (n0 b : Nat) (w : World) (r : RS) (ao : Option Addr) (cap : Nat) (L : List ByteArray) (P : List (ByteArray × ByteArray)) (h : Hid (Rd n0 b w r)) (hL : Hid (LnS w b r ao L)) (hP : Hid (Prs L P)) (hl : Hid (r.O.length + P.length ≤ 67108864)) :
    Calls Tryz.prog 71 #[.pointer (some ⟨b, 0, none⟩), .slice ao L.length cap] w fun e w' => ∃ v m, e = .returned (.tuple #[]) ∧ Stp n0 b w r w' (stO r P P.length v m) := by
  have hlen := hP.out.len
  have hpl : P.length ≤ 67108864 := by have := hl.out; omega
  have HT := hide (Stp.same h.out (Below.refl _ _))
  have HL := hide hlen
  clear hlen
  go_enter Tryz.func71, Tryz.ntmps71
  go_wp2
  go_loopw [4] (fun i wr => ∃ (k j : Nat) (v m : Value), k ≤ P.length ∧ Hid (j = 2 * k) ∧ i = .int .i64 (j : Nat) ∧ Hid (Stp n0 b w r wr (stO r P k v m))) (fun i _ => L.length + 1 - (intOf i).toNat)
  case atStart => exact ⟨0, 0, r.vo, r.mo, Nat.zero_le _, hide rfl, rfl, HT⟩
  case round =>
    obtain ⟨k, j, v, m, hk, HJ, rfl, T⟩ := hrel
    clear HT
    by_cases hlt : k < P.length
    · have hP1 := hP.out.fst k hlt
      have hP2 := hP.out.snd k hlt
      rw [← HJ.out] at hP1 hP2
      have hjl : j + 1 < L.length := by have := HJ.out; have := HL.out; omega
      obtain ⟨g, o, rfl, q1, nb⟩ := (hL.out.step T.out) j (by omega)
      obtain ⟨g', o', e', q2, _⟩ := (hL.out.step T.out) (j + 1) (by omega)
      cases e'
      rw [List.getElem?_eq_getElem (by omega)] at hP1 hP2
      rw [Option.some.inj hP1] at q1
      rw [Option.some.inj hP2] at q2
      have hpo := hP.out.ok _ (List.getElem_mem hlt)
      obtain ⟨p, hp⟩ : ∃ p, P[k] = p := ⟨_, rfl⟩
      rw [hp] at q1 q2 hpo
      have HP := hide hp
      obtain ⟨s1, s2⟩ := p
      simp only at q1 q2 hpo
      have hok' := hide (show kOps.ok (opB (s1, s2)) from opB_ok hpo.1)
      have hl' : (stO r P k v m).O.length ≤ 67108864 := by
        have := fold_len ((P.take k).map opB) r.O
        have := hl.out
        show (((P.take k).map opB).foldl sadd r.O).length ≤ _
        rw [List.length_map, List.length_take] at *
        omega
      have i0 : (0 : Int) ≤ (j : Int) := by omega
      have i2 : (j : Int) < (L.length : Int) := by omega
      have i3 : (0 : Int) ≤ (j : Int) + 1 := by omega
      have i4 : (j : Int) + 1 < (L.length : Int) := by omega
      have hz := hpo.2
      have T' := hide (T.out.grow (Below.refl _ _).drew)
      have hw1 := wrap_one j (by have := HL.out; omega)
      have hw2 := wrap_ar s2 hz
      have hw3 := wrap_id (arB s2) (by have := arB_le s2; omega)
      clear hp hP1 hP2 hpo
      go_wp2_with fail
      go_region_with (go_at_call 89; refine (addO_any n0 b _ (stO r P k v m) (opB (s1, s2)) (hide T'.out.rd) hok' hl').mono ?_; rintro e w2 ⟨i, v', m', rfl, hi', h2⟩)
      all_goals
        have H2 := hide h2
        clear h2 hi'
        have hjb : j ≤ 268435456 := by have := HL.out; omega
        clear hw1 hw2 hw3
        go_wp2
        go_roundw
        case rel =>
          have e : { stO r P k v m with O := sadd (stO r P k v m).O (opB (s1, s2)), vo := v', mo := m' } = stO r P (k + 1) v' m' := by
            unfold stO
            rw [← HP.out, List.take_succ_eq_append_getElem hlt, List.map_append, List.foldl_append]; rfl
          have h2 := H2.out
          rw [e] at h2
          exact ⟨k + 1, j + 2, v', m', by omega, hide (by have := HJ.out; omega), by go_num, hide (T'.out.trans h2)⟩
        case measure => simp [intOf]; omega
    · obtain rfl : k = P.length := by omega
      have i2 : ¬ (j : Int) < (L.length : Int) := by have := HJ.out; have := HL.out; omega
      go_wp2
      go_end0
      exact ⟨rfl, v, m, T.out⟩
end Go.Proofs.YtmagchclmmphaaaGreatDoor
