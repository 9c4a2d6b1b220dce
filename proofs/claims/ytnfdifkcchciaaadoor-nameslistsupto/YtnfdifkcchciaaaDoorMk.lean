import Derived.Test.YtnfdifkcchciaaaDoorRc
import Derived.Laws.IdiomStrings
namespace Go.Proofs.YtnfdifkcchciaaaDoor
open Go.RowKit Go.Maps

/-- The mark of a list. -/
def mkL (i : Nat) : List UInt8 := [45, UInt8.ofNat (97 + i), 97]
def mk (i : Nat) : ByteArray := ⟨(mkL i).toArray⟩
theorem mk_inj {i j : Nat} (hi : i < 26) (hj : j < 26) (h : mk i = mk j) : i = j := by
  have h1 : (mkL i).toArray = (mkL j).toArray := congrArg ByteArray.data h
  have h2 : mkL i = mkL j := by simpa using h1
  have h3 : UInt8.ofNat (97 + i) = UInt8.ofNat (97 + j) := by simpa [mkL] using h2
  have h4 := congrArg UInt8.toNat h3
  simp only [UInt8.toNat_ofNat'] at h4
  omega

theorem conv_mk (w : World) (i : Nat) (hi : i < 26) : (convert 89 9 (.slice (some ⟨w.heap.size, 0, none⟩) 3 3)).run Tryd.prog (w.alloc (.cells #[.int .u8 45, .int .u8 (97 + (i : Int)), .int .u8 97] 5)) = .ok (.string (mk i)) (w.alloc (.cells #[.int .u8 45, .int .u8 (97 + (i : Int)), .int .u8 97] 5)) := by
  have h := run_convert_bytes_back (P := Tryd.prog) (w.alloc (.cells #[.int .u8 45, .int .u8 (97 + (i : Int)), .int .u8 97] 5)) 89 9 5 ⟨w.heap.size, 0, none⟩ 3 (mkL i) Tryd.underlying89 Tryd.underlying5 Tryd.underlying9 (fun j hj => by
    rw [Addr.add_lit, Nat.zero_add, World.cell?_alloc_at _ _ _ _ rfl]
    have e : ((UInt8.ofNat (97 + i)).toNat : Int) = 97 + (i : Int) := by simp only [UInt8.toNat_ofNat']; omega
    match j, hj with
    | 0, _ => rfl
    | 1, _ => simp [mkL]; omega
    | 2, _ => rfl)
  exact h

set_option maxRecDepth 100000 in
set_option maxHeartbeats 1000000 in
theorem mark_any (i : Nat) (hi : i < 26) (w : World) :
    Calls Tryd.prog 55 #[.int .i64 (i : Nat)] w fun e w' => e = .returned (.string (mk i)) ∧ Below w.heap.size w w' := by
  have e1 : ((i : Int)).tmod 26 = (i : Int) := by rw [Int.tmod_eq_emod_of_nonneg (by omega)]; omega
  have e2 : ((i : Int)).tdiv 26 = 0 := by rw [Int.tdiv_eq_ediv_of_nonneg (by omega)]; omega
  have hcv := conv_mk w i hi
  have hb := below_new w (.cells #[.int .u8 45, .int .u8 (97 + (i : Int)), .int .u8 97] 5)
  have hw : IntKind.i64.wrap (97 + (i : Int)) = 97 + (i : Int) := by rw [IntKind.wrap_i64]; omega
  have hw8 : IntKind.u8.wrap (97 + (i : Int)) = 97 + (i : Int) := by rw [IntKind.wrap_u8]; omega
  go_enter Tryd.func55, Tryd.ntmps55
  go_wp2
  go_ret
  exact ⟨rfl, hb⟩

end Go.Proofs.YtnfdifkcchciaaaDoor
