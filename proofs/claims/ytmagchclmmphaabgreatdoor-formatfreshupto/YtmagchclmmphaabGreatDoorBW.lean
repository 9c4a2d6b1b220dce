import Derived.Test.YtmagchclmmphaabGreatDoorSP
import Derived.Lib.Builder
import Derived.Lib.AppendStr
import Derived.Lib.Strings
import Derived.Shelf.Strings.Builder1
namespace Go.Proofs.YtmagchclmmphaabGreatDoor
open Go.RowKit Go.Maps

theorem infoB : (Tryz.prog.info? 97).map (·.size) = some 2 := by kernel_rfl
theorem liesB : liesAt Tryz.prog Tryz.prog.depth 97 (2 / Tryz.prog.cellsOf 97) 0 97 1 = true := by kernel_rfl
theorem infoByte : (Tryz.prog.info? 5).map (fun i => (i.zero, i.size, i.bytes)) = some (some (.int .u8 0), 1, 1) := by kernel_rfl

set_option maxRecDepth 100000 in
set_option maxHeartbeats 1000000 in
/-- A builder that was written before. -/
theorem check_used (b : Nat) (v : Value) (w : World) (hb : w.heap[b]? = some (.cells #[.pointer (some ⟨b, 0, none⟩), v] 97 (0, 0))) :
    Calls Tryz.prog 99 #[.pointer (some ⟨b, 0, none⟩)] w fun e w' => e = .returned (.tuple #[]) ∧ w' = w := by
  have c0 : w.cell? ⟨b, 0, none⟩ = some (.pointer (some ⟨b, 0, none⟩)) := cell_of hb rfl
  obtain ⟨j, hj, hjs⟩ := Option.map_eq_some_iff.1 infoB
  have u1 := Lib.run_neq_ptr_same (P := Tryz.prog) w ⟨b, 0, none⟩ Tryz.underlying95 hj
  clear hj hjs
  go_enter Tryz.func99, Tryz.ntmps99
  go_wp2
  go_end0
  exact ⟨rfl, rfl⟩
set_option maxRecDepth 100000 in
set_option maxHeartbeats 1000000 in
/-- A new builder. -/
theorem check_new (b : Nat) (v : Value) (w : World) (hb : w.heap[b]? = some (.cells #[.pointer none, v] 97 (0, 0))) :
    Calls Tryz.prog 99 #[.pointer (some ⟨b, 0, none⟩)] w fun e w' => e = .returned (.tuple #[]) ∧ w' = w.setCell ⟨b, 0, none⟩ (.pointer (some ⟨b, 0, none⟩)) := by
  have c0 : w.cell? ⟨b, 0, none⟩ = some (.pointer none) := cell_of hb rfl
  have f0 : w.frozen? ⟨b, 0, none⟩ = false := by simp [World.frozen?, hb]
  have hsh : w.shape? b = some (97, 2) := by simp [World.shape?, hb]
  obtain ⟨j, hj, hjs⟩ := Option.map_eq_some_iff.1 infoB
  have u1 := Lib.run_to_unsafe (P := Tryz.prog) w ⟨b, 0, none⟩ Tryz.underlying95 Tryz.underlying163 hj (by rw [hjs]; decide) hsh (Nat.zero_lt_succ 1)
  have u2 := Lib.run_from_unsafe (P := Tryz.prog) w ⟨b, 0, none⟩ Tryz.underlying163 Tryz.underlying95 hj hsh liesB
  have u3 : ∀ x, (callFunc 127 #[x]).run Tryz.prog w = .ok (.value x) w := fun x => (run_callFunc_extern Tryz.func127 (by kernel_rfl) (by kernel_rfl) (by kernel_rfl) (e := Extern.AbiNoEscape.same) (by kernel_rfl) #[x] w).trans rfl
  clear hb hsh hj hjs
  go_enter Tryz.func99, Tryz.ntmps99
  go_wp2
  go_end0
  exact ⟨rfl, rfl⟩

/-- A builder at b that holds a text; nothing of it lies below B. -/
def Bd (B b : Nat) (t : ByteArray) (w : World) : Prop := Lib.IsBuilder 97 5 B b (Lib.strCells t) w
theorem strCells_app (t s : ByteArray) : Lib.strCells (t ++ s) = Lib.strCells t ++ Lib.strCells s := by
  unfold Lib.strCells
  rw [← List.map_append]
  congr 1

/-- Nothing turns but the builder and rows of bytes. -/
def KpB (b : Nat) (w w' : World) : Prop := ∀ k c t f, t ≠ 5 → k ≠ b → w.heap[k]? = some (.cells c t f) → w'.heap[k]? = some (.cells c t f)
theorem KpB.set (b j : Nat) (v : Value) (w : World) : KpB b w (w.setCell ⟨b, j, none⟩ v) := fun _ _ _ _ _ hk h => (Below.heap_setCell _ _ _ _ hk).trans h
theorem KpB.trans {b : Nat} {u v w : World} (h : KpB b u v) (k : KpB b v w) : KpB b u w := fun i c t f ht hi e => k i c t f ht hi (h i c t f ht hi e)

theorem check_any2 (B b : Nat) (t : ByteArray) (w : World) (h : Bd B b t w) :
    Calls Tryz.prog 99 #[.pointer (some ⟨b, 0, none⟩)] w fun e w' => e = .returned (.tuple #[]) ∧ Lib.BuilderAt 97 5 B b (.pointer (some ⟨b, 0, none⟩)) (Lib.strCells t) w' ∧ Below B w w' ∧ w'.heap.size = w.heap.size ∧ KpB b w w' := by
  rcases h with h | h
  · obtain ⟨v, hb, _⟩ := h.2
    refine (check_new b v w hb).mono ?_
    rintro e w' ⟨rfl, rfl⟩
    exact ⟨rfl, h.used _, (Below.refl B w).setCell (p := ⟨b, 0, none⟩) h.1 _, by simp [World.setCell], KpB.set b 0 _ w⟩
  · obtain ⟨v, hb, _⟩ := h.2
    refine (check_used b v w hb).mono ?_
    rintro e w' ⟨rfl, rfl⟩
    exact ⟨rfl, h, Below.refl B _, rfl, fun _ _ _ _ _ _ h => h⟩

theorem row_form {w : World} {B e sz n : Nat} {v : Value} {xs : List Value} (h : w.ownsRow B e sz v n xs) : ∃ ao n' cap, v = .slice ao n' cap := by
  rcases h.2 with ⟨hv, _⟩ | ⟨g, cap, cur, hv, _⟩
  · exact ⟨_, _, _, hv⟩
  · exact ⟨_, _, _, hv⟩

set_option maxRecDepth 100000 in
set_option maxHeartbeats 2000000 in
theorem wstr_any (B b : Nat) (t s : ByteArray) (w : World) (h : Hid (Bd B b t w)) (hlen : t.size + s.size ≤ 140737488355328) (hB : Hid (B ≤ w.heap.size)) :
    Calls Tryz.prog 73 #[.pointer (some ⟨b, 0, none⟩), .string s] w fun e w' => e = .returned (.tuple #[.int .i64 (s.size : Nat), .nilIface]) ∧ Bd B b (t ++ s) w' ∧ Below B w w' ∧ KpB b w w' := by
  obtain ⟨i0, hi, hz0, hz1, hz2⟩ := info_parts infoByte
  go_enter Tryz.func73, Tryz.ntmps73
  go_wp2_with fail
  refine (check_any2 B b t w h.out).mono ?_
  rintro e w1 ⟨rfl, h1, hb1, hs1, hk1⟩
  have HK1 := hide hk1
  clear hk1
  obtain ⟨hBb, v, hbk, hown, hne⟩ := h1
  have c1 : w1.cell? ⟨b, 1, none⟩ = some v := cell_of hbk rfl
  rw [Lib.strCells_length] at hown
  have HO := hide (And.intro hbk (And.intro hne (And.intro hown hb1)))
  have hB1 : B ≤ w1.heap.size := by rw [hs1]; exact hB.out
  clear hbk hne hb1 hs1
  have HK := hide (fun (w2 : World) (hg : w1.grownBy w2 v.ownBlock) => show w2.heap[b]? = some (.cells #[.pointer (some ⟨b, 0, none⟩), v] 97 (0, 0)) from
    (hg.block b (Array.getElem?_eq_some_iff.1 HO.out.1).1 (fun e => HO.out.2.1 e.symm)).trans HO.out.1)
  go_wp2_with (at_builtin; refine Lib.wpList_append_own_string _ rfl _ _ 82 9 rfl B 5 i0 Tryz.underlying82 Tryz.underlying9 hi hz0 hz1 hz2 _ t.size (Lib.strCells t) rfl hown s rfl (by unfold maxLen; omega) hlen hB1 ?_; intro v' w2 hown' hgrow0 _; have hgrow : w1.grownBy w2 v.ownBlock := hgrow0; obtain ⟨ao, n', cap, rfl⟩ := row_form hown'; have d1 : w2.cell? ⟨b, 1, none⟩ = some v := cell_of (HK.out w2 hgrow) rfl; have f1 : w2.frozen? ⟨b, 1, none⟩ = false := by simp [World.frozen?, HK.out w2 hgrow])
  go_ret2
  refine ⟨rfl, .inr ?_, ?_, ?_⟩
  · rw [strCells_app]
    exact Lib.BuilderAt.put (T := 97) (e := 5) hBb (HK.out w2 hgrow) (by simpa [Lib.strCells_length] using hown') (by decide)
  · exact (HO.out.2.2.2.grown hgrow hB1 (fun k hk => (hown.lt k hk).1)).setCell (p := ⟨b, 1, none⟩) hBb _
  · refine (HK1.out.trans (fun k c ty f hty hkb e => ?_)).trans (KpB.set b 1 _ w2)
    refine (hgrow.block k (Array.getElem?_eq_some_iff.1 e).1 (fun h => ?_)).trans e
    rcases hown.2 with ⟨hv, _⟩ | ⟨g, cap', cur, hv, _, hg, _⟩
    · rw [hv] at h; cases h
    · rw [hv] at h
      obtain rfl : k = g := by simpa [Value.ownBlock] using h
      rw [hg] at e
      injection e with e
      injection e with _ e
      exact hty e.symm
end Go.Proofs.YtmagchclmmphaabGreatDoor
namespace Go.Proofs
open Go.Shelf Go.RowKit Go.Lib
def Tryz.lays169_ren : Go.Shelf.Ren := ⟨fun | 169 => 76 | n => n, fun | 70 => 95 | 9 => 9 | 0 => 0 | 72 => 97 | 37 => 82 | 127 => 141 | 3 => 3 | 5 => 5 | n => n, fun | n => n⟩
theorem Tryz.lays169 : Go.Proofs.Lays.n169 Tryz.prog Tryz.lays169_ren := {
  mixed := by kernel_rfl
  f169 := Tryz.func76.trans (congrArg some (by kernel_rfl))
  t0 := Tryz.underlying0
  a0 := Tryz.isAgg0
  z0 := Tryz.sizeOf0
  v0 := Tryz.zeroValue0
  t3 := Tryz.underlying3
  a3 := Tryz.isAgg3
  z3 := Tryz.sizeOf3
  v3 := Tryz.zeroValue3
  t9 := Tryz.underlying9
  a9 := Tryz.isAgg9
  z9 := Tryz.sizeOf9
  v9 := Tryz.zeroValue9
  t37 := Tryz.underlying82
  a37 := Tryz.isAgg82
  z37 := Tryz.sizeOf82
  v37 := Tryz.zeroValue82
  t70 := Tryz.underlying95
  a70 := Tryz.isAgg95
  z70 := Tryz.sizeOf95
  v70 := Tryz.zeroValue95
  t72 := Tryz.underlying97
  a72 := Tryz.isAgg97
  z72 := Tryz.sizeOf97
  v72 := Tryz.zeroValue97
  t127 := Tryz.underlying141
  a127 := Tryz.isAgg141
  z127 := Tryz.sizeOf141
  v127 := Tryz.zeroValue141 }
theorem Tryz.Builder_Extra_169 : Builder.Extra Tryz.prog Tryz.lays169_ren := {
  sizeBuilder := by kernel_rfl
  liesBuilder := by kernel_rfl
  t5 := Tryz.underlying5
  a5 := Tryz.isAgg5
  z5 := Tryz.sizeOf5
  v5 := Tryz.zeroValue5
  infoByte := by kernel_rfl
  cellsByte := by kernel_rfl
  sizeByte := by kernel_rfl
  neB5 := by decide }
theorem Tryz.Builder_String_any (B b : Nat) (l : List UInt8) (w : World) (h : Lib.IsBuilder 97 5 B b (Lib.byteCells l) w) (hBw : B ≤ w.heap.size) :
    Calls Tryz.prog 76 #[.pointer (some ⟨b, 0, none⟩)] w fun e w' => e = .returned (.string ⟨l.toArray⟩) ∧ Below B w w' := Any.Builder_String_any Tryz.lays169 Tryz.Builder_Extra_169 B b l w h hBw
namespace YtmagchclmmphaabGreatDoor
theorem bstr_any (B b : Nat) (t : ByteArray) (w : World) (h : Bd B b t w) (hB : B ≤ w.heap.size) : Calls Tryz.prog 76 #[.pointer (some ⟨b, 0, none⟩)] w fun e w' => e = .returned (.string t) ∧ Below B w w' := by
  refine (Tryz.Builder_String_any B b t.data.toList w h hB).mono ?_
  rintro e w' ⟨rfl, d⟩
  exact ⟨rfl, d⟩
end YtmagchclmmphaabGreatDoor
end Go.Proofs
