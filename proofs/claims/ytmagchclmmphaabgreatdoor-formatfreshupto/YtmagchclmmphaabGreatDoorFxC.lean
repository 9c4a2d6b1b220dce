import Derived.Test.YtmagchclmmphaabGreatDoorGH
import Derived.Test.YtmagchclmmphaabGreatDoorFO
namespace Go.Proofs.YtmagchclmmphaabGreatDoor.formatFresh
open Go.ChangeShapes Go.WideShapes Go.ChangeAt Go.RowKit Go.Joins frame

theorem cutRows : Rows.formatFreshUptoRow.laid.filter (fun x => x.1 == "wordset/grammar.rows") = [("wordset/grammar.rows", Rows.laid_wordset_grammar_rows)] := by kernel_rfl
theorem cutNames : Rows.formatFreshUptoRow.laid.filter (fun x => x.1 == "wordset/names.nameBytes") = [("wordset/names.nameBytes", Rows.laid_wordset_names_nameBytes)] := by kernel_rfl
theorem tables {W : World} (h : laidMetH Tryz.prog Rows.formatFreshUptoRow.laid W) : RowsAt W ∧ BytesAt W := by
  have h' : laidMet Tryz.prog Rows.formatFreshUptoRow.laid W := h
  have h1 := h'.filter (fun x => x.1 == "wordset/grammar.rows")
  have h2 := h'.filter (fun x => x.1 == "wordset/names.nameBytes")
  rw [cutRows] at h1
  rw [cutNames] at h2
  exact ⟨rowsAt h1, bytesAt h2⟩
theorem heap_pos2 {W : World} (h : RowsAt W) : 1 < W.heap.size := World.block_lt_of_cell? W ⟨1, 0, none⟩ (h 0 (by decide)).1
set_option maxRecDepth 100000 in
theorem contract (H : Type) (enc : TypeId × Value → H) (W : World) (base : Nat) (args : Array Value) (ds gs : List (DataW H)) (before : List MemPlace)
    (hval : ∀ (j : Nat) t v, Tryz.f6.params[j]? = some t → args[j]? = some v → Value.okWide Tryz.prog W .any base t v)
    (hW : DataW.Whole enc Tryz.prog Tryz.f6.params.toList Rows.formatFreshSpec.vars false W args.toList ds gs before) (hk : Rows.uptoSmall H (ds ++ gs) = true) (hL : laidMetH Tryz.prog Rows.formatFreshUptoRow.laid W) :
    Calls Tryz.prog 6 args W fun e W' => ∃ v, e = .returned v ∧ Rows.formatFreshSpec.post enc Tryz.prog Tryz.f6 false true false false W args v W' := by
  have hW' := hW
  obtain ⟨p, q, hA0, hV, rfl, hfz, hnd⟩ := hW
  have hA : DataW.TrodAll enc Tryz.prog W 0 (fun _ => true) true Tryz.f6.params.toList args.toList ds p := hA0
  rw [Tryz.params6] at hA hval
  obtain ⟨v0, vs0, d0, ds0, p0, q0, hargs, rfl, rfl, h0, r0⟩ := trodAll_cons hA
  obtain ⟨rfl, rfl, rfl⟩ := trodAll_nil r0
  obtain rfl : args = #[v0] := by cases args; simp_all
  obtain ⟨rfl, rfl⟩ := trodVars_none hV
  have k0 := h0
  have lt0 : ∀ x ∈ p0, x.block < W.heap.size := by obtain ⟨m, hm⟩ := k0; exact DataW.trod_lt m _ _ _ hm
  have hb : Rows.uptoBulkAll ([d0] ++ []) ≤ 1048576 := of_decide_eq_true hk
  have hb0 : Rows.uptoBulk d0 ≤ 1048576 := by
    rw [List.append_nil] at hb
    simp only [Rows.uptoBulkAll] at hb
    omega
  obtain ⟨ti, n, m, a1, a2, a3, asx, ay, c1, c2, c3, cs, cy, St, Fi, Ed, S, Y, rfl, qA, qs, k1, k2, l1, l2, l3, l4, l5, l6⟩ := named_cap (hval 0 28 v0 rfl rfl) h0 hb0
  clear hA0 hk hb
  obtain ⟨hT, hP⟩ := tables hL
  refine (ffresh_any W ti n m St Fi Ed S Y a1 a2 a3 asx ay c1 c2 c3 cs cy (hide ⟨hT, hP, heap_pos2 hT⟩) (hide qA) (hide qs) l1 l2 l3 l4 l5).mono fun e W' ⟨he, bel⟩ => ?_
  subst he
  exact ⟨_, rfl, _, _, _, [], _, [], hW', trodAll_mk1 (shut_bool Tryz.underlying4 _), trodAll_cons_mk (Below.trod laidOut (by kernel_rfl) (of_decide_eq_true (by kernel_rfl)) k0 bel lt0) trodAll_mk0, rfl, bel.frame _, fun h => by cases h⟩

noncomputable def world5 (os : Os) : World := World.laidAll Tryz.prog os Rows.formatFreshUptoRow.laid
theorem laid_met (os : Os) : laidMet Tryz.prog Rows.formatFreshUptoRow.laid ((world5 os).forCall (fun _ _ => 0) ⟨#[], #[.agg #[.int .i64 0, .int .i64 0, .slice none 0 0, .slice none 0 0, .slice none 0 0, .slice none 0 0, .slice none 0 0, .string ByteArray.empty]], []⟩).memory :=
  laidMet_laidAll _ (by kernel_rfl) (by kernel_rfl)
theorem reads (os : Os) {H : Type} (enc : TypeId × Value → H) : ∃ places, DataW.whole enc Tryz.prog ((world5 os).forCall (fun _ _ => 0) ⟨#[], #[.agg #[.int .i64 0, .int .i64 0, .slice none 0 0, .slice none 0 0, .slice none 0 0, .slice none 0 0, .slice none 0 0, .string ByteArray.empty]], []⟩).memory Tryz.f6.params.toList Rows.formatFreshSpec.vars false #[Value.agg #[.int .i64 0, .int .i64 0, .slice none 0 0, .slice none 0 0, .slice none 0 0, .slice none 0 0, .slice none 0 0, .string ByteArray.empty]].toList 8 = some ([.agg [.agg [.lit (.int .i64 0), .lit (.int .i64 0), .nil, .nil, .nil], .nil, .nil, .lit (.string [])]], [], places) :=
  ⟨[], by kernel_rfl⟩

set_option maxRecDepth 100000 in
theorem liftedUpto (os : Os) (started : os.Started) (H : Type) (enc : TypeId × Value → H) (F : Stop.Interp) :
    ReturnsInHanded {} Tryz.checked os 6 .any ((Rows.OpenSpec.upto Rows.formatFreshSpec).preRow enc Tryz.prog Tryz.f6 Rows.formatFreshUptoRow.domain false Rows.formatFreshUptoRow.laid) (((Rows.OpenSpec.upto Rows.formatFreshSpec).at F).post enc Tryz.prog Tryz.f6 false true false false) := by
  obtain ⟨places, hx⟩ := reads os enc
  refine returnsInHanded_of_row (C := Tryz.checked) (s := Rows.OpenSpec.upto Rows.formatFreshSpec) own started (by kernel_rfl) Tryz.func6
    (witness_row_at (enc := enc) (C := Tryz.checked) false (world5 os) #[.agg #[.int .i64 0, .int .i64 0, .slice none 0 0, .slice none 0 0, .slice none 0 0, .slice none 0 0, .slice none 0 0, .string ByteArray.empty]] (World.laidAll_os _ _ _) (by kernel_rfl) (by kernel_rfl) (by kernel_rfl)
      (OpenSpec.preRow_of_cond 8 hx (by kernel_rfl) (fun k hk => by cases hk; kernel_rfl) (by kernel_rfl) (laid_met os))) ?_
  intro W base args ds gs before hval hW _ hcond _ hL _ _
  exact contract H enc W base args ds gs before hval hW (hcond _ rfl) hL

theorem saidUpto : Rows.FormatFreshUptoSaid :=
  OpenClaim.holds_of_cond 6 Tryz.f6 rfl rfl rfl rfl rfl rfl rfl ⟨rfl, rfl, rfl, rfl, rfl⟩ rfl rfl rfl rfl rfl (by kernel_rfl) Tryz.func6 (by kernel_rfl)
    (of_decide_eq_true (by kernel_rfl)) (by unfold Func.isWrapper; first | (rw [if_pos (by decide +kernel)]; kernel_rfl) | (rw [if_neg (by decide +kernel)]; exact ⟨rfl, rfl⟩))
    (fun os started H enc _ F => by rw [OpenClaim.pre_eq_preRow]; exact liftedUpto os started H enc F)

theorem plain (f : FuncId) (fn : Func) (hf : Tryz.pinned.checked.prog.funcNamed "wordset/wordsetlaw04.FormatFresh" = some f) (hfn : Tryz.pinned.checked.prog.funcs[f]? = some fn) :
    false = Tryz.pinned.checked.prog.looks [] ∧ ∀ (j : Nat) t, fn.params[j]? = some t → Tryz.pinned.checked.prog.wantsStandIn t = false := by
  obtain rfl : f = 6 := Option.some.inj ((show Tryz.prog.funcNamed "wordset/wordsetlaw04.FormatFresh" = some 6 by kernel_rfl).symm.trans hf) |>.symm
  obtain rfl : fn = Tryz.f6 := (Option.some.inj (Tryz.func6.symm.trans hfn)).symm
  refine ⟨by kernel_rfl, fun j t ht => ?_⟩
  rw [Tryz.params6] at ht
  obtain rfl : t = 28 := by simpa using Array.mem_of_getElem? ht
  exact (show Tryz.prog.wantsStandIn 28 = false by kernel_rfl)

end Go.Proofs.YtmagchclmmphaabGreatDoor.formatFresh
namespace Go.Proofs.YtmagchclmmphaabGreatDoor
theorem formatFresh_cardUpto : Rows.FormatFreshUptoCardSaid :=
  Claim7.holds_tied_plain_at .later [] _ _ _ _ formatFresh.saidUpto (fun _ h => by cases h) (by kernel_rfl) (fun _ h => by cases h) formatFreshUpto_row_tie rfl ⟨rfl, rfl⟩ (by kernel_rfl) rfl formatFresh.plain (by kernel_rfl)
#print axioms formatFresh_cardUpto
end Go.Proofs.YtmagchclmmphaabGreatDoor
