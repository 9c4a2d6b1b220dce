import Derived.Test.YtmagchclmmphaaaDoorSyW
import Derived.Test.YtmagchclmmphaaaDoorFrm
namespace Go.Proofs.YtmagchclmmphaaaDoor.formatStays
open Go.ChangeShapes Go.WideShapes Go.ChangeAt Go.RowKit Go.Joins frame

theorem cells23 : Tryd.prog.cellsOf 23 = 2 := by kernel_rfl
theorem cutRows : Rows.formatStaysUptoRow.laid.filter (fun x => x.1 == "wordset/grammar.rows") = [("wordset/grammar.rows", Rows.laid_wordset_grammar_rows)] := by kernel_rfl
theorem cutNames : Rows.formatStaysUptoRow.laid.filter (fun x => x.1 == "wordset/names.nameBytes") = [("wordset/names.nameBytes", Rows.laid_wordset_names_nameBytes)] := by kernel_rfl
theorem tables {W : World} (h : laidMetH Tryd.prog Rows.formatStaysUptoRow.laid W) : RowsAt W ∧ BytesAt W := by
  have h' : laidMet Tryd.prog Rows.formatStaysUptoRow.laid W := h
  have h1 := h'.filter (fun x => x.1 == "wordset/grammar.rows")
  have h2 := h'.filter (fun x => x.1 == "wordset/names.nameBytes")
  rw [cutRows] at h1
  rw [cutNames] at h2
  exact ⟨rowsAt h1, bytesAt h2⟩
theorem heap_pos2 {W : World} (h : BytesAt W) : 1 < W.heap.size := World.block_lt_of_cell? W ⟨1, 0, none⟩ (h 0 (by decide))
theorem array2 {α : Type} {cs : Array α} (h : cs.size = 2) : ∃ c0 c1, cs = #[c0, c1] := by
  obtain ⟨l⟩ := cs
  match l, h with
  | [c0, c1], _ => exact ⟨c0, c1, rfl⟩

set_option maxRecDepth 100000 in
/-- Two texts that came in, opened. -/
theorem more_open {H : Type} {enc : TypeId × Value → H} {W : World} {base : Nat} {v : Value} {d : DataW H} {p : List MemPlace} (hv : Value.okWide Tryd.prog W .any base 23 v) (h : DataW.Trod enc Tryd.prog W 0 (fun _ => true) true 23 v d p) (hk : Rows.uptoBulk d ≤ 1048576) :
    ∃ t m : ByteArray, v = .agg #[.string t, .string m] ∧ t.size ≤ 1048576 ∧ m.size ≤ 1048576 := by
  obtain ⟨cs, rfl, hsz⟩ := okWide_struct Tryd.underlying23 hv
  obtain ⟨c0, c1, rfl⟩ := array2 (hsz.trans cells23)
  obtain ⟨fuel, hf⟩ := h
  obtain ⟨xs, n, _, hx, hl, hlen, hfl⟩ := DataW.trod_struct Tryd.underlying23 hf
  obtain ⟨y0, y1, rfl⟩ := list2 hlen
  have h0 := hfl 0 _ rfl
  have h1 := hfl 1 _ rfl
  simp [Value.cells, cells9] at h0 h1
  obtain ⟨t, e0, f0, _⟩ := DataW.trod_string Tryd.underlying9 h0
  obtain ⟨m, e1, f1, _⟩ := DataW.trod_string Tryd.underlying9 h1
  simp only [List.cons.injEq, and_true] at e0 e1
  subst e0 e1
  simp only [Prod.mk.injEq] at hx
  rw [hx.1] at hk
  simp only [List.map_cons, List.map_nil, Rows.uptoBulk, Rows.uptoBulkAll] at hk
  have hb0 : Rows.uptoBulk y0.1 = t.size + 1 := by rw [f0]; simp [Rows.uptoBulk]
  have hb1 : Rows.uptoBulk y1.1 = m.size + 1 := by rw [f1]; simp [Rows.uptoBulk]
  exact ⟨t, m, rfl, by omega, by omega⟩

set_option maxRecDepth 100000 in
theorem contract (H : Type) (enc : TypeId × Value → H) (W : World) (base : Nat) (args : Array Value) (ds gs : List (DataW H)) (before : List MemPlace)
    (hval : ∀ (j : Nat) t v, Tryd.f3.params[j]? = some t → args[j]? = some v → Value.okWide Tryd.prog W .any base t v)
    (hW : DataW.Whole enc Tryd.prog Tryd.f3.params.toList Rows.formatStaysSpec.vars false W args.toList ds gs before) (hk : Rows.uptoSmall H (ds ++ gs) = true) (hL : laidMetH Tryd.prog Rows.formatStaysUptoRow.laid W) :
    Calls Tryd.prog 3 args W fun e W' => ∃ v, e = .returned v ∧ Rows.formatStaysSpec.post enc Tryd.prog Tryd.f3 false true false false W args v W' := by
  have hW' := hW
  obtain ⟨p, q, hA0, hV, rfl, hfz, hnd⟩ := hW
  have hA : DataW.TrodAll enc Tryd.prog W 0 (fun _ => true) true Tryd.f3.params.toList args.toList ds p := hA0
  rw [Tryd.params3] at hA hval
  obtain ⟨v0, vs0, d0, ds0, p0, q0, hargs, rfl, rfl, h0, r0⟩ := trodAll_cons hA
  obtain ⟨rfl, rfl, rfl⟩ := trodAll_nil r0
  obtain rfl : args = #[v0] := by cases args; simp_all
  obtain ⟨rfl, rfl⟩ := trodVars_none hV
  have k0 := h0
  have lt0 : ∀ x ∈ p0, x.block < W.heap.size := by obtain ⟨m, hm⟩ := k0; exact DataW.trod_lt m _ _ _ hm
  have hb : Rows.uptoBulkAll ([d0] ++ []) ≤ 1048576 := of_decide_eq_true hk
  have hb0 : Rows.uptoBulk d0 ≤ 1048576 := by
    rw [List.append_nil] at hb
    simp only [Rows.uptoBulkAll] at hb
    omega
  obtain ⟨t, m, rfl, ht, hm⟩ := more_open (hval 0 23 v0 rfl rfl) h0 hb0
  clear hA0 hk hb
  obtain ⟨hT, hP⟩ := tables hL
  refine (stays_any t m W (hide ⟨hT, hP, heap_pos2 hP⟩) ht hm).mono fun e W' ⟨he, bel⟩ => ?_
  subst he
  exact ⟨_, rfl, _, _, _, [], _, [], hW', trodAll_mk1 (shut_bool Tryd.underlying4 _), trodAll_cons_mk (Below.trod laidOut (by kernel_rfl) (of_decide_eq_true (by kernel_rfl)) k0 bel lt0) trodAll_mk0, rfl, bel.frame _, fun h => by cases h⟩

noncomputable def world5 (os : Os) : World := World.laidAll Tryd.prog os Rows.formatStaysUptoRow.laid
theorem laid_met (os : Os) : laidMet Tryd.prog Rows.formatStaysUptoRow.laid ((world5 os).forCall (fun _ _ => 0) ⟨#[], #[.agg #[.string ByteArray.empty, .string ByteArray.empty]], []⟩).memory :=
  laidMet_laidAll _ (by kernel_rfl) (by kernel_rfl)
theorem reads (os : Os) {H : Type} (enc : TypeId × Value → H) : ∃ places, DataW.whole enc Tryd.prog ((world5 os).forCall (fun _ _ => 0) ⟨#[], #[.agg #[.string ByteArray.empty, .string ByteArray.empty]], []⟩).memory Tryd.f3.params.toList Rows.formatStaysSpec.vars false #[Value.agg #[.string ByteArray.empty, .string ByteArray.empty]].toList 8 = some ([.agg [.lit (.string []), .lit (.string [])]], [], places) :=
  ⟨[], by kernel_rfl⟩

set_option maxRecDepth 100000 in
theorem liftedUpto (os : Os) (started : os.Started) (H : Type) (enc : TypeId × Value → H) (F : Stop.Interp) :
    ReturnsInHanded {} Tryd.checked os 3 .any ((Rows.OpenSpec.upto Rows.formatStaysSpec).preRow enc Tryd.prog Tryd.f3 Rows.formatStaysUptoRow.domain false Rows.formatStaysUptoRow.laid) (((Rows.OpenSpec.upto Rows.formatStaysSpec).at F).post enc Tryd.prog Tryd.f3 false true false false) := by
  obtain ⟨places, hx⟩ := reads os enc
  refine returnsInHanded_of_row (C := Tryd.checked) (s := Rows.OpenSpec.upto Rows.formatStaysSpec) own started (by kernel_rfl) Tryd.func3
    (witness_row_at (enc := enc) (C := Tryd.checked) false (world5 os) #[.agg #[.string ByteArray.empty, .string ByteArray.empty]] (World.laidAll_os _ _ _) (by kernel_rfl) (by kernel_rfl) (by kernel_rfl)
      (OpenSpec.preRow_of_cond 8 hx (by kernel_rfl) (fun k hk => by cases hk; kernel_rfl) (by kernel_rfl) (laid_met os))) ?_
  intro W base args ds gs before hval hW _ hcond _ hL _ _
  exact contract H enc W base args ds gs before hval hW (hcond _ rfl) hL

theorem saidUpto : Rows.FormatStaysUptoSaid :=
  OpenClaim.holds_of_cond 3 Tryd.f3 rfl rfl rfl rfl rfl rfl rfl ⟨rfl, rfl, rfl, rfl, rfl⟩ rfl rfl rfl rfl rfl (by kernel_rfl) Tryd.func3 (by kernel_rfl)
    (of_decide_eq_true (by kernel_rfl)) (by unfold Func.isWrapper; first | (rw [if_pos (by decide +kernel)]; kernel_rfl) | (rw [if_neg (by decide +kernel)]; exact ⟨rfl, rfl⟩))
    (fun os started H enc _ F => by rw [OpenClaim.pre_eq_preRow]; exact liftedUpto os started H enc F)

theorem plain (f : FuncId) (fn : Func) (hf : Tryd.pinned.checked.prog.funcNamed "wordset/wordsetlaw04.FormatStays" = some f) (hfn : Tryd.pinned.checked.prog.funcs[f]? = some fn) :
    false = Tryd.pinned.checked.prog.looks [] ∧ ∀ (j : Nat) t, fn.params[j]? = some t → Tryd.pinned.checked.prog.wantsStandIn t = false := by
  obtain rfl : f = 3 := Option.some.inj ((show Tryd.prog.funcNamed "wordset/wordsetlaw04.FormatStays" = some 3 by kernel_rfl).symm.trans hf) |>.symm
  obtain rfl : fn = Tryd.f3 := (Option.some.inj (Tryd.func3.symm.trans hfn)).symm
  refine ⟨by kernel_rfl, fun j t ht => ?_⟩
  rw [Tryd.params3] at ht
  obtain rfl : t = 23 := by simpa using Array.mem_of_getElem? ht
  exact (show Tryd.prog.wantsStandIn 23 = false by kernel_rfl)

end Go.Proofs.YtmagchclmmphaaaDoor.formatStays
namespace Go.Proofs.YtmagchclmmphaaaDoor
theorem formatStays_cardUpto : Rows.FormatStaysUptoCardSaid :=
  Claim7.holds_tied_plain_at .later [] _ _ _ _ formatStays.saidUpto (fun _ h => by cases h) (by kernel_rfl) (fun _ h => by cases h) formatStaysUpto_row_tie rfl ⟨rfl, rfl⟩ (by kernel_rfl) rfl formatStays.plain (by kernel_rfl)
#print axioms formatStays_cardUpto
end Go.Proofs.YtmagchclmmphaaaDoor
