import Derived.Test.YtnfdifkcchciaaaDoorLw
import Derived.Test.YtnfdifkcchciaaaDoorFrm
import Derived.Lay
import Derived.LaidSub
namespace Go.Proofs.YtnfdifkcchciaaaDoor.namesLists
open Go.ChangeShapes Go.WideShapes Go.ChangeAt Go.RowKit Go.Joins frame

theorem gPowType : (Tryd.prog.globals[1]?).map (·.type) = some 100 := by kernel_rfl
theorem cells93 : Tryd.prog.cellsOf 93 = 1 := by kernel_rfl
theorem cells100 : Tryd.prog.cellsOf 100 = 20 := by kernel_rfl
theorem cutPow : Rows.namesListsUptoRow.laid.filter (fun x => x.1 == "internal/strconv.uint64pow10") = [("internal/strconv.uint64pow10", Lib.tabData .u64 Lib.pow10Tab)] := by kernel_rfl
theorem cutNames : Rows.namesListsUptoRow.laid.filter (fun x => x.1 == "wordset/names.nameBytes") = [("wordset/names.nameBytes", Rows.laid_wordset_names_nameBytes)] := by kernel_rfl
theorem tables {W : World} (h : laidMetH Tryd.prog Rows.namesListsUptoRow.laid W) : BytesAt W ∧ PowAt W := by
  have h' : laidMet Tryd.prog Rows.namesListsUptoRow.laid W := h
  have h1 := h'.filter (fun x => x.1 == "wordset/names.nameBytes")
  have h2 := h'.filter (fun x => x.1 == "internal/strconv.uint64pow10")
  rw [cutNames] at h1
  rw [cutPow] at h2
  exact ⟨bytesAt h1, Lib.tabIs_of_head (rest := []) gPow gPowType Tryd.underlying100 Tryd.underlying93 cells93 cells100 h2⟩
theorem heap_pos2 {W : World} (h : PowAt W) : 1 < W.heap.size := World.block_lt_of_cell? W ⟨1, 0, none⟩ (Lib.TabIs.cell h gPow 0 (by rw [Lib.pow10Tab_length]; omega))

set_option maxRecDepth 100000 in
/-- The law's argument, opened: its lists, its text, its number. -/
theorem lists_open2 {H : Type} {enc : TypeId × Value → H} {W : World} {base : Nat} {v : Value} {d : DataW H} {p : List MemPlace} (hv : Value.okWide Tryd.prog W .any base 39 v) (h : DataW.Trod enc Tryd.prog W 0 (fun _ => true) true 39 v d p) (hk : Rows.uptoBulk d ≤ 1048576) :
    ∃ c0 c1 c2 a b c hd N, v = .agg #[c0, c1, c2, .string hd, .int .i64 N] ∧ StrS W c0 a ∧ StrS W c1 b ∧ StrS W c2 c ∧ a.length + b.length + c.length ≤ 1048576 ∧ (∀ s ∈ a, s.size ≤ 1048576) ∧ (∀ s ∈ b, s.size ≤ 1048576) ∧ (∀ s ∈ c, s.size ≤ 1048576) ∧ hd.size + 1 ≤ 1048576 := by
  obtain ⟨cs, rfl, hsz⟩ := okWide_struct Tryd.underlying39 hv
  obtain ⟨c0, c1, c2, c3, c4, rfl⟩ := array5 (hsz.trans cells39)
  obtain ⟨fuel, hf⟩ := h
  obtain ⟨xs, n, _, hx, hl, hlen, hfl⟩ := DataW.trod_struct Tryd.underlying39 hf
  obtain ⟨y0, y1, y2, y3, y4, rfl⟩ := list5 hlen
  have h0 := hfl 0 _ rfl
  have h1 := hfl 1 _ rfl
  have h2 := hfl 2 _ rfl
  have h3 := hfl 3 _ rfl
  have h4 := hfl 4 _ rfl
  have k22 : Tryd.prog.cellsOf 22 = 1 := by kernel_rfl
  have k3 : Tryd.prog.cellsOf 3 = 1 := by kernel_rfl
  simp [Value.cells, k22, k3, cells9] at h0 h1 h2 h3 h4
  obtain ⟨a, sa, la, za⟩ := strs_open h0
  obtain ⟨b, sb, lb, zb⟩ := strs_open h1
  obtain ⟨c, sc, lc, zc⟩ := strs_open h2
  obtain ⟨hd, e3, f3, _⟩ := DataW.trod_string Tryd.underlying9 h3
  obtain ⟨N, e4, _, _⟩ := DataW.trod_int Tryd.underlying3 h4
  simp only [List.cons.injEq, and_true] at e3 e4
  subst e3 e4
  simp only [Prod.mk.injEq] at hx
  rw [hx.1] at hk
  simp only [List.map_cons, List.map_nil, Rows.uptoBulk, Rows.uptoBulkAll] at hk
  have hb : Rows.uptoBulk y3.1 = hd.size + 1 := by rw [f3]; simp [Rows.uptoBulk]
  exact ⟨c0, c1, c2, a, b, c, hd, N, rfl, sa, sb, sc, by omega, fun s hs => by have := za s hs; omega, fun s hs => by have := zb s hs; omega, fun s hs => by have := zc s hs; omega, by omega⟩

set_option maxRecDepth 100000 in
theorem contract (H : Type) (enc : TypeId × Value → H) (W : World) (base : Nat) (args : Array Value) (ds gs : List (DataW H)) (before : List MemPlace)
    (hval : ∀ (j : Nat) t v, Tryd.f6.params[j]? = some t → args[j]? = some v → Value.okWide Tryd.prog W .any base t v)
    (hW : DataW.Whole enc Tryd.prog Tryd.f6.params.toList Rows.namesListsSpec.vars false W args.toList ds gs before) (hk : Rows.uptoSmall H (ds ++ gs) = true) (hL : laidMetH Tryd.prog Rows.namesListsUptoRow.laid W) :
    Calls Tryd.prog 6 args W fun e W' => ∃ v, e = .returned v ∧ Rows.namesListsSpec.post enc Tryd.prog Tryd.f6 false true false false W args v W' := by
  have hW' := hW
  obtain ⟨p, q, hA0, hV, rfl, hfz, hnd⟩ := hW
  have hA : DataW.TrodAll enc Tryd.prog W 0 (fun _ => true) true Tryd.f6.params.toList args.toList ds p := hA0
  rw [Tryd.params6] at hA hval
  obtain ⟨v0, vs0, d0, ds0, p0, q0, hargs, rfl, rfl, h0, r0⟩ := trodAll_cons hA
  obtain ⟨rfl, rfl, rfl⟩ := trodAll_nil r0
  obtain rfl : args = #[v0] := by cases args; simp_all
  obtain ⟨rfl, rfl⟩ := trodVars_none hV
  have k0 := h0
  have lt0 : ∀ x ∈ p0, x.block < W.heap.size := by obtain ⟨m, hm⟩ := k0; exact DataW.trod_lt m _ _ _ hm
  have hb : Rows.uptoBulkAll ([d0] ++ []) ≤ 1048576 := of_decide_eq_true hk
  have hb0 : Rows.uptoBulk d0 ≤ 1048576 := by
    rw [List.append_nil] at hb
    simp only [Rows.uptoBulkAll] at hb
    omega
  obtain ⟨c0, c1, c2, a, b, c, hd, N, rfl, sa, sb, sc, hl, za, zb, zc, hh⟩ := lists_open2 (hval 0 39 v0 rfl rfl) h0 hb0
  clear hA0 hk hb
  obtain ⟨hT, hP⟩ := tables hL
  refine (lists_any c0 c1 c2 a b c hd N W sa sb sc ⟨by omega, za⟩ ⟨by omega, zb⟩ ⟨by omega, zc⟩ (by omega) (by omega) (by omega) hh hT hP (heap_pos2 hP)).mono fun e W' ⟨he, bel⟩ => ?_
  subst he
  exact ⟨_, rfl, _, _, _, [], _, [], hW', trodAll_mk1 (shut_bool Tryd.underlying4 _), trodAll_cons_mk (Below.trod laidOut (by kernel_rfl) (of_decide_eq_true (by kernel_rfl)) k0 bel lt0) trodAll_mk0, rfl, bel.frame _, fun h => by cases h⟩

noncomputable def world4 (os : Os) : World := World.laidAll Tryd.prog os Rows.namesListsUptoRow.laid
theorem laid_met (os : Os) : laidMet Tryd.prog Rows.namesListsUptoRow.laid ((world4 os).forCall (fun _ _ => 0) ⟨#[], #[.agg #[.slice none 0 0, .slice none 0 0, .slice none 0 0, .string ByteArray.empty, .int .i64 0]], []⟩).memory :=
  laidMet_laidAll _ (by kernel_rfl) (by kernel_rfl)
theorem reads (os : Os) {H : Type} (enc : TypeId × Value → H) : ∃ places, DataW.whole enc Tryd.prog ((world4 os).forCall (fun _ _ => 0) ⟨#[], #[.agg #[.slice none 0 0, .slice none 0 0, .slice none 0 0, .string ByteArray.empty, .int .i64 0]], []⟩).memory Tryd.f6.params.toList Rows.namesListsSpec.vars false #[Value.agg #[.slice none 0 0, .slice none 0 0, .slice none 0 0, .string ByteArray.empty, .int .i64 0]].toList 8 = some ([.agg [.nil, .nil, .nil, .lit (.string []), .lit (.int .i64 0)]], [], places) :=
  ⟨[], by kernel_rfl⟩

set_option maxRecDepth 100000 in
theorem liftedUpto (os : Os) (started : os.Started) (H : Type) (enc : TypeId × Value → H) (F : Stop.Interp) :
    ReturnsInHanded {} Tryd.checked os 6 .any ((Rows.OpenSpec.upto Rows.namesListsSpec).preRow enc Tryd.prog Tryd.f6 Rows.namesListsUptoRow.domain false Rows.namesListsUptoRow.laid) (((Rows.OpenSpec.upto Rows.namesListsSpec).at F).post enc Tryd.prog Tryd.f6 false true false false) := by
  obtain ⟨places, hx⟩ := reads os enc
  refine returnsInHanded_of_row (C := Tryd.checked) (s := Rows.OpenSpec.upto Rows.namesListsSpec) own started (by kernel_rfl) Tryd.func6
    (witness_row_at (enc := enc) (C := Tryd.checked) false (world4 os) #[.agg #[.slice none 0 0, .slice none 0 0, .slice none 0 0, .string ByteArray.empty, .int .i64 0]] (World.laidAll_os _ _ _) (by kernel_rfl) (by kernel_rfl) (by kernel_rfl)
      (OpenSpec.preRow_of_cond 8 hx (by kernel_rfl) (fun k hk => by cases hk; kernel_rfl) (by kernel_rfl) (laid_met os))) ?_
  intro W base args ds gs before hval hW _ hcond _ hL _ _
  exact contract H enc W base args ds gs before hval hW (hcond _ rfl) hL

theorem saidUpto : Rows.NamesListsUptoSaid :=
  OpenClaim.holds_of_cond 6 Tryd.f6 rfl rfl rfl rfl rfl rfl rfl ⟨rfl, rfl, rfl, rfl, rfl⟩ rfl rfl rfl rfl rfl (by kernel_rfl) Tryd.func6 (by kernel_rfl)
    (of_decide_eq_true (by kernel_rfl)) (by unfold Func.isWrapper; first | (rw [if_pos (by decide +kernel)]; kernel_rfl) | (rw [if_neg (by decide +kernel)]; exact ⟨rfl, rfl⟩))
    (fun os started H enc _ F => by rw [OpenClaim.pre_eq_preRow]; exact liftedUpto os started H enc F)

theorem plain (f : FuncId) (fn : Func) (hf : Tryd.pinned.checked.prog.funcNamed "wordset/wordsetlaw02.NamesLists" = some f) (hfn : Tryd.pinned.checked.prog.funcs[f]? = some fn) :
    true = Tryd.pinned.checked.prog.looks [] ∧ ∀ (j : Nat) t, fn.params[j]? = some t → Tryd.pinned.checked.prog.wantsStandIn t = false := by
  obtain rfl : f = 6 := Option.some.inj ((show Tryd.prog.funcNamed "wordset/wordsetlaw02.NamesLists" = some 6 by kernel_rfl).symm.trans hf) |>.symm
  obtain rfl : fn = Tryd.f6 := (Option.some.inj (Tryd.func6.symm.trans hfn)).symm
  refine ⟨by kernel_rfl, fun j t ht => ?_⟩
  rw [Tryd.params6] at ht
  obtain rfl : t = 39 := by simpa using Array.mem_of_getElem? ht
  exact (show Tryd.prog.wantsStandIn 39 = false by kernel_rfl)

end Go.Proofs.YtnfdifkcchciaaaDoor.namesLists
namespace Go.Proofs.YtnfdifkcchciaaaDoor
theorem namesLists_cardUpto : Rows.NamesListsUptoCardSaid :=
  Claim7.holds_tied_plain_at .later [] _ _ _ _ namesLists.saidUpto (fun _ h => by cases h) (by kernel_rfl) (fun _ h => by cases h) namesListsUpto_row_tie rfl ⟨rfl, rfl⟩ (by kernel_rfl) rfl namesLists.plain (by kernel_rfl)
#print axioms namesLists_cardUpto
end Go.Proofs.YtnfdifkcchciaaaDoor
