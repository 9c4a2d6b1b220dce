import Derived.Test.YtfoahpideglghaaGreatDoorIo
import Derived.Test.YtfoahpideglghaaGreatDoorFo
namespace Go.Proofs.YtfoahpideglghaaGreatDoor.nfaImages
open Go.ChangeShapes Go.WideShapes Go.ChangeAt Go.RowKit Go.Joins frame

theorem images_any (w : World) (n m nb mb sym kk : Int) (a1 a2 a3 b1 b2 b3 q1 p1 u1 o1 : Option Addr) (c1 c2 c3 l1 d1 l2 d2 l3 d3 cq lp cp cw lo co : Nat) (St Fi Q Wd : List Int) (Ed : List EdT) (hT : Hid (TabAt w ∧ 0 < w.heap.size)) (hA : Hid (RdA w a1 a2 a3 St Fi Ed)) (hQ : Hid (RdN w q1 Q)) (hU : Hid (RdN w u1 Wd)) (h1 : St.length ≤ 1048576) (h2 : Fi.length ≤ 1048576) (h3 : Ed.length ≤ 1048576) (h4 : Q.length ≤ 1048576) (h5 : Wd.length ≤ 1048576) :
    Calls Tryz.prog 4 #[.agg #[.int .i64 n, .int .i64 m, .slice a1 St.length c1, .slice a2 Fi.length c2, .slice a3 Ed.length c3, .int .i64 nb, .int .i64 mb, .slice b1 l1 d1, .slice b2 l2 d2, .slice b3 l3 d3, .slice q1 Q.length cq, .slice p1 lp cp, .int .i64 sym, .slice u1 Wd.length cw, .int .i64 kk, .slice o1 lo co]] w fun e w' => e = .returned (.bool true) ∧ Below w.heap.size w w' := by
  rcases Decidable.em (imgErr n m St Fi Ed Q sym = 0) with hz | hz
  · have h0 : 0 ≤ n := by
      unfold imgErr at hz
      split at hz
      · rename_i hm
        exact (may_parts hm).1.1
      · cases hz
    obtain ⟨N, rfl⟩ := Int.eq_ofNat_of_zero_le h0
    exact images_ok w N m nb mb sym kk a1 a2 a3 b1 b2 b3 q1 p1 u1 o1 c1 c2 c3 l1 d1 l2 d2 l3 d3 cq lp cp cw lo co St Fi Q Wd Ed hT hA hQ hU h1 h2 h3 h4 h5 hz
  · exact images_bad w n m nb mb sym kk a1 a2 a3 b1 b2 b3 q1 p1 u1 o1 c1 c2 c3 l1 d1 l2 d2 l3 d3 cq lp cp cw lo co St Fi Q Wd Ed hT hA hQ hU h1 h2 h3 h4 h5 hz

set_option maxRecDepth 100000 in
theorem contract (H : Type) (enc : TypeId × Value → H) (W : World) (base : Nat) (args : Array Value) (ds gs : List (DataW H)) (before : List MemPlace)
    (hval : ∀ (j : Nat) t v, Tryz.f4.params[j]? = some t → args[j]? = some v → Value.okWide Tryz.prog W .any base t v)
    (hW : DataW.Whole enc Tryz.prog Tryz.f4.params.toList Rows.nfaImagesSpec.vars false W args.toList ds gs before) (hk : Rows.uptoSmall H (ds ++ gs) = true) (hL : laidMetH Tryz.prog Rows.nfaImagesUptoRow.laid W) :
    Calls Tryz.prog 4 args W fun e W' => ∃ v, e = .returned v ∧ Rows.nfaImagesSpec.post enc Tryz.prog Tryz.f4 false true false false W args v W' := by
  have hW' := hW
  obtain ⟨p, q, hA0, hV, rfl, hfz, hnd⟩ := hW
  have hA : DataW.TrodAll enc Tryz.prog W 0 (fun _ => true) true Tryz.f4.params.toList args.toList ds p := hA0
  rw [Tryz.params4] at hA hval
  obtain ⟨v0, vs0, d0, ds0, p0, q0, hargs, rfl, rfl, h0, r0⟩ := trodAll_cons hA
  obtain ⟨rfl, rfl, rfl⟩ := trodAll_nil r0
  obtain rfl : args = #[v0] := by cases args; simp_all
  obtain ⟨rfl, rfl⟩ := trodVars_none hV
  have k0 := h0
  have lt0 : ∀ x ∈ p0, x.block < W.heap.size := by obtain ⟨m, hm⟩ := k0; exact DataW.trod_lt m _ _ _ hm
  have hb : Rows.uptoBulkAll ([d0] ++ []) ≤ 1048576 := of_decide_eq_true hk
  have hb0 : Rows.uptoBulk d0 ≤ 1048576 := by
    rw [List.append_nil] at hb
    simp only [Rows.uptoBulkAll] at hb
    omega
  obtain ⟨n, m, nb, mb, sym, kk, a1, a2, a3, b1, b2, b3, q1, p1, u1, o1, c1, c2, c3, d1, d2, d3, cq, cp, cw, co, St, Fi, Sb, Fb, Q, P, Wd, To, Ed, Eb, rfl, rA, _, rQ, _, rW, _, ⟨l1, l2, l3⟩, _, l4, _, l5, _⟩ := ask_open (hval 0 27 v0 rfl rfl) h0 hb0
  clear hA0 hk hb
  have hT : TabAt W := tabAt hL
  refine (images_any W n m nb mb sym kk a1 a2 a3 b1 b2 b3 q1 p1 u1 o1 c1 c2 c3 _ d1 _ d2 _ d3 cq _ cp cw _ co St Fi Q Wd Ed (hide ⟨hT, heap_pos hT⟩) (hide rA) (hide rQ) (hide rW) l1 l2 l3 l4 l5).mono fun e W' ⟨he, bel⟩ => ?_
  subst he
  exact ⟨_, rfl, _, _, _, [], _, [], hW', trodAll_mk1 (shut_bool Tryz.underlying4 _), trodAll_cons_mk (Below.trod laidOut (by kernel_rfl) (of_decide_eq_true (by kernel_rfl)) k0 bel lt0) trodAll_mk0, rfl, bel.frame _, fun h => by cases h⟩

noncomputable def world4 (os : Os) : World := World.laidAll Tryz.prog os Rows.nfaImagesUptoRow.laid
theorem laid_met (os : Os) : laidMet Tryz.prog Rows.nfaImagesUptoRow.laid ((world4 os).forCall (fun _ _ => 0) ⟨#[], #[.agg #[.int .i64 0, .int .i64 0, .slice none 0 0, .slice none 0 0, .slice none 0 0, .int .i64 0, .int .i64 0, .slice none 0 0, .slice none 0 0, .slice none 0 0, .slice none 0 0, .slice none 0 0, .int .i64 0, .slice none 0 0, .int .i64 0, .slice none 0 0]], []⟩).memory :=
  laidMet_laidAll _ (by kernel_rfl) (by kernel_rfl)
theorem reads (os : Os) {H : Type} (enc : TypeId × Value → H) : ∃ places, DataW.whole enc Tryz.prog ((world4 os).forCall (fun _ _ => 0) ⟨#[], #[.agg #[.int .i64 0, .int .i64 0, .slice none 0 0, .slice none 0 0, .slice none 0 0, .int .i64 0, .int .i64 0, .slice none 0 0, .slice none 0 0, .slice none 0 0, .slice none 0 0, .slice none 0 0, .int .i64 0, .slice none 0 0, .int .i64 0, .slice none 0 0]], []⟩).memory Tryz.f4.params.toList Rows.nfaImagesSpec.vars false #[Value.agg #[.int .i64 0, .int .i64 0, .slice none 0 0, .slice none 0 0, .slice none 0 0, .int .i64 0, .int .i64 0, .slice none 0 0, .slice none 0 0, .slice none 0 0, .slice none 0 0, .slice none 0 0, .int .i64 0, .slice none 0 0, .int .i64 0, .slice none 0 0]].toList 8 = some ([.agg [.agg [.lit (.int .i64 0), .lit (.int .i64 0), .nil, .nil, .nil], .agg [.lit (.int .i64 0), .lit (.int .i64 0), .nil, .nil, .nil], .nil, .nil, .lit (.int .i64 0), .nil, .lit (.int .i64 0), .nil]], [], places) :=
  ⟨[], by kernel_rfl⟩

set_option maxRecDepth 100000 in
theorem liftedUpto (os : Os) (started : os.Started) (H : Type) (enc : TypeId × Value → H) (F : Stop.Interp) :
    ReturnsInHanded {} Tryz.checked os 4 .any ((Rows.OpenSpec.upto Rows.nfaImagesSpec).preRow enc Tryz.prog Tryz.f4 Rows.nfaImagesUptoRow.domain false Rows.nfaImagesUptoRow.laid) (((Rows.OpenSpec.upto Rows.nfaImagesSpec).at F).post enc Tryz.prog Tryz.f4 false true false false) := by
  obtain ⟨places, hx⟩ := reads os enc
  refine returnsInHanded_of_row (C := Tryz.checked) (s := Rows.OpenSpec.upto Rows.nfaImagesSpec) own started (by kernel_rfl) Tryz.func4
    (witness_row_at (enc := enc) (C := Tryz.checked) false (world4 os) #[.agg #[.int .i64 0, .int .i64 0, .slice none 0 0, .slice none 0 0, .slice none 0 0, .int .i64 0, .int .i64 0, .slice none 0 0, .slice none 0 0, .slice none 0 0, .slice none 0 0, .slice none 0 0, .int .i64 0, .slice none 0 0, .int .i64 0, .slice none 0 0]] (World.laidAll_os _ _ _) (by kernel_rfl) (by kernel_rfl) (by kernel_rfl)
      (OpenSpec.preRow_of_cond 8 hx (by kernel_rfl) (fun k hk => by cases hk; kernel_rfl) (by kernel_rfl) (laid_met os))) ?_
  intro W base args ds gs before hval hW _ hcond _ hL _ _
  exact contract H enc W base args ds gs before hval hW (hcond _ rfl) hL

theorem saidUpto : Rows.NfaImagesUptoSaid :=
  OpenClaim.holds_of_cond 4 Tryz.f4 rfl rfl rfl rfl rfl rfl rfl ⟨rfl, rfl, rfl, rfl, rfl⟩ rfl rfl rfl rfl rfl (by kernel_rfl) Tryz.func4 (by kernel_rfl)
    (of_decide_eq_true (by kernel_rfl)) (by unfold Func.isWrapper; first | (rw [if_pos (by decide +kernel)]; kernel_rfl) | (rw [if_neg (by decide +kernel)]; exact ⟨rfl, rfl⟩))
    (fun os started H enc _ F => by rw [OpenClaim.pre_eq_preRow]; exact liftedUpto os started H enc F)

theorem plain (f : FuncId) (fn : Func) (hf : Tryz.pinned.checked.prog.funcNamed "wordset/wordsetlaw06.NfaImages" = some f) (hfn : Tryz.pinned.checked.prog.funcs[f]? = some fn) :
    false = Tryz.pinned.checked.prog.looks [] ∧ ∀ (j : Nat) t, fn.params[j]? = some t → Tryz.pinned.checked.prog.wantsStandIn t = false := by
  obtain rfl : f = 4 := Option.some.inj ((show Tryz.prog.funcNamed "wordset/wordsetlaw06.NfaImages" = some 4 by kernel_rfl).symm.trans hf) |>.symm
  obtain rfl : fn = Tryz.f4 := (Option.some.inj (Tryz.func4.symm.trans hfn)).symm
  refine ⟨by kernel_rfl, fun j t ht => ?_⟩
  rw [Tryz.params4] at ht
  obtain rfl : t = 27 := by simpa using Array.mem_of_getElem? ht
  exact (show Tryz.prog.wantsStandIn 27 = false by kernel_rfl)

end Go.Proofs.YtfoahpideglghaaGreatDoor.nfaImages
namespace Go.Proofs.YtfoahpideglghaaGreatDoor
theorem nfaImages_cardUpto : Rows.NfaImagesUptoCardSaid :=
  Claim7.holds_tied_plain_at .later [] _ _ _ _ nfaImages.saidUpto (fun _ h => by cases h) (by kernel_rfl) (fun _ h => by cases h) nfaImagesUpto_row_tie rfl ⟨rfl, rfl⟩ (by kernel_rfl) rfl nfaImages.plain (by kernel_rfl)
#print axioms nfaImages_cardUpto
end Go.Proofs.YtfoahpideglghaaGreatDoor
