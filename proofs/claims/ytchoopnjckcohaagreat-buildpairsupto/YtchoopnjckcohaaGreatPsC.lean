import Derived.Test.YtchoopnjckcohaaGreatQaf
set_option maxRecDepth 100000
set_option maxHeartbeats 40000000
namespace Go.Proofs.YtchoopnjckcohaaGreat.buildPairs
open Go.Proofs.Tryz
open Go.ChangeShapes Go.WideShapes Go.ChangeAt Go.RowKit Go.Joins frame
theorem L6 (H : Type) (enc : TypeId × Value → H) (W : World) (base : Nat) (args : Array Value) (ds gs : List (DataW H)) (before : List MemPlace)
 (hval : ∀ (j : Nat) t v, Tryz.f4.params[j]? = some t → args[j]? = some v → Value.okWide prog W .any base t v)
 (hW : DataW.Whole enc prog Tryz.f4.params.toList Rows.buildPairsSpec.vars false W args.toList ds gs before) (hk : Rows.uptoSmall H (ds ++ gs) = true) (_hL : laidMetH prog Rows.buildPairsUptoRow.laid W) :
 Calls prog 4 args W fun e W' => ∃ v, e = .returned v ∧ Rows.buildPairsSpec.post enc prog Tryz.f4 false true false false W args v W' := by
 have hW' := hW
 obtain ⟨p, q, hA0, hV, rfl, hfz, Ng⟩ := hW
 have hA : DataW.TrodAll enc prog W 0 (fun _ => true) true Tryz.f4.params.toList args.toList ds p := hA0
 rw [Tryz.params4] at hA hval
 obtain ⟨v0, vs0, d0, ds0, p0, q0, hargs, rfl, rfl, h0, r0⟩ := trodAll_cons hA
 obtain ⟨rfl, rfl, rfl⟩ := trodAll_nil r0
 obtain rfl : args = #[v0] := by cases args; simp_all
 obtain ⟨rfl, rfl⟩ := trodVars_none hV
 have k0 := h0
 have lt0 : ∀ x ∈ p0, x.block < W.heap.size := by obtain ⟨m, hm⟩ := k0; exact DataW.trod_lt m _ _ _ hm
 have hb : Rows.uptoBulkAll ([d0] ++ []) ≤ 1048576 := of_decide_eq_true hk
 have hb0 : Rows.uptoBulk d0 ≤ 1048576 := by
  rw [List.append_nil] at hb
  simp only [Rows.uptoBulkAll] at hb
  omega
 obtain ⟨n, m, n', m', s, bu, a1, a2, a3, b1, b2, b3, aw, c1, c2, c3, e1, e2, e3, cw, St, Fi, Sb, Fb, Wd, Ed, Eb, rfl, rA, rB, _, lA, lB, _, zA, zB, _⟩ := Om (hval 0 38 v0 rfl rfl) h0 hb0
 clear hA0 hk hb
 refine (J8 W n m n' m' s bu a1 a2 a3 b1 b2 b3 aw St.length Fi.length Ed.length Sb.length Fb.length Eb.length Wd.length c1 c2 c3 e1 e2 e3 cw St Fi Sb Fb Ed Eb (A0 ⟨rfl, rfl, rfl, rfl, rfl, rfl⟩) (A0 rA) (A0 rB) lA.1 lA.2.1 lA.2.2 lB.1 lB.2.1 lB.2.2 zA.2.2.2 zB.2.2.2 (A0 ⟨zA.1, zA.2.1, zA.2.2.1⟩) (A0 ⟨zB.1, zB.2.1, zB.2.2.1⟩)).mono fun e W' ⟨he, bel⟩ => ?_
 subst he
 exact ⟨_, rfl, _, _, _, [], _, [], hW', trodAll_mk1 (shut_bool underlying4 _), trodAll_cons_mk (Below.trod Nl (by kernel_rfl) (of_decide_eq_true (by kernel_rfl)) k0 bel lt0) trodAll_mk0, rfl, bel.frame _, fun h => by cases h⟩
noncomputable def world4 (os : Os) : World := World.laidAll prog os Rows.buildPairsUptoRow.laid
theorem Lm (os : Os) : laidMet prog Rows.buildPairsUptoRow.laid ((world4 os).forCall (fun _ _ => 0) ⟨#[], #[.agg #[.int .i64 0, .int .i64 0, .slice none 0 0, .slice none 0 0, .slice none 0 0, .int .i64 0, .int .i64 0, .slice none 0 0, .slice none 0 0, .slice none 0 0, .slice none 0 0, .int .i64 0, .int .i64 0]], []⟩).memory :=
 laidMet_laidAll _ (by kernel_rfl) (by kernel_rfl)
theorem reads (os : Os) {H : Type} (enc : TypeId × Value → H) : ∃ places, DataW.whole enc prog ((world4 os).forCall (fun _ _ => 0) ⟨#[], #[.agg #[.int .i64 0, .int .i64 0, .slice none 0 0, .slice none 0 0, .slice none 0 0, .int .i64 0, .int .i64 0, .slice none 0 0, .slice none 0 0, .slice none 0 0, .slice none 0 0, .int .i64 0, .int .i64 0]], []⟩).memory Tryz.f4.params.toList Rows.buildPairsSpec.vars false (#[Value.agg #[.int .i64 0, .int .i64 0, .slice none 0 0, .slice none 0 0, .slice none 0 0, .int .i64 0, .int .i64 0, .slice none 0 0, .slice none 0 0, .slice none 0 0, .slice none 0 0, .int .i64 0, .int .i64 0]] : Array Value).toList 8 = some ([.agg [.agg [.lit (.int .i64 0), .lit (.int .i64 0), .nil, .nil, .nil], .agg [.lit (.int .i64 0), .lit (.int .i64 0), .nil, .nil, .nil], .nil, .lit (.int .i64 0), .lit (.int .i64 0)]], [], places) :=
 ⟨[], by kernel_rfl⟩
theorem J9 (os : Os) (started : os.Started) (H : Type) (enc : TypeId × Value → H) (F : Stop.Interp) :
 ReturnsInHanded {} Tryz.checked os 4 .any ((Rows.OpenSpec.upto Rows.buildPairsSpec).preRow enc prog Tryz.f4 Rows.buildPairsUptoRow.domain false Rows.buildPairsUptoRow.laid) (((Rows.OpenSpec.upto Rows.buildPairsSpec).at F).post enc prog Tryz.f4 false true false false) := by
 obtain ⟨places, hx⟩ := reads os enc
 refine returnsInHanded_of_row (C := Tryz.checked) (s := Rows.OpenSpec.upto Rows.buildPairsSpec) Q8 started (by kernel_rfl) func4
  (witness_row_at (enc := enc) (C := Tryz.checked) false (world4 os) #[.agg #[.int .i64 0, .int .i64 0, .slice none 0 0, .slice none 0 0, .slice none 0 0, .int .i64 0, .int .i64 0, .slice none 0 0, .slice none 0 0, .slice none 0 0, .slice none 0 0, .int .i64 0, .int .i64 0]] (World.laidAll_os _ _ _) (by kernel_rfl) (by kernel_rfl) (by kernel_rfl)
   (OpenSpec.preRow_of_cond 8 hx (by kernel_rfl) (fun k hk => by cases hk; kernel_rfl) (by kernel_rfl) (Lm os))) ?_
 intro W base args ds gs before hval hW _ hcond _ hL _ _
 exact L6 H enc W base args ds gs before hval hW (hcond _ rfl) hL
theorem saidUpto : Rows.BuildPairsUptoSaid :=
 OpenClaim.holds_of_cond 4 Tryz.f4 rfl rfl rfl rfl rfl rfl rfl ⟨rfl, rfl, rfl, rfl, rfl⟩ rfl rfl rfl rfl rfl (by kernel_rfl) func4 (by kernel_rfl)
  (of_decide_eq_true (by kernel_rfl)) (by unfold Func.isWrapper; first | (rw [if_pos (by decide +kernel)]; kernel_rfl) | (rw [if_neg (by decide +kernel)]; exact ⟨rfl, rfl⟩))
  (fun os started H enc _ F => by rw [OpenClaim.pre_eq_preRow]; exact J9 os started H enc F)
end Go.Proofs.YtchoopnjckcohaaGreat.buildPairs
namespace Go.Proofs.YtchoopnjckcohaaGreat
open Go.Proofs.Tryz
theorem buildPairs_upto : Rows.BuildPairsUptoSaid := buildPairs.saidUpto
#print axioms buildPairs_upto
end Go.Proofs.YtchoopnjckcohaaGreat
