import Derived.Test.YtdgmokelmocejaaDoorShows
import Derived.Test.YtdgmokelmocejaaDoorKmath
namespace Go.Proofs.YtdgmokelmocejaaDoor
open Go.RowKit

theorem key_good (s : ByteArray) (b g cap : Nat) (w : World) (h : Good s) (hs : IsSet w b g cap (keyN s) (keyY s)) :
    Calls Tryd.prog 22 #[.pointer (some ⟨b, 0, none⟩)] w fun e w' => e = .returned (.string s) ∧ Below w.heap.size w w' := by
  have e : (⟨(keyPre (keyN s) (keyY s) ((keyN s + 7) / 8)).toArray⟩ : ByteArray) = s := by
    rw [keyPre_ext _ _ s h.1 rfl h.2.2.1 (fun _ _ => rfl)]
  have := key_any b g cap _ _ w hs
  rwa [e] at this

set_option maxRecDepth 100000 in
set_option maxHeartbeats 1000000 in
theorem keys_good (s : ByteArray) (w : World) (h : Good s) (hT : TabAt w) (hw0 : 0 < w.heap.size) :
    Calls Tryd.prog 4 #[.string s] w fun e w' => e = .returned (.bool true) ∧ Below w.heap.size w w' := by
  have HG := hide h
  clear h
  go_enter Tryd.func4, Tryd.ntmps4
  go_wp2_with fail
  refine (fk_good s _ HG.out).mono ?_
  rintro e w1 ⟨b, g, cs, rfl, hs1, hb, hg, hbg, hb1⟩
  have hsz1 := hb1.size
  go_wp2_with fail
  refine (rfk_good s _ HG.out).mono ?_
  rintro e w2 ⟨v, rfl, ho, hb2⟩
  obtain ⟨ao, cap, rfl, hr⟩ := owns_reads ho
  have hs2 := hs1.below hb2
  have hsz2 := hb2.size
  have hb12 : Below w.heap.size w w2 := hb1.trans (hb2.mono hsz1)
  have hT2 := hT.below hb12 hw0
  obtain ⟨n, hn⟩ : ∃ n, keyN s = n := ⟨_, rfl⟩
  obtain ⟨X, hX⟩ : ∃ X, keyY s = X := ⟨_, rfl⟩
  have HGK := fun (b g cap : Nat) (w : World) (hs : IsSet w b g cap n X) => key_good s b g cap w HG.out (by rw [hn, hX]; exact hs)
  have HK := hide HGK
  rw [hn, hX] at hs2 hr
  rw [hn, hX]
  clear ho hs1 hb1 hb2 hT hn hX HGK hb hg hbg
  go_wp2_with fail
  refine (from_short ⟨#[]⟩ _ (by decide)).mono ?_
  rintro e w3 ⟨rfl, rfl⟩
  have hA : Below w2.heap.size w2 (w2.alloc (.cells #[.int .i64 n, .slice ao (elems n X).length cap] 43)) := (Below.refl _ _).alloc (Nat.le_refl _) _
  have hs3 := hs2.below hA
  have hT3 := hT2.below hA (by omega)
  have hr3 := hr.below hA
  clear hs2 hT2 hr
  go_wp2_with fail
  refine (HK.out b g cs _ hs3).mono ?_
  rintro e w4 ⟨rfl, hb4⟩
  have hs4 := hs3.below hb4
  have hT4 := hT3.below hb4 (by simp)
  have hr4 := hr3.below hb4
  have hbx : w4.heap[w2.heap.size]? = some (.cells #[.int .i64 n, .slice ao (elems n X).length cap] 43 (0, 0)) := by rw [hb4.block _ (by simp)]; exact heap_alloc_new _ _
  have q0 : w4.cell? ⟨w2.heap.size, 0, none⟩ = some (.int .i64 n) := by rw [cell_of_row w4 _ 0 _ 43 (0, 0) hbx]; rfl
  have q1 : w4.cell? ⟨w2.heap.size, 1, none⟩ = some (.slice ao (elems n X).length cap) := by rw [cell_of_row w4 _ 1 _ 43 (0, 0) hbx]; rfl
  have hb14 : Below w.heap.size w w4 := (hb12.alloc (by omega) _).trans (hb4.mono (by simp; omega))
  clear hs3 hT3 hr3 hb4 hbx hA hb12
  go_wp2_with fail
  refine (shows_any b g cs n X cap ao 0 _ hs4 hT4 hr4).mono ?_
  rintro e w5 ⟨rfl, hb5⟩
  have hb15 : Below w.heap.size w w5 := hb14.trans (hb5.mono hb14.size)
  clear hs4 hT4 hr4 q0 q1 hb5 hb14
  go_wp2
  go_ret
  exact ⟨rfl, hb15⟩

set_option maxRecDepth 100000 in
set_option maxHeartbeats 1000000 in
theorem keys_bad (s : ByteArray) (w : World) (h : ¬ Good s) :
    Calls Tryd.prog 4 #[.string s] w fun e w' => e = .returned (.bool true) ∧ Below w.heap.size w w' := by
  have HG := hide h
  clear h
  go_enter Tryd.func4, Tryd.ntmps4
  go_wp2_with fail
  refine (fk_bad s _ HG.out).mono ?_
  rintro e w1 ⟨rfl, hb1⟩
  have hsz1 := hb1.size
  go_wp2_with fail
  refine (rfk_bad s _ HG.out).mono ?_
  rintro e w2 ⟨rfl, hb2⟩
  have hsz2 := hb2.size
  have hb12 : Below w.heap.size w w2 := hb1.trans (hb2.mono hsz1)
  clear hb1 hb2
  go_wp2_with fail
  refine (from_short ⟨#[]⟩ _ (by decide)).mono ?_
  rintro e w3 ⟨rfl, rfl⟩
  go_wp2
  go_ret
  exact ⟨rfl, hb12.alloc (by omega) _⟩

theorem keys_any (s : ByteArray) (w : World) (hT : TabAt w) (hw0 : 0 < w.heap.size) :
    Calls Tryd.prog 4 #[.string s] w fun e w' => e = .returned (.bool true) ∧ Below w.heap.size w w' := by
  by_cases h : Good s
  · exact keys_good s w h hT hw0
  · exact keys_bad s w h
end Go.Proofs.YtdgmokelmocejaaDoor
