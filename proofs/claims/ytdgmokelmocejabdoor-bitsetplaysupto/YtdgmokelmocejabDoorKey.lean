import Derived.Test.YtdgmokelmocejabDoorNext
import Derived.Deep.RegionHeld3
import Derived.Deep.AppendLies
namespace Go.Proofs.YtdgmokelmocejabDoor
open Go.RowKit

theorem info5 : (Tryd.prog.info? 5).map (fun i => (i.zero, i.size, i.bytes)) = some (some (.int .u8 0), 1, 1) := by kernel_rfl

/-- The first bytes of a set's key: n in two bytes, then k bytes of X. -/
def keyPre (n X k : Nat) : List UInt8 := UInt8.ofNat (n / 256) :: UInt8.ofNat n :: (List.range k).map fun i => UInt8.ofNat (X / 2 ^ (8 * i))
def u8V (l : List UInt8) : List Value := l.map fun c => .int .u8 c.toNat

theorem keyPre_length (n X k : Nat) : (keyPre n X k).length = 2 + k := by simp [keyPre]; omega
theorem keyPre_succ (n X k : Nat) : u8V (keyPre n X (k + 1)) = u8V (keyPre n X k) ++ [.int .u8 (UInt8.ofNat (X / 2 ^ (8 * k))).toNat] := by
  simp [keyPre, u8V, List.range_succ]

theorem key_byte (X k : Nat) : (wordAt X (k * 8 / 64) : Int) / 2 ^ (k * 8 % 64) % 256 = ((UInt8.ofNat (X / 2 ^ (8 * k))).toNat : Int) := by
  have e1 : (wordAt X (k * 8 / 64) : Int) / 2 ^ (k * 8 % 64) % 256 = ((wordAt X (k * 8 / 64) / 2 ^ (k * 8 % 64) % 256 : Nat) : Int) := by
    simp
  rw [e1, UInt8.toNat_ofNat']
  congr 1
  show X / 2 ^ (64 * (k * 8 / 64)) % 2 ^ 64 / 2 ^ (k * 8 % 64) % 2 ^ 8 = X / 2 ^ (8 * k) % 2 ^ 8
  apply Nat.eq_of_testBit_eq
  intro i
  simp only [Nat.testBit_mod_two_pow, Nat.testBit_div_two_pow]
  by_cases h : i < 8
  · have h2 : i + k * 8 % 64 < 64 := by omega
    have h3 : i + k * 8 % 64 + 64 * (k * 8 / 64) = i + 8 * k := by omega
    simp [h2, h3]
  · simp [h]

theorem conv_key (w : World) (gk ck k n X base : Nat) (h : w.ownsRow base 5 1 (.slice (some ⟨gk, 0, none⟩) (2 + k) ck) (2 + k) (u8V (keyPre n X k))) :
    (convert 63 9 (.slice (some ⟨gk, 0, none⟩) (2 + k) ck)).run Tryd.prog w = .ok (.string ⟨(keyPre n X k).toArray⟩) w := by
  have := run_convert_bytes_back (P := Tryd.prog) w 63 9 5 ⟨gk, 0, none⟩ ck (keyPre n X k) Tryd.underlying63 Tryd.underlying5 Tryd.underlying9 (fun j hj => h.cells (g := gk) rfl j _ (by simp [u8V, hj]))
  rwa [keyPre_length] at this

set_option maxRecDepth 100000 in
set_option maxHeartbeats 1000000 in
theorem key_any (b g cap n X : Nat) (w : World) (hs : IsSet w b g cap n X) :
    Calls Tryd.prog 7 #[.pointer (some ⟨b, 0, none⟩)] w fun e w' => e = .returned (.string ⟨(keyPre n X ((n + 7) / 8)).toArray⟩) ∧ Below w.heap.size w w' := by
  have h0 := hs.c0
  have h1 := hs.c1
  have hn := hs.hn
  have hblt := hs.blt
  have hglt := hs.glt
  have hword := hs.word
  clear hs
  obtain ⟨i0, hi, hz0, hz1, hz2⟩ := info_parts info5
  go_enter Tryd.func7, Tryd.ntmps7
  go_wp2_with (first | (go_at_call 28; refine (keyBytes_any n _ (by omega) (by omega)).mono ?_; rintro e w' ⟨rfl, hw⟩; obtain rfl := hw.symm; clear hw) | (at_make; refine wpList_make_own _ rfl _ _ 63 rfl w.heap.size 5 i0 (.int .u8 0) 1 Tryd.underlying63 hi hz0 hz1 _ _ _ (2 + (n + 7) / 8) rfl rfl (by omega) ?_ ?_ ?_ ?_))
  · rw [hz2]; omega
  · unfold maxLen; omega
  · exact Nat.le_refl _
  · intro w1 hown hgrow
    have hb1 : Below w.heap.size w w1 := (Below.refl _ _).grown hgrow (Nat.le_refl _) (by intro k hk; cases hk)
    have hs1 : w.heap.size < w1.heap.size := (hown.lt _ rfl).2
    have h01 : w1.cell? ⟨b, 0, none⟩ = some (.int .i64 n) := (hb1.cell hblt).trans h0
    go_wp2_with fail
    go_region_held3 (fun w' => w'.cell? ⟨b, 0, none⟩ = some (.int .i64 n)) (first | go_keep | (rw [hgr2.cell_far _ (by simp; omega) (by simp [Value.ownBlock]; omega)]; assumption))
      ((refine step_append_lies _ (by rfl) _ _ _ (by rfl) w.heap.size 5 i0 _ 1 1 Tryd.underlying63 hi hz0 hz1 hz2 rfl (by omega) _ 0 [] (by rfl) ((hown.alloc _).drew) ⟨w1.heap.size, 0, none⟩ 2 2 [.int .u8 (UInt8.ofNat (n / 256)).toNat, .int .u8 (UInt8.ofNat n).toNat] (by rfl) (by rfl) (World.news_of_block (cs := #[.int .u8 (UInt8.ofNat (n / 256)).toNat, .int .u8 (UInt8.ofNat n).toNat]) (t := 5) (fr := (0, 0)) (heap_alloc_new w1 _)) (by simp [Value.oneCell']) (by omega) (by unfold maxLen; omega) (by omega) (by simp; omega) (w1.heap.size + 1) (by simp) ?_; intro gg cap2 w2 hown2 hgr2 hat hlt))
    have hs2 := hgr2.size
    have hb2 : Below w.heap.size w w2 := (((hb1.alloc (by omega) _).drew).grown hgr2 (by simp; omega) (by intro k hk; simp [Value.ownBlock] at hk; omega))
    clear hgr2 hown hgrow hb1 h01
    simp only [List.nil_append, Nat.zero_add] at hown2
    go_wp2
    go_loopw [4, 29] (fun v i wr => ∃ (k gk ck : Nat), k ≤ (n + 7) / 8 ∧ i = .int .i64 k ∧ v = .slice (some ⟨gk, 0, none⟩) (2 + k) ck ∧ wr.ownsRow w.heap.size 5 1 (.slice (some ⟨gk, 0, none⟩) (2 + k) ck) (2 + k) (u8V (keyPre n X k)) ∧ Below w.heap.size w wr) (fun _ i _ => (n + 7) / 8 - (intOf i).toNat)
    case atStart => exact ⟨0, gg, cap2, Nat.zero_le _, rfl, rfl, hown2, hb2⟩
    case round =>
      obtain ⟨k, gk, ck, hk, rfl, rfl, hownr, hbr⟩ := hrel
      clear hown2 hb2 hs2 hat hlt
      by_cases hlt : k < (n + 7) / 8
      · have hsr := hbr.size
        have hgk := hownr.lt gk rfl
        have hc1 : wr.cell? ⟨b, 1, none⟩ = some (.slice (some ⟨g, 0, none⟩) (nw n) cap) := (hbr.cell hblt).trans h1
        have hcw : wr.cell? ⟨g, k * 8 / 64, none⟩ = some (.int .u64 (wordAt X (k * 8 / 64))) := (hbr.cell hglt).trans (hword _ (by unfold nw; omega))
        have hix : k * 8 / 64 < nw n := by unfold nw; omega
        clear hword h0 h1
        obtain ⟨c, hc⟩ : ∃ c : Nat, c = (UInt8.ofNat (X / 2 ^ (8 * k))).toNat := ⟨_, rfl⟩
        have hV : (wordAt X (k * 8 / 64) : Int) / 2 ^ (k * 8 % 64) % 256 = (c : Int) := by rw [hc]; exact key_byte X k
        have HC : Hid (c = (UInt8.ofNat (X / 2 ^ (8 * k))).toNat) := hc
        clear hc
        go_wp2_with (at_builtin; refine wpList_append_lies _ rfl _ _ _ rfl w.heap.size 5 i0 _ 1 1 Tryd.underlying63 hi hz0 hz1 hz2 rfl (by omega) _ (2 + k) (u8V (keyPre n X k)) rfl (hownr.alloc _) ⟨wr.heap.size, 0, none⟩ 1 1 [.int .u8 c] rfl rfl (World.news_of_block (cs := #[.int .u8 c]) (t := 5) (fr := (0, 0)) (heap_alloc_new wr _)) (by simp [Value.oneCell']) (by omega) (by unfold maxLen; omega) (by omega) (by simp; omega) (wr.heap.size + 1) (by simp) ?_)
        intro g3 cap3 w3 hown3 hgr3 hat3 hlt3
        have hb3 : Below w.heap.size w w3 := (hbr.alloc (by omega) _).grown hgr3 (by simp; omega) (by intro q hq; simp [Value.ownBlock] at hq; omega)
        have hown4 : w3.ownsRow w.heap.size 5 1 (.slice (some ⟨g3, 0, none⟩) (2 + (k + 1)) cap3) (2 + (k + 1)) (u8V (keyPre n X (k + 1))) := by
          rw [HC.out] at hown3
          rw [keyPre_succ]
          exact hown3
        clear hgr3 hown3 hownr hbr hat3 hc1 hcw
        go_wp2
        go_roundw
        case rel => exact ⟨_, _, _, _, _, _, _, _, _, _, _, _, _, _, _, _, _, _, _, _, _, _, _, ⟨k + 1, g3, cap3, by omega, by go_num, rfl, hown4, hb3⟩, rfl⟩
        case measure => simp [intOf]; omega
      · have hke : k = (n + 7) / 8 := by omega
        have HK : Hid (k = (n + 7) / 8) := hke
        clear hke hword h0 h1
        have hcv := conv_key wr gk ck k n X w.heap.size hownr
        go_wp2
        go_ret
        have := HK.out
        subst this
        exact ⟨rfl, hbr⟩
end Go.Proofs.YtdgmokelmocejabDoor
