import Derived.Test.YtmagchclmmphaaaGreatDoorBW
import Derived.Test.YtmagchclmmphaaaGreatDoorIt
import Derived.Test.YtmagchclmmphaaaGreatDoorVl
import Derived.Laws.Concat
namespace Go.Proofs.YtmagchclmmphaaaGreatDoor
open Go.RowKit Go.Maps
attribute [local go_sem] Oper.semAt_some

def bl : ByteArray := ⟨#[32]⟩
/-- Names, a blank ahead of each. -/
def namesT (l : List ByteArray) : ByteArray := l.foldl (fun t s => t ++ (bl ++ s)) ⟨#[]⟩
def onT (t : ByteArray) (l : List ByteArray) : ByteArray := l.foldl (fun t s => t ++ (bl ++ s)) t
theorem onT_next {t : ByteArray} {l : List ByteArray} {k : Nat} (h : k < l.length) : onT t (l.take (k + 1)) = onT t (l.take k) ++ (bl ++ l[k]) := by
  unfold onT
  rw [List.take_succ_eq_append_getElem h, List.foldl_append]; rfl
theorem bl_size (s : ByteArray) : (bl ++ s).size = 1 + s.size := by rw [ByteArray.size_append]; rfl
theorem onT_size (t : ByteArray) (l : List ByteArray) (m : Nat) (h : ∀ s ∈ l, s.size ≤ m) : (onT t l).size ≤ t.size + l.length * (m + 1) := by
  induction l generalizing t with
  | nil => simp [onT]
  | cons s l ih =>
    have h1 := ih (t ++ (bl ++ s)) (fun x hx => h x (by simp [hx]))
    have h2 := h s (by simp)
    rw [ByteArray.size_append, bl_size] at h1
    show (onT (t ++ (bl ++ s)) l).size ≤ _
    rw [List.length_cons, Nat.succ_mul]
    omega

set_option maxRecDepth 100000 in
set_option maxHeartbeats 2000000 in
theorem wnames_any (B b : Nat) (t : ByteArray) (ao : Option Addr) (cap : Nat) (l : List ByteArray) (w : World) (h : Hid (Bd B b t w)) (hB : Hid (B ≤ w.heap.size)) (hR : Hid (ReadsS w ao l)) (hl : l.length ≤ 4194304) (hs : Hid (t.size ≤ 1099511627776 ∧ ∀ s ∈ l, s.size ≤ 1048576)) (hlow : Hid (∀ g o, ao = some ⟨g, o, none⟩ → 0 < l.length → g < B)) :
    Calls Tryz.prog 55 #[.pointer (some ⟨b, 0, none⟩), .slice ao l.length cap] w fun e w' => e = .returned (.tuple #[]) ∧ Bd B b (onT t l) w' ∧ Below B w w' := by
  go_enter Tryz.func55, Tryz.ntmps55
  go_wp2_with fail
  go_loopw [8] (fun i wr => ∃ k : Nat, k ≤ l.length ∧ i = .int .i64 k ∧ Hid (Bd B b (onT t (l.take k)) wr) ∧ Hid (Below B w wr)) (fun i _ => l.length - (intOf i).toNat)
  case atStart => exact ⟨0, Nat.zero_le _, rfl, hide (by simpa [onT] using h.out), hide (Below.refl _ _)⟩
  case round =>
    obtain ⟨k, hk, rfl, HD, HB⟩ := hrel
    by_cases hlt : k < l.length
    · obtain ⟨g, o, rfl, q0⟩ := hR.out k hlt
      have hg := hlow.out g o rfl (by omega)
      have q1 := (HB.out.cell (p := ⟨g, o + k, none⟩) hg).trans q0
      have hsz := onT_size t (l.take k) 1048576 (fun s hs' => hs.out.2 s (List.mem_of_mem_take hs'))
      have hxs := hs.out.2 _ (List.getElem_mem hlt)
      have HN := hide (onT_next (t := t) hlt)
      have i2 : (k : Int) < (l.length : Int) := by omega
      have i3 : (0 : Int) ≤ (k : Int) := by omega
      obtain ⟨s, hsx⟩ : ∃ s, l[k] = s := ⟨_, rfl⟩
      rw [hsx] at q1 hxs HN
      have hle : (onT t (l.take k)).size + (⟨#[32]⟩ ++ s : ByteArray).size ≤ 140737488355328 := by
        have := bl_size s
        have h3 := hs.out.1
        rw [show (⟨#[32]⟩ ++ s : ByteArray).size = (bl ++ s).size from rfl, this]
        rw [List.length_take] at hsz
        have h4 : min k l.length * (1048576 + 1) ≤ 4194304 * (1048576 + 1) := Nat.mul_le_mul_right _ (by omega)
        omega
      have hcat : ¬ ((⟨#[32]⟩ : ByteArray).size + s.size > 9223372036854775807) := by have : (⟨#[32]⟩ : ByteArray).size = 1 := rfl; omega
      clear q0 hsx hsz hxs
      go_wp2_with fail
      refine (wstr_any B b (onT t (l.take k)) _ _ HD hle (hide (Nat.le_trans hB.out HB.out.size))).mono ?_
      rintro e w2 ⟨rfl, h2, d2, _⟩
      have HH := hide (And.intro h2 d2)
      clear hle hcat h2 d2
      go_wp2_with fail
      exact ⟨⟨k + 1, by omega, by go_num, hide (by rw [HN.out]; exact HH.out.1), hide (HB.out.trans HH.out.2)⟩, by simp [intOf]; omega⟩
    · obtain rfl : k = l.length := by omega
      have i2 : ¬ (l.length : Int) < (l.length : Int) := by omega
      go_wp2
      go_end0
      have := HD.out
      rw [List.take_length] at this
      exact ⟨rfl, this, HB.out⟩
end Go.Proofs.YtmagchclmmphaaaGreatDoor
