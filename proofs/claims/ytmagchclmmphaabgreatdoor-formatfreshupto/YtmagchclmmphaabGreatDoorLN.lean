import Derived.Test.YtmagchclmmphaabGreatDoorNP
namespace Go.Proofs.YtmagchclmmphaabGreatDoor
open Go.RowKit Go.Maps Go.Sort Go.Proofs

theorem grow_nil (W : World) : grow W #[] = W := by simp [grow]
/-- A list's numbers, rising, each once. -/
def riseL (zs : List Int) : List Int := Lib.compact (zs.mergeSort fun x y => decide (x ≤ y))
theorem compact_len (zs : List Int) : (Lib.compact zs).length ≤ zs.length := by
  unfold Lib.compact Lib.compactUpTo
  rw [List.length_map]
  exact Nat.le_trans (List.length_filter_le _ _) (by simp)

set_option maxRecDepth 100000 in
set_option maxHeartbeats 1000000 in
theorem rising_any (w : World) (g o cap : Nat) (zs : List Int) (hl : zs.length ≤ 67108864) (hc : Hid (∀ j, j < zs.length → w.cell? ⟨g, o + j, none⟩ = some (.int .i64 (zs.getD j 0)))) :
    Calls Tryz.prog 36 #[.slice (some ⟨g, o, none⟩) zs.length cap] w fun e w' => ∃ g' c', e = .returned (.slice (some ⟨g', 0, none⟩) (riseL zs).length c') ∧ (∀ j (h : j < (riseL zs).length), w'.cell? ⟨g', j, none⟩ = some (.int .i64 (riseL zs)[j])) ∧ Below w.heap.size w w' := by
  go_enter Tryz.func36, Tryz.ntmps36
  go_wp2_with fail
  refine (Tryz.slices_Clone_int g o zs.length cap zs w (Nat.le_refl _) (by omega) hc.out).mono ?_
  rintro e w1 ⟨v, rfl, hown, hne, d1⟩
  rcases hown.2 with ⟨hv, _⟩ | ⟨g', c', cur, rfl, hb, hg, hnc, hcm, hcs, htake⟩
  · exact absurd hv hne
  rw [List.take_length, Nat.mul_one] at htake
  have hglt : g' < w1.heap.size := (Array.getElem?_eq_some_iff.1 hg).1
  have HH := hide (holds_of_blockI hg htake)
  have HK := hide (And.intro hg (And.intro hb (And.intro hnc (And.intro hcm (And.intro hcs d1)))))
  clear hown hne hg hb hnc hcm hcs d1 htake
  go_wp2_with fail
  refine (Tryz.slices_Sort_int g' 0 c' zs w1 HH.out hglt (by omega)).mono ?_
  rintro e w2 ⟨rfl, n, os, hw2⟩
  obtain ⟨ts, hts⟩ : ∃ ts, zs.mergeSort (fun x y => decide (x ≤ y)) = ts := ⟨_, rfl⟩
  have htl : ts.length = zs.length := by rw [← hts]; simp
  rw [hts] at hw2
  have hb2 : w2.heap[g']? = some (.cells (putCells (Value.int .i64) 0 ts.toArray cur) 3 (0, 0)) := by rw [hw2]; exact heap_sortedI _ HK.out.1
  have hg2 : w1.grownBy w2 (some g') := by rw [hw2]; exact grownBy_sortedI _
  have hsz2 : (putCells (Value.int .i64) 0 ts.toArray cur).size = c' * 1 := by simp [putCells, HK.out.2.2.2.2.1]
  have hH2 := hide (holds_of_blockI hb2 (take_putCellsI cur ts (by have := HK.out.2.2.2.2.1; have := HK.out.2.2.1; omega)))
  have hcap2 : ts.length ≤ c' := by have := HK.out.2.2.1; omega
  rw [← htl]
  have HT := hide (And.intro hts (And.intro htl (And.intro hb2 (And.intro hg2 hsz2))))
  clear hw2 hb2 hg2 hsz2 hts htl
  go_wp2_with fail
  refine (Tryz.slices_Compact_int g' 0 c' ts w2 hH2.out (by have := HT.out.2.1; omega) hcap2).mono ?_
  rintro e w3 ⟨rfl, q, hw3⟩
  have HW := hide hw3
  clear hw3
  go_wp2
  go_ret
  obtain ⟨hts, htl, hb2, hg2, hsz2⟩ := HT.out
  have hw3 := HW.out
  rw [← grow_nil (putRow _ _ _ _ _)] at hw3
  have hlen : (Lib.compact ts ++ List.replicate (ts.length - (Lib.compact ts).length) 0).length = ts.length := by
    have := compact_len ts
    rw [List.length_append, List.length_replicate]; omega
  have hrow := ownsRow_sortedI (n := q) (os := #[]) hlen (Nat.zero_le g') hb2 hcap2 HK.out.2.2.2.1 hsz2
  rw [← hw3] at hrow
  have hg3 : w2.grownBy w3 (some g') := by rw [hw3]; exact grownBy_sortedI _
  have er : riseL zs = Lib.compact ts := by unfold riseL; rw [hts]
  rw [er]
  refine ⟨g', c', rfl, fun j hj => ?_, ?_⟩
  · have hjt : j < ts.length := Nat.lt_of_lt_of_le hj (compact_len ts)
    rw [hrow.cellAt j (by omega), List.getElem?_map, List.getElem?_append_left hj, List.getElem?_eq_getElem hj]
    rfl
  · have d1 := HK.out.2.2.2.2.2
    have hgb := HK.out.2.1
    exact (d1.grown hg2 d1.size (fun k hk => by cases hk; exact hgb)).grown hg3 (Nat.le_trans d1.size hg2.size) (fun k hk => by cases hk; exact hgb)
end Go.Proofs.YtmagchclmmphaabGreatDoor
namespace Go.Proofs.YtmagchclmmphaabGreatDoor
open Go.RowKit Go.Maps

/-- Where a text stands in a list. -/
def posOf (S : List ByteArray) (s : ByteArray) : Nat := S.findIdx fun x => decide (x = s)
theorem posOf_eq {S : List ByteArray} {s : ByteArray} {n : Nat} (h : S.Nodup) (hn : S[n]? = some s) : posOf S s = n := by
  obtain ⟨hlt, he⟩ := List.getElem?_eq_some_iff.1 hn
  unfold posOf
  refine (List.findIdx_eq hlt).2 ⟨by simp [he], fun j hj => ?_⟩
  rw [decide_eq_false_iff_not]
  intro e
  have := (List.pairwise_iff_getElem.1 h) j n (by omega) hlt hj
  exact this (by rw [e, he])

/-- What has been read of a file: which line comes next, the title, the lists, the final states' places. -/
structure AS where
  pl : Nat
  ti : ByteArray
  O : List OpT
  S : List ByteArray
  N : List Nat
  R : List RuT
/-- How a line's pieces are taken. -/
inductive TakesL : AS → List ByteArray → AS → Prop
  | nil (a : AS) : TakesL a [] a
  | ops (a : AS) (h : ByteArray) (M : List ByteArray) (P : List (ByteArray × ByteArray)) (hp : a.pl = 0) (hP : Prs M P) : TakesL a (h :: M) { a with pl := 1, O := (P.map opB).foldl sadd a.O }
  | title (a : AS) (h s : ByteArray) (M : List ByteArray) (hp : a.pl = 1) : TakesL a (h :: s :: M) { a with pl := 2, ti := s }
  | states (a : AS) (h : ByteArray) (M : List ByteArray) (hp : a.pl = 2) : TakesL a (h :: M) { a with pl := 3, S := M.foldl sadd a.S }
  | final (a : AS) (h h2 : ByteArray) (M : List ByteArray) (hp : a.pl = 3) : TakesL a (h :: h2 :: M) { a with pl := 4, S := M.foldl sadd a.S, N := M.map (posOf (M.foldl sadd a.S)) }
  | trans (a : AS) (h : ByteArray) (M : List ByteArray) (hp : a.pl = 4) : TakesL a (h :: M) { a with pl := 5 }
  | rule2 (a : AS) (s1 s3 : ByteArray) (hp : a.pl = 5) : TakesL a [s1, s3] { a with O := sadd a.O (s1, 0), S := sadd a.S s3, R := sadd a.R (s1, ⟨#[]⟩, s3) }
  | rule3 (a : AS) (s1 s2 s3 : ByteArray) (hp : a.pl = 5) (hne : s2 ≠ ⟨#[]⟩) : TakesL a [s1, s2, s3] { a with O := sadd a.O (s1, 1), S := sadd (sadd a.S s2) s3, R := sadd a.R (s1, s2, s3) }

/-- A reader that has read so much. -/
structure RdA (n0 b : Nat) (W : World) (r : RS) (a : AS) : Prop where
  rd : Rd n0 b W r
  pl : r.pl = a.pl
  ti : r.ti = a.ti
  O : r.O = a.O
  S : r.S = a.S
  R : r.R = a.R
  fin : 4 ≤ a.pl → ∃ q, r.F = .slice (some ⟨q, 0, none⟩) a.N.length a.N.length ∧ W.ownsRow n0 3 1 r.F a.N.length (intV a.N) ∧ ¬ RB b r q
theorem RdA.carry {n0 b : Nat} {W W' : World} {r r' : RS} {a a' : AS} (h : RdA n0 b W r a) (hs : Stp n0 b W r W' r') (hF : r'.F = r.F) (hN : a'.N = a.N) (h4 : 4 ≤ a'.pl → 4 ≤ a.pl) (h1 : r'.pl = a'.pl) (h2 : r'.ti = a'.ti) (h3 : r'.O = a'.O) (h5 : r'.S = a'.S) (h6 : r'.R = a'.R) : RdA n0 b W' r' a' := by
  refine ⟨hs.rd, h1, h2, h3, h5, h6, fun hp => ?_⟩
  obtain ⟨q, e, ho, nb⟩ := h.fin (h4 hp)
  have hq : ∀ k, r.F.ownBlock = some k → k = q := fun k hk => by rw [e] at hk; simp [Value.ownBlock] at hk; exact hk.symm
  have hlt : q < W.heap.size := (ho.lt q (by rw [e]; rfl)).2
  refine ⟨q, by rw [hF, hN]; exact e, by rw [hF, hN]; exact hs.row ho (fun k hk => by rw [hq k hk]; exact nb), fun x => ?_⟩
  rcases hs.new q x with y | y
  · exact nb y
  · omega

theorem take_line (n0 b : Nat) (w : World) (r : RS) (a a' : AS) (g o cap : Nat) (L : List ByteArray) (h : RdA n0 b w r a) (hL : LnS w b r (some ⟨g, o, none⟩) L) (ht : TakesL a L a') (hcap : L.length ≤ cap) (hok : ∀ s ∈ L, s.size ≤ 1048576) (hl : a.O.length + L.length ≤ 67000000 ∧ a.S.length + L.length ≤ 67000000 ∧ a.R.length + L.length ≤ 67000000) :
    Calls Tryz.prog 81 #[.pointer (some ⟨b, 0, none⟩), .slice (some ⟨g, o, none⟩) L.length cap] w fun e w' => e = .returned (.tuple #[]) ∧ ∃ r', Stp n0 b w r w' r' ∧ RdA n0 b w' r' a' := by
  cases ht with
  | nil =>
    refine (take_nil b w _ cap).mono ?_
    rintro e w' ⟨rfl, rfl⟩
    have s := Stp.same h.rd (Below.refl _ _)
    exact ⟨rfl, r, s, h⟩
  | ops hd M P hp hP =>
    refine (take_ops n0 b w r g o cap hd M P (M.length + 1) (hide h.rd) (hide (h.pl.trans hp)) (hide rfl) (hide hL) (hide hP) (hide (by rw [h.O]; have := hP.len; simp at hl; omega)) (by simpa using hcap)).mono ?_
    rintro e w' ⟨rfl, v, m, s⟩
    exact ⟨rfl, _, s, h.carry s rfl rfl (fun q => by simp at q) rfl h.ti (by simp [h.O]) h.S h.R⟩
  | title hd s M hp =>
    obtain ⟨g', o', e', c, _⟩ := hL 1 (by simp)
    cases e'
    refine (take_title n0 b w r g o (M.length + 2) cap s (hide h.rd) (hide (h.pl.trans hp)) (by omega) c).mono ?_
    rintro e w' ⟨rfl, s⟩
    exact ⟨rfl, _, s, h.carry s rfl rfl (fun q => by simp at q) rfl rfl h.O h.S h.R⟩
  | states hd M hp =>
    refine (take_states n0 b w r g o cap hd M (M.length + 1) (hide h.rd) (hide (h.pl.trans hp)) (hide rfl) (hide hL) (hide (fun s hs => hok s (by simp [hs]))) (hide (by rw [h.S]; simp at hl; omega)) (by simpa using hcap)).mono ?_
    rintro e w' ⟨rfl, v, m, s⟩
    exact ⟨rfl, _, s, h.carry s rfl rfl (fun q => by simp at q) rfl h.ti h.O (by simp [h.S]) h.R⟩
  | final hd h2 M hp =>
    refine (take_final n0 b w r g o cap hd h2 M (M.length + 2) (hide h.rd) (hide (h.pl.trans hp)) (hide rfl) (hide hL) (hide (fun s hs => hok s (by simp [hs]))) (hide (by rw [h.S]; simp at hl; omega)) (by simpa using hcap)).mono ?_
    rintro e w' ⟨rfl, v, m, N, F⟩
    have hN : N = M.map (posOf (M.foldl sadd a.S)) := by
      apply List.ext_getElem (by simp [F.nl])
      intro j h1 h2
      have hjM : j < M.length := by simpa using h2
      have q := F.num j h1
      rw [List.getElem?_eq_getElem hjM, h.S] at q
      have nd : (M.foldl sadd a.S).Nodup := by have := F.st.rd.ss.nod; simpa [h.S] using this
      rw [List.getElem_map, posOf_eq nd q]
    refine ⟨rfl, _, F.st, ⟨F.st.rd, rfl, h.ti, h.O, by simp [h.S], h.R, fun _ => ⟨w.heap.size, ?_, ?_, F.nb⟩⟩⟩
    · simp
    · have := F.row
      rw [hN] at this
      simp only [List.length_map]
      exact owns_mono this h.rd.nz
  | trans hd M hp =>
    refine (take_trans n0 b w r (some ⟨g, o, none⟩) (M.length + 1) cap (hide h.rd) (hide (h.pl.trans hp)) (by omega)).mono ?_
    rintro e w' ⟨rfl, s⟩
    exact ⟨rfl, _, s, h.carry s rfl rfl (fun _ => by omega) rfl h.ti h.O h.S h.R⟩
  | rule2 s1 s3 hp =>
    refine (take_rule2 n0 b w r (some ⟨g, o, none⟩) cap s1 s3 (hide h.rd) (hide (h.pl.trans hp)) (hide hL) (hide ⟨hok s1 (by simp), hok s3 (by simp)⟩) (hide (by rw [h.O, h.S, h.R]; simp at hl; omega)) (by simpa using hcap)).mono ?_
    rintro e w' ⟨rfl, vo, mo, vs, ms, vr, mr, s⟩
    exact ⟨rfl, _, s, h.carry s rfl rfl (fun q => q) h.pl h.ti (by simp [h.O]) (by simp [h.S]) (by simp [h.R])⟩
  | rule3 s1 s2 s3 hp hne =>
    refine (take_rule3 n0 b w r (some ⟨g, o, none⟩) cap s1 s2 s3 (hide h.rd) (hide (h.pl.trans hp)) (hide hL) (hide ⟨hok s1 (by simp), hok s2 (by simp), hok s3 (by simp)⟩) (hide hne) (hide (by rw [h.O, h.S, h.R]; simp at hl; omega)) (by simpa using hcap)).mono ?_
    rintro e w' ⟨rfl, vo, mo, vs, ms, vr, mr, s⟩
    exact ⟨rfl, _, s, h.carry s rfl rfl (fun q => q) h.pl h.ti (by simp [h.O]) (by simp [h.S]) (by simp [h.R])⟩
end Go.Proofs.YtmagchclmmphaabGreatDoor
