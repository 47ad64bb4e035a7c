/-
  What the program's Sync does. Condition: the disk is known.
-/
import Derived.Test.YthphcidpdjopeaaLaws
namespace Go.Proofs.Ythphcidpdjopeaa
open Go.RowKit Go.Maps
/-- What is safe while some of the waiting sectors are still to come. -/
def part (safe : Nat → List UInt8) (f : Nat → Option (List UInt8)) (left : Lit → Bool) (i : Nat) : List UInt8 :=
  match f i with
  | some s => if left (ky i) then safe i else s
  | none => safe i
theorem part_start {D : DataW Value} {n : Nat} {f : Nat → Option (List UInt8)} (h : Told D n f) (safe : Nat → List UInt8) (i : Nat) (hi : i < n) : part safe f (Maps.has D) i = safe i := by
  unfold part
  cases hf : f i with
  | none => rfl
  | some s => simp [h.has hi, hf]
theorem sameKey_ky (i j : Nat) : (ky i).sameKey (ky j) = decide (i = j) := by
  by_cases h : i = j
  · subst h
    simp [ky, Lit.sameKey]
  · rw [Maps.sameKey_ne (fun e => h (ky_inj e))]
    simp [h]
theorem part_step (safe : Nat → List UInt8) {f : Nat → Option (List UInt8)} (left : Lit → Bool) {k : Nat} {s : List UInt8} (hf : f k = some s) (i : Nat) :
    part safe f (fun z => left z && !z.sameKey (ky k)) i = upd (part safe f left) k s i := by
  by_cases he : i = k
  · subst he
    rw [upd_same]
    simp [part, hf, sameKey_ky]
  · rw [upd_other _ _ he]
    simp [part, sameKey_ky, he]
theorem part_end {d : Dsk} {left : Lit → Bool} (h : ∀ kl, left kl = false) (i : Nat) : part d.safe d.waits left i = d.read i := by
  unfold part Dsk.read
  cases d.waits i <;> simp [h]
theorem part_length {d : Dsk} (h : d.ok) (left : Lit → Bool) (i : Nat) (hi : i < d.n) : (part d.safe d.waits left i).length = 64 := by
  unfold part
  cases hf : d.waits i with
  | none => exact h.2.2.1 i hi
  | some s =>
    show (if left (ky i) then d.safe i else s).length = 64
    split
    · exact h.2.2.1 i hi
    · exact (h.2.2.2.1 i s hf).2
theorem grown_setCells (w : World) (b o : Nat) (vs : List Value) : w.grownBy (w.setCells b o vs) (some b) := by
  obtain ⟨e1, e2, e3⟩ := os_setCells (b := b) vs o w
  exact ⟨e1, e2, e3, by rw [size_setCells]; exact Nat.le_refl _, fun k _ hk => heap_setCells (fun e => hk (by rw [e])) vs o w⟩
theorem sync_none (w : World) (p : Value) (h : Nobody w p) : Calls Try.prog 7 #[p] w (Ends (.int .i64 1) w) := by
  have HM := Lib.hid (made_none w p h)
  clear h
  go_enter Try.func7, Try.ntmps7
  go_wp2_with fail
  refine HM.out.mono ?_
  rintro e w1 ⟨rfl, rfl⟩
  go_wp2
  go_ret
  exact ⟨rfl, rfl⟩
theorem sync_off (w : World) (g gs gm : Nat) (d : Dsk) (h : Dk w g gs gm d) (ho : d.off = true) : Calls Try.prog 7 #[ptr g] w (Ends (.int .i64 3) w) := by
  have HM := Lib.hid (made_disk w g gs gm d h)
  obtain ⟨z, hz⟩ := h.six
  have c2 := hz.c2
  rw [ho] at c2
  clear hz h ho
  unfold ptr at HM ⊢
  go_enter Try.func7, Try.ntmps7
  go_wp2_with fail
  refine HM.out.mono ?_
  rintro e w1 ⟨rfl, rfl⟩
  go_wp2
  go_ret
  exact ⟨rfl, rfl⟩
theorem sync_stop (w : World) (g gs gm : Nat) (d : Dsk) (h : Dk w g gs gm d) (ho : d.off = false) (hd : d.done = false) : Calls Try.prog 7 #[ptr g] w (Now (.int .i64 3) w g gs gm d.deed) := by
  have HM := Lib.hid (made_disk w g gs gm d h)
  have HW := Lib.hid (deed_disk w g gs gm d h ho)
  rw [hd] at HW
  obtain ⟨z, hz⟩ := h.six
  have c2 := hz.c2
  rw [ho] at c2
  clear hz h ho hd
  unfold ptr at HM HW ⊢
  generalize d.deed = d' at HW ⊢
  go_enter Try.func7, Try.ntmps7
  go_wp2_with fail
  refine HM.out.mono ?_
  rintro e w1 ⟨rfl, rfl⟩
  go_wp2_with fail
  refine HW.out.mono ?_
  rintro e w1 ⟨rfl, hdk, ht⟩
  have HF := Lib.hid (And.intro hdk ht)
  clear hdk ht
  go_wp2
  go_ret
  exact ⟨rfl, HF.out.1, HF.out.2⟩
set_option maxHeartbeats 1000000 in
theorem sync_do (w : World) (g gs gm : Nat) (d : Dsk) (h : Dk w g gs gm d) (ho : d.off = false) (hd : d.done = true) : Calls Try.prog 7 #[ptr g] w (Now (.int .i64 0) w g gs gm d.deed.synced) := by
  have HM := Lib.hid (made_disk w g gs gm d h)
  have HW := Lib.hid (deed_disk w g gs gm d h ho)
  rw [hd] at HW
  obtain ⟨z, hz⟩ := h.six
  have c2 := hz.c2
  rw [ho] at c2
  clear hz h ho hd
  unfold ptr at HM HW ⊢
  generalize d.deed = d' at HW ⊢
  go_enter Try.func7, Try.ntmps7
  go_wp2_with fail
  refine HM.out.mono ?_
  rintro e w1 ⟨rfl, rfl⟩
  go_wp2_with fail
  refine HW.out.mono ?_
  rintro e w1 ⟨rfl, hdk, ht⟩
  clear c2
  obtain ⟨z1, hz1⟩ := hdk.six
  have c1 := hz1.c1
  obtain ⟨nn, D, hown, hnn, hT⟩ := hdk.mp
  have HD := Lib.hid hdk
  have HT := Lib.hid ht
  have HTD := Lib.hid hT
  clear hdk ht hz1 hnn hT
  go_wp2_with (first
    | (at_range; refine wpList_range_own _ rfl _ 44 rfl 3 49 key3 Try.underlying44 R0 gm nn D rfl hown ?_; intro w0 hrg0 hg0 hs0)
    | go_in)
  go_frame
  clear c1
  go_loopw [3] (fun _ wr => ∃ left cnt, wr.ranges Try.prog 3 R0 gm w1.heap.size nn D left cnt ∧ Sf wr gs d'.n (part d'.safe d'.waits left) ∧ wr.heap[g]? = w1.heap[g]? ∧ Turn [gs] w1 wr)
    (fun _ wr => wr.rangeLeft gm w1.heap.size)
  case atStart =>
    have hdk := HD.out
    exact ⟨_, _, hrg0, (hdk.sf.keep (hg0.block gs hdk.sf.1 (by simp)) hg0.size).same fun i hi => part_start HTD.out _ i hi, hg0.block g hdk.lt (by simp), (Turn.refl _ _).grown hg0 (by simp)⟩
  case round =>
    obtain ⟨left, cnt, hrg, hsf, hgg, htr⟩ := hrel
    obtain ⟨wo, rfl⟩ : ∃ wo : World, wo = wr := ⟨_, rfl⟩
    go_wp2_with (first
      | (at_next; (with_reducible refine wpList_next_sec wo gm w1.heap.size d'.n nn d'.waits D left cnt HTD.out hrg ?_ ?_ ?_); exact ⟨rfl, _, rfl, rfl⟩)
      | go_in)
    · -- nothing is left
      intro hl0
      have hown2 := hrg.owns
      obtain ⟨z2, hz2⟩ := HD.out.six
      have c1 : wo.cell? ⟨g, 1, none⟩ = some (.map (some gm)) := (World.cell?_of_block (w := w1) hgg).trans hz2.c1
      have HMP := Lib.hid (Mp.made hown2 HTD.out)
      have HH := Lib.hid (And.intro hl0 (And.intro hsf (And.intro hgg htr)))
      clear hl0 hown2 hz2 hsf hgg htr hrg
      go_wp2_with (first
        | ((with_reducible refine wpList_clear wo gm d'.n d'.waits HMP.out ?_ ?_); exact ⟨rfl, _, rfl, rfl⟩; intro w4 hm4 hg4; have HQ := Lib.hid (And.intro hm4 hg4); clear hm4 hg4)
        | go_in)
      go_ret
      obtain ⟨hl0, hsf, hgg, htr⟩ := HH.out
      obtain ⟨hm4, hg4⟩ := HQ.out
      have hdk := HD.out
      obtain ⟨z2, hz2⟩ := hdk.hd
      have hng : g < wo.heap.size := Nat.lt_of_lt_of_le hdk.lt htr.size
      refine ⟨rfl, ⟨Dsk.synced_ok hdk.ok, hdk.ne, ⟨z2, ?_⟩, ?_, hm4⟩, ?_⟩
      · exact (hg4.block g hng (by simp; exact hdk.nem)).trans (hgg.trans hz2)
      · exact (hsf.keep (hg4.block gs hsf.1 (by simp; exact hdk.nes)) hg4.size).same fun i _ => (part_end hl0 i).symm
      · exact HT.out.then_ ((htr.more (S' := [gs, gm]) (by simp)).grown hg4 (fun k hk => .inl (by cases hk; simp))) (by simp)
    · -- a sector has come
      intro i s w2 cnt2 hi hf hlk hrg2 hlt hg2 hs2 hen
      have hdk := HD.out
      obtain ⟨z2, hz2⟩ := hdk.six
      have hgl : g < w2.heap.size := by have := hdk.lt; have := htr.size; omega
      have e2 : w2.heap[g]? = w1.heap[g]? := (hg2.block g (Nat.lt_of_lt_of_le hdk.lt htr.size) (by simp; exact fun e => absurd hdk.lt (by omega))).trans hgg
      have c0 : w2.cell? ⟨g, 0, none⟩ = some (.slice (some ⟨gs, 0, none⟩) d'.n d'.n) := (World.cell?_of_block (w := w1) e2).trans hz2.c0
      have i0 : (0 : Int) ≤ i := by omega
      have i1 : (i : Int) < d'.n := by omega
      have HS := Lib.hid (hdk.ok.2.2.2.1 i s hf).2
      have hsf2 : Sf w2 gs d'.n (part d'.safe d'.waits left) := hsf.keep (hg2.block gs hsf.1 (by simp; exact fun e => absurd hdk.sf.1 (by omega))) (by omega)
      have CX := Lib.hid (show (w2.alloc (.cells (cel s).toArray 49)).cell? ⟨g, 0, none⟩ = some (.slice (some ⟨gs, 0, none⟩) d'.n d'.n) from (World.cell?_of_block (w := w2) (Below.heap_alloc w2 _ g hgl)).trans c0)
      have HTH := Lib.hid ((World.there_drew _ _ _ _).2 (World.there_alloc (hsf2.at_ hi) (.cells (cel s).toArray 49)))
      have HSE := Lib.hid ((World.rangeAt_drew _ _ _ _).2 (Sec1.range (show Sec1 (w2.alloc (.cells (cel s).toArray 49)) w2.heap.size s from heap_alloc_last w2 _)))
      have HH := Lib.hid (And.intro hi (And.intro hf (And.intro hrg2 (And.intro hlt (And.intro hg2 (And.intro hs2 (And.intro e2 hsf2)))))))
      have HR := Lib.hid (And.intro hrg (And.intro hgg htr))
      clear hs2 hsf2 hg2 hrg2 hlt hlk hf hi hz2 hdk hrg hsf hgg htr e2
      go_upto_region 8 with (first
        | ((with_reducible refine wpList_alloc49 w2 ?_ ?_); exact ⟨rfl, rfl⟩)
        | ((with_reducible refine wpList_store49 w2 w2.heap.size _ s rfl ?_ ?_ HS.out ?_); exact ⟨rfl, _, _, rfl, rfl, rfl⟩; rfl)
        | go_in)
      obtain ⟨X, hX⟩ : ∃ X, X = w2.alloc (.cells (cel s).toArray 49) := ⟨_, rfl⟩
      rw [← hX] at CX HTH HSE ⊢
      have HX := Lib.hid hX
      clear c0 hX
      have c0 := CX.out
      refine wp_region_still_tail 7 (by kernel_rfl) (by kernel_rfl) ?_
      simp only [List.take_succ_cons, List.take_zero, List.drop_succ_cons, List.drop_zero]
      iterate 5 still_step
      refine still_load49 w2.heap.size 0 s _ rfl rfl HS.out HSE.out rfl ?_
      simp only [Act.put, List.setIfInBounds_toArray, List.set_cons_zero, List.set_cons_succ]
      still_step
      refine wpStill_nil ?_
      change wpList _ _ _ _ _ X.drew
      refine wpList_storeMid _ gs (i * 64) s HTH.out HS.out ⟨rfl, _, _, rfl, rfl, rfl⟩ ?_
      go_frame
      have hX := HX.out
      obtain ⟨hi, hf, hrg2, hlt, hg2, hs2, e2, hsf2⟩ := HH.out
      obtain ⟨hrg, hgg, htr⟩ := HR.out
      have hdk := HD.out
      have hrX : X.ranges Try.prog 3 R0 gm w1.heap.size nn D (fun z => left z && !z.sameKey (ky i)) cnt2 := by rw [hX]; exact hrg2.alloc _
      have htX : Turn [gs] w1 X := by rw [hX]; exact (htr.grown hg2 (fun k hk => .inr (by cases hk; exact Nat.le_refl _))).alloc _
      have hsX : Sf X gs d'.n (part d'.safe d'.waits left) := by rw [hX]; exact hsf2.keep (Below.heap_alloc w2 _ gs hsf2.1) (by simp)
      have hgX : X.heap[g]? = w1.heap[g]? := by rw [hX]; exact (Below.heap_alloc w2 _ g hgl).trans e2
      have hr1 : (X.drew.setCells gs (i * 64) (cel s)).ranges Try.prog 3 R0 gm w1.heap.size nn D (fun z => left z && !z.sameKey (ky i)) cnt2 :=
        World.ranges.kept (w := X.drew) hrX (grown_setCells _ _ _ _) (by simp; exact fun e => hdk.nes e.symm) (by simp; exact fun e => absurd hdk.sf.1 (by omega))
      have hs1 : Sf (X.drew.setCells gs (i * 64) (cel s)) gs d'.n (part d'.safe d'.waits fun z => left z && !z.sameKey (ky i)) :=
        Sf.same (Sf.set (w := X.drew) hsX (part_length hdk.ok left) hi HS.out) fun j _ => part_step _ left hf j
      have hm := hr1.left_eq
      have hm0 := hrg.left_eq
      have HY := Lib.hid (And.intro hr1 (And.intro hs1 (And.intro ((heap_setCells hdk.ne (cel s) (i * 64) X.drew).trans hgX) (htX.drew.setCells (b := gs) (by simp) (i * 64) (cel s)))))
      have HZ := Lib.hid (And.intro hm (And.intro hm0 hlt))
      clear hX hi hf hrg2 hlt hg2 hs2 e2 hsf2 hrg hgg htr hdk hrX htX hsX hgX hr1 hs1 hm hm0
      go_wp2
      obtain ⟨hm, hm0, hlt⟩ := HZ.out
      rw [hm, hm0]
      exact ⟨⟨_, cnt2, HY.out⟩, hlt⟩
end Go.Proofs.Ythphcidpdjopeaa
