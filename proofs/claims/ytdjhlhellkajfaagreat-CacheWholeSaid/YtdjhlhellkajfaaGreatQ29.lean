/-
  Texts JKnows, in one file. What each proves, and its conditions, stand at its head below.
-/
import Derived.Test.YtdjhlhellkajfaaGreatQ10
import Derived.Test.YtdjhlhellkajfaaGreatQ25
import Derived.Test.YtdjhlhellkajfaaGreatQ28
import Derived.Lib.SlBytesConst
/-
  What the law knows: a group that was half on its way is not there. No condition.
-/
namespace Go.Proofs.YtdjhlhellkajfaaGreat.Jou
open Go.RowKit Codec FrameM Cod JourM
open Disk (Turn Dk Dsk ptr Now Made Nums fresh)
set_option maxRecDepth 100000
theorem low_turn {w w1 w2 : World} {S : List Nat} (h : Below w.heap.size w w1) (ht : Turn S w1 w2) (hS : ∀ k ∈ S, w.heap.size ≤ k) : Below w.heap.size w w2 := h.trans (ht.low hS h.size)
theorem Jn.owns_low {w : World} {lo j g gs gm base : Nat} {d : Dsk} {jr : Jr} {v : Value} (h : Jn w lo j g gs gm d jr v) (hj : base ≤ j) (hg : base ≤ g ∧ base ≤ gs ∧ base ≤ gm) : ∀ k ∈ [j, g, gs, gm] ++ v.ownBlock.toList, base ≤ k := by
  intro k hk
  rcases List.mem_append.1 hk with hk | hk
  · simp only [List.mem_cons, List.not_mem_nil, or_false] at hk
    omega
  · obtain ⟨its, o1, _⟩ := h.own
    have h1 := h.lows j (by simp)
    have h2 := own_type o1 (by simpa using hk)
    omega
theorem bts_two {w : World} {S : List Nat} (x y : UInt8) (hS : ∀ k ∈ S, k < w.heap.size) : Bts (w.alloc (.cells #[byt x, byt y] 5 (2, 3))) S (some ⟨w.heap.size, 0, none⟩) 2 [x, y] := by
  refine ⟨rfl, fun _ => ⟨w.heap.size, 0, rfl, by simp, fun hm => by have := hS _ hm; omega, fun q hq => ?_⟩⟩
  unfold World.cell?
  rw [heap_alloc_new]
  match q, hq with
  | 0, _ => rfl
  | 1, _ => rfl
theorem append_two (w : World) (lo j g gs gm : Nat) (d : Dsk) (jr : Jr) (v : Value) (x y : UInt8) (h : Jn w lo j g gs gm d jr v) :
    Calls Tryz.prog 15 #[ptr j, .slice (some ⟨w.heap.size, 0, none⟩) 2 2] (w.alloc (.cells #[byt x, byt y] 5 (2, 3))) (Appended (w.alloc (.cells #[byt x, byt y] 5 (2, 3))) lo j g gs gm v (appE d jr [x, y]) (appD d jr [x, y]) (appJ d jr [x, y])) :=
  append_any _ lo j g gs gm d jr v 2 2 _ [x, y] (h.below (Frm.alloc_below w _)) (bts_two x y (fun k hk => Nat.lt_of_lt_of_le (h.lows k hk) h.le)) (Nat.le_refl _) (by decide)
theorem nums_three {w : World} {S : List Nat} (a b c : Int) (hS : ∀ k ∈ S, k < w.heap.size) : Nums (w.alloc (.cells #[.int .i64 a, .int .i64 b, .int .i64 c] 3)) S (some ⟨w.heap.size, 0, none⟩) 3 [a, b, c] := by
  refine ⟨rfl, fun _ => ⟨w.heap.size, 0, rfl, fun hm => by have := hS _ hm; omega, by simp, fun q hq => ?_⟩⟩
  rw [cell_at (heap_alloc_new w _)]
  match q, hq with
  | 0, _ => rfl
  | 1, _ => rfl
  | 2, _ => rfl
theorem open_first (w : World) (g gs gm : Nat) (h : Dk w g gs gm (fresh 20)) : Calls Tryz.prog 13 #[ptr g] w (Opened w g gs gm kA ⟨1, [], false⟩) := by
  obtain ⟨h1, h2, _⟩ := fresh_open 20 (by omega) (by omega)
  refine (open_new w g gs gm (fresh 20) h (by show 8 ≤ 20; omega) rfl (fresh_newest 20 (by omega))).mono fun e w' hx => ?_
  rcases hx with ⟨_, hx⟩ | ⟨hx, _⟩
  · rw [h2] at hx
    exact hx
  · rw [h1] at hx
    cases hx
theorem open_again (w : World) (g gs gm : Nat) (h : Dk w g gs gm kE) : Calls Tryz.prog 13 #[ptr g] w (Opened w g gs gm kE ⟨1, [sAB], false⟩) := by
  obtain ⟨h1, h2, h3, h4, h5⟩ := kE_is
  have := open_old w g gs gm kE h (by omega) h2 (by omega) (by omega)
  rwa [h4, h5] at this
theorem takes_two (w : World) (xs : List UInt8) (A : Option Addr) (c m : Nat) (hm : xs.length = m) (ht : takes1 xs ≤ 100000) : Calls Tryz.prog 51 #[.slice (some ⟨w.heap.size, 0, none⟩) 2 2] (w.alloc (.cells #[.slice A m c, .slice none 0 0] 39)) (Disk.Ends (.int .i64 (takes [xs, []])) (w.alloc (.cells #[.slice A m c, .slice none 0 0] 39))) := by
  refine takes_any _ 2 2 _ [xs, []] ⟨rfl, fun _ => ⟨w.heap.size, 0, rfl, fun q hq => ?_⟩⟩ (by simp only [takes, takes1, List.length_nil] at *; have : need 0 = 0 := rfl; omega)
  rw [cell_at (heap_alloc_new w _)]
  match q, hq with
  | 0, _ => exact ⟨A, c, by rw [← hm]; rfl⟩
  | 1, _ => exact ⟨none, 0, rfl⟩
set_option maxHeartbeats 1000000 in
theorem knows_any (w : World) : Calls Tryz.prog 9 #[] w (EndsBelow (.bool true) w) := by
  have HN := Lib.hid (Disk.new_disk w 20 (by omega) (by omega))
  have kc := fun (w : World) (C : Array Value) (n c : Nat) => Lib.run_convert_bytes_const (P := Tryz.prog) w 39 5 C n c Tryz.underlying39 Tryz.underlying5
  go_enter Tryz.func9, Tryz.ntmps9
  go_wp2_with fail
  refine HN.out.mono ?_
  rintro e w1 ⟨g, gs, gm, rfl, hdk, ht, g1, g2, g3⟩
  have HG := Lib.hid (And.intro g1 (And.intro g2 g3))
  have HB1 : Hid (Below w.heap.size w w1) := Lib.hid (ht.low (by simp) (Nat.le_refl _))
  have HO := Lib.hid (open_first w1 g gs gm hdk)
  clear hdk ht g1 g2 g3 HN
  unfold ptr at *
  go_wp2_with fail
  refine HO.out.mono ?_
  rintro e w2 ⟨lo, j, v, rfl, hj, ht, hlj⟩
  have HS3 : Hid (∀ k ∈ [g, gs, gm], w.heap.size ≤ k) := Lib.hid (by have := HG.out; intro k hk; simp at hk; omega)
  have HB2 := Lib.hid (low_turn HB1.out ht HS3.out)
  have HJ2 := Lib.hid hj
  have HLJ : Hid (w.heap.size ≤ j) := Lib.hid (Nat.le_trans HB1.out.size hlj)
  have HA := Lib.hid (append_two w2 lo j g gs gm kA ⟨1, [], false⟩ v 97 98 hj)
  have HE := Lib.hid kB_is
  have e1 : appD kA ⟨1, [], false⟩ [97, 98] = kB := rfl
  have e2 : appE kA ⟨1, [], false⟩ [97, 98] = 0 := HE.out.1
  have e3 : appJ kA ⟨1, [], false⟩ [97, 98] = ⟨1, [sAB], false⟩ := HE.out.2.2
  rw [e1, e2, e3] at HA
  clear hj ht hlj HO HE e1 e2 e3
  unfold ptr at *
  unfold byt at *
  go_wp2_with fail
  refine HA.out.mono ?_
  rintro e w3 ⟨rfl, v3, hj3, ht3, hv3⟩
  have HB3 := Lib.hid (low_turn (HB2.out.trans ((Frm.alloc_below w2 _).mono HB2.out.size)) ht3 (HJ2.out.owns_low HLJ.out HG.out))
  have HJ3 := Lib.hid hj3
  have HST := Lib.hid (Disk.stop_disk w3 g gs gm kB 3 hj3.disk (by omega) (by omega))
  clear hj3 ht3 hv3 HA HJ2
  unfold ptr at *
  go_wp2_with fail
  refine HST.out.mono ?_
  rintro e w4 ⟨rfl, hd4, ht4⟩
  have HB4 := Lib.hid (low_turn HB3.out ht4 HS3.out)
  have hj4 : Jn w4 lo j g gs gm kC ⟨1, [sAB], false⟩ v3 := HJ3.out.disked hd4 ht4 (by rw [kC_n, kB_n])
  have HJ4 := Lib.hid hj4
  have HA := Lib.hid (append_two w4 lo j g gs gm kC ⟨1, [sAB], false⟩ v3 99 100 hj4)
  have HE := Lib.hid kD_is
  have e1 : appD kC ⟨1, [sAB], false⟩ [99, 100] = kD := rfl
  have e2 : appE kC ⟨1, [sAB], false⟩ [99, 100] = 3 := HE.out.1
  have e3 : appJ kC ⟨1, [sAB], false⟩ [99, 100] = ⟨1, [sAB], true⟩ := HE.out.2.1
  rw [e1, e2, e3] at HA
  clear hj4 hd4 ht4 HST e1 e2 e3 HJ3
  unfold ptr at *
  unfold byt at *
  go_wp2_with fail
  refine HA.out.mono ?_
  rintro e w5 ⟨rfl, v5, hj5, ht5, hv5⟩
  have HB5 := Lib.hid (low_turn (HB4.out.trans ((Frm.alloc_below w4 _).mono HB4.out.size)) ht5 (HJ4.out.owns_low HLJ.out HG.out))
  have HJ5 := Lib.hid hj5
  have hba := Frm.alloc_below w5 (.cells #[.int .i64 2, .int .i64 2, .int .i64 2] 3)
  have HJ6 := Lib.hid (hj5.below hba)
  have HB6 := Lib.hid (HB5.out.trans (hba.mono HB5.out.size))
  have HCR := Lib.hid (Disk.crash_disk (w5.alloc (.cells #[.int .i64 2, .int .i64 2, .int .i64 2] 3)) g gs gm kD HJ6.out.disk _ 3 3 [2, 2, 2] (nums_three 2 2 2 (fun k hk => Nat.lt_of_lt_of_le (hj5.lows k (List.mem_cons_of_mem _ hk)) hj5.le)))
  clear hj5 ht5 hv5 hba HA HJ4
  unfold ptr at *
  go_wp2_with fail
  refine HCR.out.mono ?_
  rintro e w7 ⟨rfl, hd7, ht7⟩
  have HB7 := Lib.hid (low_turn HB6.out ht7 HS3.out)
  have HJ7 : Hid (Jn w7 lo j g gs gm kE ⟨1, [sAB], true⟩ v5) := Lib.hid (HJ6.out.disked hd7 ht7 (by rw [kE_is.1, HE.out.2.2.1]))
  have HO := Lib.hid (open_again w7 g gs gm hd7)
  clear hd7 ht7 HCR HJ6 HJ5
  unfold ptr at *
  go_wp2_with fail
  refine HO.out.mono ?_
  rintro e w8 ⟨lo8, j8, v8, rfl, hj8, ht8, _⟩
  have HB8 := Lib.hid (low_turn HB7.out ht8 HS3.out)
  have HJ8 : Hid (Jn w8 lo j g gs gm kE ⟨1, [sAB], true⟩ v5) := Lib.hid (HJ7.out.disked hj8.disk ht8 rfl)
  have HGR : Hid (Calls Tryz.prog 24 #[ptr j8] w8 (fun e w9 => ∃ A c, e = .returned (.slice A 1 c) ∧ NewRows w8 w9 A 1 [sAB] ∧ 1 ≤ c ∧ c ≤ maxLen ∧ Below w8.heap.size w8 w9)) := Lib.hid (groups_any hj8)
  clear hj8 ht8 HO HJ7
  unfold ptr at *
  go_wp2_with fail
  refine HGR.out.mono ?_
  rintro e w9 ⟨A9, c9, rfl, hr9, _, _, hb9⟩
  have HB9 := Lib.hid (HB8.out.trans (hb9.mono HB8.out.size))
  have HDN := Lib.hid (jdown_any (HJ8.out.below hb9))
  have hr := hr9 [] (by simp)
  obtain ⟨b, o, Aj, cj, hat⟩ := hr.at (show 0 < 1 by omega)
  have hidx := hat.index c9
  obtain ⟨_, hcell, hbt, _, _, _, _⟩ := hat
  have hcv := run_string_of w9 _ _ cj Aj _ hbt.byts
  have HTK := Lib.hid (takes_two (w9.alloc (.cells #[byt 97, byt 98] 5 (2, 3))) [97, 98] (some ⟨w9.heap.size, 0, none⟩) 2 2 rfl (by decide))
  have ht3 : ((takes [[97, 98], []] : Nat) : Int) = 3 := rfl
  rw [ht3, World.size_alloc] at HTK
  clear ht3
  have HFB : Hid (Below w9.heap.size w9 ((w9.alloc (.cells #[byt 97, byt 98] 5 (2, 3))).alloc (.cells #[.slice (some ⟨w9.heap.size, 0, none⟩) 2 2, .slice none 0 0] 39))) := Lib.hid ((Frm.alloc_below w9 _).trans ((Frm.alloc_below _ _).mono (by simp)))
  clear hr9 hb9 HGR hbt hr HJ8
  unfold ptr at *
  unfold byt at *
  replace hidx : ∀ u : World, (Instr.indexAt 40 (.slice A9 1 c9) (.int .i64 0)).run Tryz.prog u = .ok (.pointer (some ⟨b, o, none⟩)) u := hidx
  replace hcell : w9.cell? ⟨b, o, none⟩ = some (.slice Aj 2 cj) := hcell
  replace hcv : (convert 39 9 (.slice Aj 2 cj)).run Tryz.prog w9 = .ok (.string ⟨#[97, 98]⟩) w9 := hcv
  replace HDN : Hid (Calls Tryz.prog 26 #[.pointer (some ⟨j, 0, none⟩)] w9 (Disk.Ends (.bool true) w9)) := HDN
  go_wp2_with (first
    | (go_at_call 12; refine (num_any _ _).mono ?_; rintro e u ⟨rfl, rfl⟩)
    | (go_at_call 26; refine HDN.out.mono ?_; rintro e u ⟨rfl, rfl⟩)
    | (go_at_call 51; refine HTK.out.mono ?_; rintro e u ⟨rfl, rfl⟩))
  go_ret
  exact ⟨rfl, HB9.out.trans (HFB.out.mono HB9.out.size)⟩
end Go.Proofs.YtdjhlhellkajfaaGreat.Jou
