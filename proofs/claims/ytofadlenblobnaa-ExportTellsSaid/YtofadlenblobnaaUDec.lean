/-
  The program's Decode. Conditions: the bytes lie in memory; at most 1000000000 of them.
-/
import Derived.Test.YtofadlenblobnaaURead
namespace Go.Proofs.Ytofadlenblobnaa.Exp
open Go.RowKit Codec Typ Tre
open OwnR (OwnG)
open Cod (Rdr Turned Byts endB grown_trans grown_set)
set_option maxRecDepth 100000
set_option linter.unusedSimpArgs false
def decV (d : Option (List Sp)) : List Sp := d.getD []
def decE (d : Option (List Sp)) : Int := if d.isSome then 0 else 5
/-- A signature that was read: what is known of it. -/
def Short (g : Sg) : Prop := g.s.size ≤ 16 ∧ 0 ≤ g.r
/-- What Decode leaves: a list in memory of its own, and why not. -/
def Decd (d : Option (List Sp)) (w : World) (e : Ending) (w' : World) : Prop :=
  ∃ (A : Option Addr) (c : Nat) (l : List Sg), e = .returned (.tuple #[.slice A l.length c, .int .i64 (decE d)]) ∧ l.map coreG = decV d ∧ Row 3 sgC w' A l ∧ (∀ g ∈ l, SgIn w' g) ∧ (∀ g ∈ l, Short g) ∧ l.length ≤ 32 ∧ Below w.heap.size w w'
/-- A list that is being read. -/
structure LAt (T : TypeId) (w wr : World) (B g : Nat) (st : Codec.St) (v : Value) (l : List Sg) : Prop where
  rdr : Rdr T wr B g st
  own : OwnG 3 sgC 37 wr w.heap.size v l
  sin : ∀ x ∈ l, OwnG 1 tyC 35 wr w.heap.size (.slice x.a x.p.length x.c) x.p
  shs : ∀ x ∈ l, Short x
  gr : w.grownBy wr (some g)
  old : g < w.heap.size
section
variable {T : TypeId} {w wr w' : World} {B g : Nat} {st st' : Codec.St} {v : Value} {l : List Sg}
theorem LAt.read (h : LAt T w wr B g st v l) (hr : Rdr T w' B g st') (hg : wr.grownBy w' (some g)) : LAt T w w' B g st' v l := by
  have hold := h.old
  exact ⟨hr, h.own.keep fun k hk => hg.block k (h.own.lt k hk).2 (by have := (h.own.lt k hk).1; simp; omega), fun x hx => (h.sin x hx).keep fun k hk => hg.block k ((h.sin x hx).lt k hk).2 (by have := ((h.sin x hx).lt k hk).1; simp; omega), h.shs, grown_trans h.gr hg, hold⟩
theorem LAt.below (h : LAt T w wr B g st v l) (hb : Below wr.heap.size wr w') : LAt T w w' B g st v l :=
  h.read (h.rdr.below hb) (grown_of_below hb _)
theorem LAt.drewN (h : LAt T w wr B g st v l) (m : Nat) : LAt T w (wr.drewN m) B g st v l := h.below (Tre.below_drewN wr m)
theorem LAt.one (h : LAt T w wr B g st v l) (x : Sg) (hx : OwnG 1 tyC 35 wr w.heap.size (.slice x.a x.p.length x.c) x.p) (hs : Short x) (hl : l.length ≤ 1000000) :
    ∃ A n c w2, (∀ ty, (Builtin.append_ #[22, 22] ty #[v, .slice (some ⟨wr.heap.size, 0, none⟩) 1 1]).run Try.prog (wr.alloc (.cells #[.string x.s, .slice x.a x.p.length x.c, .int .u8 x.r] 37)) = .ok (.slice A n c) w2) ∧ n = l.length + 1 ∧ LAt T w w2 B g st (.slice A n c) (l ++ [x]) := by
  have hb := ball_new wr #[.string x.s, .slice x.a x.p.length x.c, .int .u8 x.r] 37
  have hold := h.old
  have hsz := h.gr.size
  have h1 := h.below hb
  have hx1 : OwnG 1 tyC 35 (wr.alloc (.cells #[.string x.s, .slice x.a x.p.length x.c, .int .u8 x.r] 37)) w.heap.size (.slice x.a x.p.length x.c) x.p := hx.keep fun k hk => hb.block k (hx.lt k hk).2
  obtain ⟨v2, w2, hr, ho2, hg2, hn2⟩ := app_sg _ v l x wr.heap.size h1.own (new_at wr _ _) hl (by simp; omega)
  obtain ⟨A, c, e, _⟩ := ho2.form
  subst e
  have hlo : ∀ k, v.ownBlock = some k → w.heap.size ≤ k := fun k hk => (h1.own.lt k hk).1
  have rdr2 : Rdr T w2 B g st := h1.rdr.keep (fun k hk => hg2.block k (by have := h1.rdr.lt; have := h1.rdr.2.1; omega) (fun e => by have := hlo k e.symm; have := h1.rdr.2.1; omega)) (hg2.block g h1.rdr.lt (fun e => by have := hlo g e.symm; omega))
  have keepT : ∀ (a : Option Addr) (n c : Nat) (p : List Int), OwnG 1 tyC 35 (wr.alloc (.cells #[.string x.s, .slice x.a x.p.length x.c, .int .u8 x.r] 37)) w.heap.size (.slice a n c) p → OwnG 1 tyC 35 w2 w.heap.size (.slice a n c) p := fun a n c p ho => ho.keep fun k hk => hg2.block k (ho.lt k hk).2 fun e => by
    rcases h1.own.2 with ⟨e2, _⟩ | ⟨b, cap, cur, e2, _, hh, _⟩
    · rw [e2] at e
      simp [Value.ownBlock] at e
    · rw [e2] at e
      simp [Value.ownBlock] at e
      subst e
      exact OwnG.far ho hh (by decide) hk
  refine ⟨A, _, c, w2, hr, by simp, ⟨rdr2, ho2, fun y hy => ?_, fun y hy => ?_, grown_new h1.gr hg2 hlo, hold⟩⟩
  · rcases List.mem_append.1 hy with hy | hy
    · exact keepT _ _ _ _ (h1.sin y hy)
    · obtain rfl : y = x := by simpa using hy
      exact keepT _ _ _ _ hx1
  · rcases List.mem_append.1 hy with hy | hy
    · exact h.shs y hy
    · obtain rfl : y = x := by simpa using hy
      exact hs
theorem LAt.sgs (h : LAt T w wr B g st v l) (hp : ∀ x ∈ l, x.p.length ≤ 1000) : ∀ x ∈ l, SgIn wr x := fun x hx =>
  ⟨OwnG.row (C := tyC) (k := 1) (fun _ => rfl) (h.sin x hx), by have := hp x hx; unfold most; omega, by have := (h.shs x hx).1; unfold maxLen; omega⟩
theorem LAt.row {A : Option Addr} {n c : Nat} (h : LAt T w wr B g st (.slice A n c) l) : Row 3 sgC wr A l := OwnG.row (C := sgC) (k := 3) (fun _ => rfl) h.own
end
theorem rdN_step {m k : Nat} {st s3 : Codec.St} {p : List Sp} (h : rdN m s3 = (p ++ (rdN (m - k) st).1, (rdN (m - k) st).2)) (hk : k < m) : rdN m s3 = ((p ++ [(rdG st).1]) ++ (rdN (m - (k + 1)) (rdG st).2).1, (rdN (m - (k + 1)) (rdG st).2).2) := by
  rw [h, show m - k = (m - (k + 1)) + 1 by omega]
  simp [rdN]
theorem rdN_end {m : Nat} {st s3 : Codec.St} {p : List Sp} (h : rdN m s3 = (p ++ (rdN (m - m) st).1, (rdN (m - m) st).2)) : rdN m s3 = (p, st) := by
  rw [h, Nat.sub_self]
  simp [rdN]
theorem rdP_len : ∀ (n : Nat) (s : Codec.St), (rdP n s).1.length = n
  | 0, _ => rfl
  | n + 1, s => by simp [rdP, rdP_len n]
theorem rdG_few (s : Codec.St) : (rdG s).1.p.length ≤ 4 := by
  unfold rdG
  show (rdP _ _).1.length ≤ 4
  rw [rdP_len]
  have := count_le 4 (textS 16 s) (by omega)
  omega
theorem rdN_few : ∀ (n : Nat) (s : Codec.St), ∀ x ∈ (rdN n s).1, x.p.length ≤ 4
  | 0, _, x, hx => by simp [rdN] at hx
  | n + 1, s, x, hx => by
    rcases List.mem_cons.1 hx with rfl | hx
    · exact rdG_few s
    · exact rdN_few n _ x hx
theorem few_of {l : List Sg} {n : Nat} {s st : Codec.St} (h : rdN n s = (l.map coreG, st)) : ∀ x ∈ l, x.p.length ≤ 1000 := fun x hx => by
  have := rdN_few n s (coreG x) (by rw [h]; exact List.mem_map_of_mem hx)
  have h2 : (coreG x).p.length = x.p.length := rfl
  omega
theorem decd_of {d : Option (List Sp)} {r : Int} {w w' : World} {A : Option Addr} {n c : Nat} {l : List Sg} (hn : l.length = n) (h1 : r = decE d) (h2 : l.map coreG = decV d) (h3 : Row 3 sgC w' A l) (h4 : ∀ g ∈ l, SgIn w' g) (h5 : ∀ g ∈ l, Short g) (h6 : n ≤ 32) (hb : Below w.heap.size w w') : Decd d w (.returned (.tuple #[.slice A n c, .int .i64 r])) w' := by
  subst h1 hn
  exact ⟨A, c, l, rfl, h2, h3, h4, h5, h6, hb⟩
theorem decd_none {d : Option (List Sp)} {w w' : World} (h : d = none) (hb : Below w.heap.size w w') : Decd d w (.returned (.tuple #[.slice none 0 0, .int .i64 5])) w' := by
  subst h
  exact ⟨none, 0, [], rfl, rfl, Row.nil _ _ _ _, fun g hg => by simp at hg, fun g hg => by simp at hg, by simp, hb⟩
theorem short_of {s : Codec.St} {G : Sg} (h : coreG G = (rdG s).1) (h2 : G.s.size ≤ 16) : Short G := ⟨h2, by
  have e : G.r = (rdG s).1.r := by rw [← h]; rfl
  rw [e]
  unfold rdG
  show 0 ≤ ((count 2 _ : Nat) : Int)
  omega⟩
set_option maxHeartbeats 8000000 in
theorem decode_any (b : List UInt8) (A0 : Option Addr) (B0 n0 c0 : Nat) (w : World) (hb : Byts w B0 A0 n0 b) (hB0 : B0 ≤ w.heap.size) (hn0 : n0 ≤ 1000000000) :
    Calls Try.prog 9 #[.slice A0 n0 c0] w (Decd (decP b) w) := by
  have CO := Lib.hid (Cod.read_any w B0 n0 c0 A0 b hb hB0 hn0)
  obtain ⟨m, hm⟩ : ∃ m, count 32 ⟨b, false⟩ = m := ⟨_, rfl⟩
  obtain ⟨s2, hs2⟩ : ∃ s2, countS 32 ⟨b, false⟩ = s2 := ⟨_, rfl⟩
  have hm32 := count_le 32 ⟨b, false⟩ (by omega)
  rw [hm] at hm32
  have HS12 := Lib.hid (And.intro hm hs2)
  have HDC : Hid (∀ l st, rdN m s2 = (l, st) → decP b = if endB st && rightL l then some l else none) := Lib.hid (fun l st h => by
    unfold decP rdL
    rw [hm, hs2, h])
  clear hm hs2 hb
  go_enter Try.func9, Try.ntmps9
  go_wp2_with fail
  refine CO.out.mono ?_
  rintro e w1 ⟨B, g, rfl, hr1, hB1, hb1⟩
  have CC := Lib.hid (Cod.count_any w1 B g 32 ⟨b, false⟩ hr1)
  rw [HS12.out.1, HS12.out.2] at CC
  have H1 : Hid (LAt 65 w1 w1 B g ⟨b, false⟩ (.slice none 0 0) []) := Lib.hid ⟨hr1, OwnG.nil _ _, fun x hx => by simp at hx, fun x hx => by simp at hx, Cod.grown_refl _ _, hr1.lt⟩
  have HLW : Hid (∀ w' st v l, LAt 65 w1 w' B g st v l → Below w.heap.size w w') := Lib.hid (fun w' st v l h => hb1.grown h.gr hb1.size (fun k hk => by injection hk with hk; have := hr1.2.1; omega))
  clear hr1 hB1 hb1 CO
  go_wp2_with fail
  refine CC.out.mono ?_
  rintro e w3 ⟨rfl, hw3, hg3⟩
  have HA3 := Lib.hid (H1.out.read hw3 hg3)
  clear hw3 hg3 CC H1
  go_wp2_with fail
  go_loopw [5, 10] (fun v i wr => ∃ (k : Nat) (A : Option Addr) (c : Nat) (st : Codec.St) (l : List Sg), k ≤ m ∧ v = .slice A k c ∧ i = .int .i64 k ∧ Hid (l.length = k) ∧ Hid (LAt 65 w1 wr B g st (.slice A k c) l) ∧ Hid (rdN m s2 = (l.map coreG ++ (rdN (m - k) st).1, (rdN (m - k) st).2))) (fun _ i _ => m - (intOf i).toNat)
  case atStart => exact ⟨0, none, 0, s2, [], Nat.zero_le _, rfl, rfl, Lib.hid rfl, HA3, Lib.hid (by simp)⟩
  case round =>
    clear HA3
    obtain ⟨k, A, c, st, l, hk, rfl, rfl, HPL, HA, HRP⟩ := hrel
    by_cases hlt : k < m
    · have HST := Lib.hid (rdN_step HRP.out hlt)
      have CR := Lib.hid (read_any wr B g st HA.out.rdr)
      go_wp2_with fail
      refine CR.out.mono ?_
      rintro e w4 ⟨G, rfl, hcG, hr4, hg4, ho4, hs4⟩
      have hA4 := HA.out.read hr4 hg4
      obtain ⟨A2, n2, c2, w5, hap, hn2, hat⟩ := hA4.one G (OwnG.lower ho4 HA.out.gr.size) (short_of hcG hs4) (by rw [HPL.out]; omega)
      rw [HPL.out] at hn2
      subst hn2
      have HAP := Lib.hid hap
      have HAT := Lib.hid hat
      rw [← hcG] at HST
      have HST2 : Hid (rdN m s2 = ((l ++ [G]).map coreG ++ (rdN (m - (k + 1)) (rdG st).2).1, (rdN (m - (k + 1)) (rdG st).2).2)) := Lib.hid (by rw [HST.out, List.map_append]; rfl)
      rw [sgV_eq]
      clear hap hat hA4 hcG hr4 hg4 ho4 hs4 HST CR
      go_wp2_with (at_builtin; refine wpList_appG 22 rfl (.tmp 12) (.tmp 15) rfl (.slice A k c) (.slice (some ⟨w4.heap.size, 0, none⟩) 1 1) _ rfl rfl HAP.out ?_)
      go_wp2_with fail
      go_roundw
      case rel => exact ⟨k + 1, A2, c2, _, _, by omega, rfl, by go_num, Lib.hid (by rw [List.length_append, HPL.out]; rfl), HAT, HST2⟩
      case measure => simp [intOf]; omega
    · obtain rfl : k = m := by omega
      have HE := Lib.hid (rdN_end HRP.out)
      have HDD := Lib.hid (HDC.out _ _ HE.out)
      have CE := Lib.hid (Cod.end_any wr B g st HA.out.rdr)
      have HSG := Lib.hid (HA.out.sgs (few_of HE.out))
      have CR := Lib.hid (right_any l A c k wr HPL.out HA.out.row HSG.out (by omega))
      clear HDC HRP
      obtain ⟨t, ht⟩ : ∃ t, endB st = t := ⟨_, rfl⟩
      obtain ⟨u, hu⟩ : ∃ u, rightL (l.map coreG) = u := ⟨_, rfl⟩
      rw [ht] at CE HDD
      rw [hu] at CR HDD
      clear ht hu
      have HLO := Lib.hid (HLW.out _ _ _ _ HA.out)
      cases t with
      | false =>
        go_wp2_with (go_at_call 22; refine CE.out.mono ?_; rintro e w6 ⟨rfl, rfl⟩)
        go_ret2
        exact decd_none HDD.out HLO.out
      | true =>
        cases u with
        | false =>
          go_wp2_with (first | (go_at_call 22; refine CE.out.mono ?_; rintro e w6 ⟨rfl, rfl⟩) | (go_at_call 13; refine CR.out.mono ?_; rintro e w7 ⟨rfl, hb7⟩; have HB7 := Lib.hid hb7; clear hb7))
          go_ret2
          exact decd_none HDD.out (HLO.out.trans (HB7.out.mono HLO.out.size))
        | true =>
          go_wp2_with (first | (go_at_call 22; refine CE.out.mono ?_; rintro e w6 ⟨rfl, rfl⟩) | (go_at_call 13; refine CR.out.mono ?_; rintro e w7 ⟨rfl, hb7⟩; have HB7 := Lib.hid hb7; clear hb7))
          go_ret2
          have hsome : decP b = some (l.map coreG) := HDD.out
          exact decd_of HPL.out (by rw [hsome]; rfl) (by rw [hsome]; rfl) (HA.out.row.below HB7.out) (fun x hx => (HSG.out x hx).below HB7.out) HA.out.shs (by omega) (HLO.out.trans (HB7.out.mono HLO.out.size))
end Go.Proofs.Ytofadlenblobnaa.Exp
