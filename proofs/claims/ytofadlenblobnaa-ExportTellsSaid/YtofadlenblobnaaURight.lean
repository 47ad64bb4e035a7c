/-
  The program's Right. Conditions: the list lies in memory.
-/
import Derived.Test.YtofadlenblobnaaURgt
namespace Go.Proofs.Ytofadlenblobnaa.Exp
open Go.RowKit Typ Codec Tre
set_option maxRecDepth 100000
structure RAt (w wr : World) (a : ByteArray) : Prop where
  low : Below w.heap.size w wr
  kept : Kept w.heap.size a wr
theorem RAt.made {w wr : World} {a : ByteArray} (h : RAt w wr a) (cs : Array Value) (T : TypeId) : RAt w (wr.alloc (.cells cs T)) a :=
  ⟨h.low.trans ((ball_new wr cs T).mono h.low.size), h.kept.below (ball_new wr cs T)⟩
theorem RAt.rose {w wr w1 : World} {a s : ByteArray} (h : RAt w wr a) (hk : Kept w.heap.size s w1) (hg : wr.grownBy w1 (some w.heap.size)) : RAt w w1 s :=
  ⟨h.low.grown hg h.low.size (fun b e => by injection e with e; omega), hk⟩
theorem RAt.then_ {w wr w1 : World} {a : ByteArray} (h : RAt w wr a) (hb : Below wr.heap.size wr w1) : RAt w w1 a :=
  ⟨h.low.trans (hb.mono h.low.size), h.kept.below hb⟩
/-- A new block stays where the closure writes its own. -/
theorem new_kept {wr w1 : World} {c : Nat} {cs : Array Value} {T : TypeId} (hc : c < wr.heap.size) (hg : (wr.alloc (.cells cs T)).grownBy w1 (some c)) : w1.heap[wr.heap.size]? = some (.cells cs T (0, 0)) :=
  (hg.block _ (by simp) (by simp; omega)).trans (new_at wr cs T)
theorem drop_at {l : List Sg} {k : Nat} {x : Sg} (hx : l[k]? = some x) : (l.drop k).map coreG = coreG x :: (l.drop (k + 1)).map coreG := by
  obtain ⟨h, e⟩ := List.getElem?_eq_some_iff.1 hx
  rw [List.drop_eq_getElem_cons h, e, List.map_cons]
theorem chain_at {l : List Sg} {k : Nat} {x : Sg} (a : List UInt8) (hx : l[k]? = some x) : chainP a ((l.drop k).map coreG) = (risP a x.s.data.toList && typedP (coreG x) && chainP x.s.data.toList ((l.drop (k + 1)).map coreG)) := by
  rw [drop_at hx]
  rfl
theorem chain_end {l : List Sg} {n : Nat} (a : List UInt8) (hn : l.length = n) : chainP a ((l.drop n).map coreG) = true := by
  rw [List.drop_eq_nil_of_le (Nat.le_of_eq hn)]
  rfl
set_option maxHeartbeats 4000000 in
theorem right_any (l : List Sg) (A : Option Addr) (c n : Nat) (w : World) (hn : l.length = n) (hr : Row 3 sgC w A l) (hi : ∀ g ∈ l, SgIn w g) (hlen : n ≤ 9223372036854775807) :
    Calls Try.prog 13 #[.slice A n c] w (EndsB (.bool (rightL (l.map coreG))) w) := by
  have HR := Lib.hid hr
  have HI := Lib.hid hi
  have HN := Lib.hid hn
  have HD : Hid (rightL (l.map coreG) = (!decide (32 < n) && chainP [] (l.map coreG))) := Lib.hid (by unfold rightL; rw [List.length_map, hn])
  obtain ⟨R, hR⟩ : ∃ R, rightL (l.map coreG) = R := ⟨_, rfl⟩
  rw [hR] at HD ⊢
  clear hr hi hn hR
  by_cases h4 : 32 < n
  · have H := Lib.hid (show R = false by rw [HD.out, decide_eq_true h4]; rfl)
    have h4' : decide ((32 : Int) < (n : Int)) = true := by simp; omega
    go_enter Try.func13, Try.ntmps13
    go_wp2_with fail
    go_ret
    exact ends_bool H.out.symm (Below.refl _ _)
  have H := Lib.hid (show R = chainP [] ((l.drop 0).map coreG) by rw [HD.out, decide_eq_false h4]; rfl)
  have h4' : decide ((32 : Int) < (n : Int)) = false := by simp; omega
  have CR := Lib.hid (riser_any w)
  clear HD
  go_enter Try.func13, Try.ntmps13
  go_wp2_with (go_at_call 26; refine CR.out.mono ?_; rintro e w0 ⟨rfl, hk, hb⟩; have H0 : Hid (RAt w w0 ⟨#[]⟩) := Lib.hid ⟨hb, hk⟩; clear hk hb)
  go_loopw [12] (fun i wr => ∃ (k : Nat) (a : ByteArray), k ≤ n ∧ i = .int .i64 k ∧ Hid (RAt w wr a) ∧ Hid (R = chainP a.data.toList ((l.drop k).map coreG))) (fun i _ => n - (intOf i).toNat)
  case atStart => exact ⟨0, ⟨#[]⟩, Nat.zero_le _, rfl, H0, H⟩
  case round =>
    clear H
    obtain ⟨k, a, hk, rfl, HA, H⟩ := hrel
    by_cases hlt : k < n
    · obtain ⟨x, hx⟩ : ∃ x, l[k]? = some x := ⟨_, List.getElem?_eq_getElem (by rw [HN.out]; exact hlt)⟩
      obtain ⟨b1, o1, rfl, hc1⟩ := HR.out.at_ HA.out.low hx
      obtain ⟨p0, p1, p2⟩ := sgC_at hc1
      have hi := HI.out x (List.mem_of_getElem? hx)
      have HCH := Lib.hid (chain_at a.data.toList hx)
      obtain ⟨xs, xa, xc, xp, xr⟩ := x
      have HIX := Lib.hid hi
      have hA1 := HA.out.made #[.string xs, .slice xa xp.length xc, .int .u8 xr] 37
      have CC := Lib.hid (rises_any w.heap.size a xs _ hA1.kept hi.s)
      have n1 := new_at wr #[.string xs, .slice xa xp.length xc, .int .u8 xr] 37
      have q0 : (wr.alloc (.cells #[.string xs, .slice xa xp.length xc, .int .u8 xr] 37)).cell? ⟨wr.heap.size, 0, none⟩ = some (.string xs) := cell_at n1 0
      have HA1 := Lib.hid hA1
      have HLT := Lib.hid (lt_of_heap HA.out.kept)
      clear hc1 hx hi hA1 n1
      obtain ⟨t1, ht1⟩ : ∃ t, risP a.data.toList xs.data.toList = t := ⟨_, rfl⟩
      obtain ⟨t2, ht2⟩ : ∃ t, typedP (coreG ⟨xs, xa, xc, xp, xr⟩) = t := ⟨_, rfl⟩
      have HCH2 : Hid (R = (t1 && t2 && chainP xs.data.toList ((l.drop (k + 1)).map coreG))) := Lib.hid (by rw [H.out, HCH.out, ht2]; show (risP a.data.toList xs.data.toList && _ && _) = _; rw [ht1])
      rw [ht1] at CC
      have HT2 := Lib.hid ht2
      clear ht1 ht2 HCH H
      cases t1 with
      | false =>
        have HF := Lib.hid (show R = false by rw [HCH2.out]; rfl)
        go_wp2_with (go_at_call 41; refine CC.out.mono ?_; rintro e w1 ⟨rfl, hk1, hg1⟩; have HA2 := Lib.hid (HA1.out.rose hk1 hg1); clear hk1 hg1)
        go_ret
        exact ends_bool HF.out.symm HA2.out.low
      | true =>
        cases t2 with
        | false =>
          have HF := Lib.hid (show R = false by rw [HCH2.out]; rfl)
          go_wp2_with (first | (go_at_call 41; refine CC.out.mono ?_; rintro e w1 ⟨rfl, hk1, hg1⟩; have HA2 := Lib.hid (HA1.out.rose hk1 hg1); have n2 := new_kept HLT.out hg1; have r0 := cell_at n2 0; have r1 := cell_at n2 1; have r2 := cell_at n2 2; have CT := Lib.hid (typed_any ⟨xs, xa, xc, xp, xr⟩ w1 (HIX.out.below HA2.out.low)); rw [HT2.out, sgV_eq] at CT; clear hk1 hg1 n2) | (go_at_call 27; refine CT.out.mono ?_; rintro e w2 ⟨rfl, hb2⟩; have HA3 := Lib.hid (HA2.out.then_ hb2); clear hb2))
          go_ret
          exact ends_bool HF.out.symm HA3.out.low
        | true =>
          have HF := Lib.hid (show R = chainP xs.data.toList ((l.drop (k + 1)).map coreG) by rw [HCH2.out]; rfl)
          go_wp2_with (first | (go_at_call 41; refine CC.out.mono ?_; rintro e w1 ⟨rfl, hk1, hg1⟩; have HA2 := Lib.hid (HA1.out.rose hk1 hg1); have n2 := new_kept HLT.out hg1; have r0 := cell_at n2 0; have r1 := cell_at n2 1; have r2 := cell_at n2 2; have CT := Lib.hid (typed_any ⟨xs, xa, xc, xp, xr⟩ w1 (HIX.out.below HA2.out.low)); rw [HT2.out, sgV_eq] at CT; clear hk1 hg1 n2) | (go_at_call 27; refine CT.out.mono ?_; rintro e w2 ⟨rfl, hb2⟩; have HA3 := Lib.hid (HA2.out.then_ hb2); clear hb2))
          go_roundw
          case rel => exact ⟨k + 1, xs, by omega, by go_num, HA3, HF⟩
          case measure => simp [intOf]; omega
    · obtain rfl : k = n := by omega
      have HF := Lib.hid (show R = true by rw [H.out, chain_end _ HN.out])
      go_wp2_with fail
      go_ret
      exact ends_bool HF.out.symm HA.out.low
end Go.Proofs.Ytofadlenblobnaa.Exp
