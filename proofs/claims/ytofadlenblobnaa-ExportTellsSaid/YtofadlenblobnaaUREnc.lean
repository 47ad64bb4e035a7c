/-
  The document's Encode; an operation of a drawn region that nobody wants. Conditions: the list lies in memory; names of at most 1000000 bytes.
-/
import Derived.Test.YtofadlenblobnaaURBy
namespace Go.Proofs.Ytofadlenblobnaa.Exp
open Go.RowKit Codec Typ Tre
open Cod (Byts Owns Grew bytesOf)
set_option maxRecDepth 100000
set_option linter.unusedSimpArgs false
set_option maxHeartbeats 4000000 in
theorem rencode_any (l : List Sg) (A : Option Addr) (c n : Nat) (w : World) (hn : l.length = n) (hr : Row 3 sgC w A l) (hi : ∀ g ∈ l, SgIn w g) (hs : ∀ g ∈ l, g.s.size ≤ 1000000 ∧ 0 ≤ g.r) (hlen : n ≤ 9223372036854775807) :
    Calls Try.prog 8 #[.slice A n c] w (Encd (encV (l.map coreG)) (encN (l.map coreG)) w) := by
  have CR := Lib.hid (rright_any l A c n w hn hr hi hs hlen)
  rcases Bool.eq_false_or_eq_true (rightL (l.map coreG)) with ht | ht
  · have HV := Lib.hid (enc_yes ht)
    have HLN := Lib.hid (encL_len ht)
    have CB : Hid (∀ w1, Below w.heap.size w w1 → Calls Try.prog 18 #[.slice A n c] w1 (Grew w1 w1.heap.size (encL (l.map coreG)))) := Lib.hid (fun w1 hb => rbytes_any l A c n w1 hn (hr.below hb) (fun g hg => (hi g hg).below hb) ht)
    rw [ht] at CR
    clear ht hr hi hs hn
    go_enter Try.func8, Try.ntmps8
    go_wp2_with (go_at_call 14; refine CR.out.mono ?_; rintro e w1 ⟨rfl, hb1⟩; have HB1 := Lib.hid hb1; have CB1 := Lib.hid (CB.out w1 hb1); clear hb1)
    refine CB1.out.mono ?_
    rintro e w2 ⟨A2, n2, c2, rfl, ho2, hb2⟩
    have HO2 := Lib.hid ho2
    have HB2 := Lib.hid (HB1.out.trans (hb2.mono HB1.out.size))
    clear ho2 hb2
    go_wp2_with fail
    go_ret2
    exact Encd.of HV.out.1 HV.out.2 HO2.out.byts HLN.out HB2.out
  · have HV := Lib.hid (enc_no ht)
    rw [ht] at CR
    clear ht hr hi hs hn
    go_enter Try.func8, Try.ntmps8
    go_wp2_with (go_at_call 14; refine CR.out.mono ?_; rintro e w1 ⟨rfl, hb1⟩; have HB1 := Lib.hid hb1; clear hb1)
    go_ret2
    exact Encd.of HV.out.1 HV.out.2 Byts.none_ (by simp) HB1.out
section
variable {P : Program} {ops : Array Oper} {Q : Exit → Act → World → Prop} {md : Region.Mode} {S : World → Prop} {n fuel : Nat} {a : Act} {w w' : World} {oi : Oper} {listed : Array Bool}
/-- An operation that nobody wants. -/
theorem at_pass (i d : Nat) (hi : ops[i]? = some oi) (hd : oi.dst = some d) (hB : (Region.noSelect ops && Region.free md ops listed i && (Region.ready md ops listed).contains i) = true) (hin : i < n) (hn : n < ops.size)
    (hQ : ∀ c a w, Q (.panic c) (a.put oi.dst undef) w → Q (.panic c) a w) (hw : Region.wanted oi (yielded ops a.tmps) = false) (hS : S w)
    (h : Lex.AtS P md ops Q S n fuel (listed.setIfInBounds i true) (a.put (some d) undef) w) : Lex.AtS P md ops Q S n (fuel + 1) listed a w := fun hs hc inv => by
  simp only [Bool.and_eq_true] at hB
  have hr' : i ∈ Region.ready md ops listed := by simpa using hB.2
  rw [← hd] at h
  exact Lex.anyS_first hi (Region.noSelect_spec hB.1.1) hQ hs hc hn hin fuel listed a w inv (Region.free_spec hi hB.1.2) hr' (.inr ⟨hw, rfl⟩) hS (h hs hc (inv.set hr' hin))
/-- .. once nothing else may come up. -/
theorem at_pass1 (i d : Nat) (hi : ops[i]? = some oi) (hd : oi.dst = some d) (hr : Region.ready md ops listed = [i]) (hin : i < n) (hw : Region.wanted oi (yielded ops a.tmps) = false) (hS : S w)
    (h : Lex.AtS P md ops Q S n fuel (listed.setIfInBounds i true) (a.put (some d) undef) w) : Lex.AtS P md ops Q S n (fuel + 1) listed a w := fun hs hcb inv => by
  refine ⟨fun h0 => (by rw [h0] at hr; cases hr), fun j hj => ?_⟩
  rw [hr] at hj
  obtain rfl : j = i := by simpa using hj
  unfold wpOp
  simp only [hi, hw]
  rw [if_neg (by decide), hd]
  exact ⟨fun _ => hS, h hs hcb (inv.set (by rw [hr]; simp) hin)⟩
end
end Go.Proofs.Ytofadlenblobnaa.Exp
