/-
  What the document's Reader reads: Count, Text. Conditions: the Reader's block is known.
-/
import Derived.Test.YtofadlenblobnaaCGet
namespace Go.Proofs.Ytofadlenblobnaa.Cod
open Go.RowKit Codec
set_option maxRecDepth 100000
theorem two_of (xs : List UInt8) (h : xs.length = 2) : leVal xs = (xs.getD 0 0).toNat + 256 * (xs.getD 1 0).toNat := by
  match xs, h with
  | [x, y], _ => simp [leVal]
theorem grown_drewN {w w' : World} {row : Option Nat} (h : w.grownBy w' row) (m : Nat) : w.grownBy (w'.drewN m) row := ⟨h.os, h.tape, h.output, h.size, h.block⟩
theorem Rdr.drewN {T : TypeId} {w : World} {B g : Nat} {s : St} (h : Rdr T w B g s) (m : Nat) : Rdr T (w.drewN m) B g s := h.keep (fun _ _ => rfl) rfl
theorem bad_at {w : World} {B g : Nat} {s : St} (h : Rdr 51 w B g s) : w.cell? ⟨g, 1, none⟩ = some (.bool s.bad) := by
  obtain ⟨_, _, A, n, c, hg, _⟩ := h
  exact cell_at hg 1
set_option maxHeartbeats 400000 in
theorem rcount_few (w : World) (B g : Nat) (most : Int) (s : St) (hr : Rdr 51 w B g s) (hsh : short 2 s = true) :
    Calls Try.prog 23 #[.pointer (some ⟨g, 0, none⟩), .int .i64 most] w (Turned 51 w B g (.int .i64 (count most s)) (countS most s)) := by
  have HT := Lib.hid (get_any w B g 2 s hr)
  have h0 : small s = 0 := by unfold small; rw [tk_short hsh]; rfl
  have h1 : Hid (count most s = 0) := by unfold count; rw [h0]; split <;> exact Lib.hid rfl
  have h2 : Hid (countS most s = ⟨[], true⟩) := by unfold countS; rw [tkS_short hsh]; split <;> exact Lib.hid rfl
  rw [tk_short hsh, tkS_short hsh] at HT
  rw [h1.out, h2.out]
  clear hr hsh h0 h1 h2
  go_enter Try.func23, Try.ntmps23
  go_wp2_with fail
  refine HT.out.mono ?_
  rintro e w1 ⟨A, m, c, rfl, hb, hw, hgr⟩
  have HW := Lib.hid hw
  have HG := Lib.hid hgr
  have hc := bad_at hw
  clear hb hw hgr HT
  go_wp2_with fail
  go_ret
  exact ⟨rfl, HW.out, HG.out⟩
set_option maxHeartbeats 1000000 in
theorem rcount_long (w : World) (B g : Nat) (most : Int) (s : St) (hr : Rdr 51 w B g s) (hsh : short 2 s = false) :
    Calls Try.prog 23 #[.pointer (some ⟨g, 0, none⟩), .int .i64 most] w (Turned 51 w B g (.int .i64 (count most s)) (countS most s)) := by
  have HT := Lib.hid (get_any w B g 2 s hr)
  have hl : (tk 2 s).length = 2 := by
    unfold tk
    rw [hsh, if_neg (by decide), List.length_take]
    unfold short at hsh
    simp at hsh
    omega
  have hsm := two_of (tk 2 s) hl
  have e : leVal (tk 2 s) = small s := rfl
  have hx : small s < 65536 := small_lt s
  rw [e] at hsm
  have hbd : (tkS 2 s).bad = false := by unfold tkS; rw [hsh]; rfl
  have HS := Lib.hid hsm
  have HL := Lib.hid hl
  have HBD := Lib.hid hbd
  have hy0 := (tk 2 s).getD 0 0 |>.toNat_lt
  have hy1 := (tk 2 s).getD 1 0 |>.toNat_lt
  generalize tk 2 s = xs at *
  clear hr hsh e hsm hl hbd
  go_enter Try.func23, Try.ntmps23
  go_wp2_with fail
  refine HT.out.mono ?_
  rintro e w1 ⟨A, m, c, rfl, hb, hw, hgr⟩
  have hm := hb.len
  rw [HL.out] at hm
  subst hm
  obtain ⟨b, off, rfl, hbB, hcx⟩ := hb.at_ (by decide)
  have d0 := hcx 0 (by decide)
  have d1 := hcx 1 (by decide)
  unfold byt at d0 d1
  rw [Nat.add_zero] at d0
  have hc := bad_at hw
  rw [HBD.out] at hc
  have HW := Lib.hid hw
  have HG := Lib.hid hgr
  obtain ⟨_, hB, A2, n2, c2, hg2, _⟩ := hw
  have HN := Lib.hid (fun m => Rdr.nils (w := w1.drewN m) hB hg2)
  have c0 : w1.cell? ⟨g, 0, none⟩ = some (.slice A2 n2 c2) := cell_at hg2 0
  have f0 := free_at hg2 0
  have f1 := free_at hg2 1
  clear hb hgr HT hcx hg2
  have hS2 : (((xs.getD 0 0).toNat + 256 * (xs.getD 1 0).toNat : Nat)) = small s := HS.out.symm
  have HS2 := Lib.hid hS2
  clear hS2
  generalize (xs.getD 0 0).toNat = x0 at *
  generalize (xs.getD 1 0).toNat = x1 at *
  go_wp2_with fail
  go_quiet (fail)
  by_cases ho : most < (x0 : Int) + 256 * (x1 : Int)
  · have ho2 : most < (small s : Int) := by rw [HS.out]; omega
    have H1 : Hid (count most s = 0) := by unfold count over; rw [decide_eq_true ho2]; exact Lib.hid rfl
    have H2 : Hid (countS most s = ⟨[], true⟩) := by unfold countS over; rw [decide_eq_true ho2]; exact Lib.hid rfl
    clear ho2
    go_wp2
    go_ret
    rw [H1.out, H2.out]
    exact ⟨rfl, (HN.out _).1, grown_trans (grown_drewN HG.out _) (HN.out _).2⟩
  · have ho2 : ¬ most < (small s : Int) := by rw [HS.out]; omega
    have H1 : Hid (count most s = small s) := by unfold count over; rw [decide_eq_false ho2]; exact Lib.hid rfl
    have H2 : Hid (countS most s = tkS 2 s) := by unfold countS over; rw [decide_eq_false ho2]; exact Lib.hid rfl
    clear ho2
    go_wp2
    go_ret
    rw [H1.out, H2.out, HS.out]
    refine ⟨?_, HW.out.drewN _, grown_drewN HG.out _⟩
    simp
theorem rcount_any (w : World) (B g : Nat) (most : Int) (s : St) (hr : Rdr 51 w B g s) :
    Calls Try.prog 23 #[.pointer (some ⟨g, 0, none⟩), .int .i64 most] w (Turned 51 w B g (.int .i64 (count most s)) (countS most s)) := by
  cases h : short 2 s
  · exact rcount_long w B g most s hr h
  · exact rcount_few w B g most s hr h
set_option maxHeartbeats 400000 in
theorem rtext_any (w : World) (B g : Nat) (most : Int) (s : St) (hr : Rdr 51 w B g s) :
    Calls Try.prog 24 #[.pointer (some ⟨g, 0, none⟩), .int .i64 most] w (Turned 51 w B g (.string ⟨(text most s).toArray⟩) (textS most s)) := by
  have HN := Lib.hid (rcount_any w B g most s hr)
  have HT := Lib.hid (fun w1 (h : Rdr 51 w1 B g (countS most s)) => get_any w1 B g (count most s) (countS most s) h)
  have H1 : Hid (tk (count most s) (countS most s) = text most s) := Lib.hid rfl
  have H2 : Hid (tkS (count most s) (countS most s) = textS most s) := Lib.hid rfl
  rw [H1.out, H2.out] at HT
  clear hr H1 H2
  generalize count most s = n at *
  generalize countS most s = s1 at *
  generalize text most s = xs at *
  generalize textS most s = s2 at *
  go_enter Try.func24, Try.ntmps24
  go_wp2_with fail
  refine HN.out.mono ?_
  rintro e w1 ⟨rfl, hw, hg⟩
  have HG := Lib.hid hg
  have HT1 := Lib.hid (HT.out w1 hw)
  clear hw hg
  go_wp2_with fail
  refine HT1.out.mono ?_
  rintro e w2 ⟨A, m, c, rfl, hb, hw, hg⟩
  have HW := Lib.hid hw
  have HG2 := Lib.hid hg
  have hcv := run_string_of w2 B m c A xs hb
  clear hw hg hb
  go_wp2_with fail
  go_ret
  exact ⟨rfl, HW.out, grown_trans HG.out HG2.out⟩
end Go.Proofs.Ytofadlenblobnaa.Cod
