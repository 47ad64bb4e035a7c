/-
  What the document's Reader reads: get, Num, Count, Text. Conditions: the Reader's block is known.
-/
import Derived.Test.YtpbojepliddflaaCRef
import Derived.Deep.QuietTactic
import Derived.BigQuiet
namespace Go.Proofs.Ytpbojepliddflaa.Cod
open Go.RowKit Codec
set_option maxRecDepth 100000
theorem Rdr.nils {w : World} {B g : Nat} {A : Option Addr} {n c : Nat} {b : Bool} (hB : B ≤ g) (hg : w.heap[g]? = some (.cells #[.slice A n c, .bool b] 47 (0, 0))) :
    Rdr 47 ((w.setCell ⟨g, 1, none⟩ (.bool true)).setCell ⟨g, 0, none⟩ (.slice none 0 0)) B g ⟨[], true⟩ ∧ w.grownBy ((w.setCell ⟨g, 1, none⟩ (.bool true)).setCell ⟨g, 0, none⟩ (.slice none 0 0)) (some g) := by
  refine ⟨Rdr.bads hB (A := none) ?_, grown_trans (grown_set w g 1 _) (grown_set _ g 0 _)⟩
  rw [set_at (set_at hg 1 _) 0 _]
  rfl
set_option maxHeartbeats 400000 in
theorem get_few (w : World) (B g k : Nat) (s : St) (hr : Rdr 47 w B g s) (hsh : short k s = true) :
    Calls Try.prog 31 #[.pointer (some ⟨g, 0, none⟩), .int .i64 k] w (Took 47 w B g (tk k s) (tkS k s)) := by
  rw [tk_short hsh, tkS_short hsh]
  obtain ⟨_, hB, A, n, c, hg, hb, _⟩ := hr
  have HN := Lib.hid (Rdr.nils hB hg)
  have c0 : w.cell? ⟨g, 0, none⟩ = some (.slice A n c) := cell_at hg 0
  have c1 : w.cell? ⟨g, 1, none⟩ = some (.bool s.bad) := cell_at hg 1
  have f0 := free_at hg 0
  have f1 := free_at hg 1
  have hn := hb.len
  unfold short at hsh
  rw [hn] at hsh
  clear hg hb hn
  generalize s.bad = b at *
  cases b
  · have hk : n < k := by simpa using hsh
    clear hsh
    go_enter Try.func31, Try.ntmps31
    go_wp2
    go_ret
    exact ⟨none, 0, 0, rfl, Byts.none_, HN.out.1, HN.out.2⟩
  · clear hsh
    go_enter Try.func31, Try.ntmps31
    go_wp2
    go_ret
    exact ⟨none, 0, 0, rfl, Byts.none_, HN.out.1, HN.out.2⟩
set_option maxHeartbeats 400000 in
theorem get_long (w : World) (B g k : Nat) (s : St) (hr : Rdr 47 w B g s) (hsh : short k s = false) :
    Calls Try.prog 31 #[.pointer (some ⟨g, 0, none⟩), .int .i64 k] w (Took 47 w B g (tk k s) (tkS k s)) := by
  obtain ⟨hok, hB, A, n, c, hg, hb, hnc, hcm, hnm⟩ := hr
  have hl := hb.len
  have h1 : Hid (tk k s = s.left.take k ∧ tkS k s = ⟨s.left.drop k, false⟩) := by unfold tk tkS; rw [hsh]; exact Lib.hid ⟨rfl, rfl⟩
  have hsb : s.bad = false ∧ k ≤ n := by
    unfold short at hsh
    rw [hl] at hsh
    simpa using hsh
  obtain ⟨hsb, hkn⟩ := hsb
  have hkc : k ≤ c := by omega
  have hcm2 : c ≤ 9223372036854775807 := hcm
  rw [hsb] at hg
  have HB := Lib.hid hb
  have HG := Lib.hid hg
  have c0 : w.cell? ⟨g, 0, none⟩ = some (.slice A n c) := cell_at hg 0
  have c1 : w.cell? ⟨g, 1, none⟩ = some (.bool false) := cell_at hg 1
  have f0 := free_at hg 0
  have hs1 := fun w => run_to w A n c k hkc
  have hs2 := fun w => run_from w A n c k hkn
  have HA := Lib.hid (HB.out.drop k c hkn hnc)
  generalize (if c = k then A else A.map (·.add k)) = A2 at *
  have hd : decide (n < k) = false := by simpa using hkn
  clear hg hl hb hok hcm hsb hsh
  go_enter Try.func31, Try.ntmps31
  go_wp2_with fail
  go_ret
  rw [h1.out.1, h1.out.2]
  refine ⟨A, k, c, rfl, (HB.out.take k hkn).setCell hB _, ⟨goodOk _, hB, A2, n - k, c - k, set_at HG.out 0 _, HA.out.setCell hB _, by omega, ?_, by omega⟩, grown_set w g 0 _⟩
  unfold maxLen; omega
theorem get_any (w : World) (B g k : Nat) (s : St) (hr : Rdr 47 w B g s) :
    Calls Try.prog 31 #[.pointer (some ⟨g, 0, none⟩), .int .i64 k] w (Took 47 w B g (tk k s) (tkS k s)) := by
  cases h : short k s
  · exact get_long w B g k s hr h
  · exact get_few w B g k s hr h
set_option maxHeartbeats 400000 in
theorem rnum_any (w : World) (B g : Nat) (s : St) (hr : Rdr 47 w B g s) :
    Calls Try.prog 22 #[.pointer (some ⟨g, 0, none⟩)] w (Turned 47 w B g (.int .i64 (num s)) (tkS 8 s)) := by
  have HT := Lib.hid (get_any w B g 8 s hr)
  have HS : Hid (wrap64 (leVal (tk 8 s) : Int) = num s) := signed_of _ (num_lt s)
  clear hr
  have hle := take_le 8 s
  go_enter Try.func22, Try.ntmps22
  go_wp2_with fail
  refine HT.out.mono ?_
  rintro e w1 ⟨A, m, c, rfl, hb, hw, hgr⟩
  have HB := Lib.hid hb
  have HW := Lib.hid hw
  have HG := Lib.hid hgr
  have hm : m ≤ 8 := by have := hb.len; omega
  clear hle
  generalize tk 8 s = xs at *
  generalize tkS 8 s = s1 at *
  generalize num s = y at *
  clear hb hw hgr HT
  go_wp2_with fail
  go_loop [4, 5] (fun r i => ∃ j : Nat, j ≤ m ∧ i = .int .i64 j ∧ r = .int .u64 (leVal (xs.take j))) (fun _ i => m - (intOf i).toNat)
  case atStart => exact ⟨0, Nat.zero_le _, rfl, rfl⟩
  case round =>
    obtain ⟨j, hj, rfl, rfl⟩ := hrel
    by_cases hlt : j < m
    · obtain ⟨b, off, hA, _, hc⟩ := HB.out.at_ (by omega)
      subst hA
      have hcx := hc j hlt
      have HX := Lib.hid (number_step xs j (by rw [HB.out.len]; exact hlt))
      have HR := Lib.hid (leVal_lt (xs.take j))
      have HJ := Lib.hid (show (xs.take j).length = j by rw [List.length_take, HB.out.len]; omega)
      unfold byt at hcx
      clear hc
      generalize leVal (xs.take j) = r at *
      go_wp2
      go_round
      case rel =>
        have hr := HR.out
        rw [HJ.out] at hr
        refine ⟨j + 1, by omega, by go_num, ?_⟩
        rw [HX.out, List.getD_eq_getElem?_getD, or_step r _ j hr (UInt8.toNat_lt _) (by omega)]
      case measure => simp [intOf]; omega
    · obtain rfl : j = m := by omega
      have HJ := Lib.hid (show xs.take j = xs from List.take_of_length_le (by rw [HB.out.len]; omega))
      rw [HJ.out]
      generalize leVal xs = r at *
      go_wp2
      go_ret
      exact ⟨by rw [← HS.out]; rfl, HW.out, HG.out⟩
end Go.Proofs.Ytpbojepliddflaa.Cod
