/-
  What the document's Reader reads: get, Num, Count, Text. Conditions: the Reader's block is known.
-/
import Derived.Test.YtofadlenblobnaaCRef
import Derived.Deep.QuietTactic
import Derived.BigQuiet
namespace Go.Proofs.Ytofadlenblobnaa.Cod
open Go.RowKit Codec
set_option maxRecDepth 100000
theorem Rdr.nils {w : World} {B g : Nat} {A : Option Addr} {n c : Nat} {b : Bool} (hB : B ≤ g) (hg : w.heap[g]? = some (.cells #[.slice A n c, .bool b] 51 (0, 0))) :
    Rdr 51 ((w.setCell ⟨g, 1, none⟩ (.bool true)).setCell ⟨g, 0, none⟩ (.slice none 0 0)) B g ⟨[], true⟩ ∧ w.grownBy ((w.setCell ⟨g, 1, none⟩ (.bool true)).setCell ⟨g, 0, none⟩ (.slice none 0 0)) (some g) := by
  refine ⟨Rdr.bads hB (A := none) ?_, grown_trans (grown_set w g 1 _) (grown_set _ g 0 _)⟩
  rw [set_at (set_at hg 1 _) 0 _]
  rfl
set_option maxHeartbeats 400000 in
theorem get_few (w : World) (B g k : Nat) (s : St) (hr : Rdr 51 w B g s) (hsh : short k s = true) :
    Calls Try.prog 40 #[.pointer (some ⟨g, 0, none⟩), .int .i64 k] w (Took 51 w B g (tk k s) (tkS k s)) := by
  rw [tk_short hsh, tkS_short hsh]
  obtain ⟨_, hB, A, n, c, hg, hb, _⟩ := hr
  have HN := Lib.hid (Rdr.nils hB hg)
  have c0 : w.cell? ⟨g, 0, none⟩ = some (.slice A n c) := cell_at hg 0
  have c1 : w.cell? ⟨g, 1, none⟩ = some (.bool s.bad) := cell_at hg 1
  have f0 := free_at hg 0
  have f1 := free_at hg 1
  have hn := hb.len
  unfold short at hsh
  rw [hn] at hsh
  clear hg hb hn
  generalize s.bad = b at *
  cases b
  · have hk : n < k := by simpa using hsh
    clear hsh
    go_enter Try.func40, Try.ntmps40
    go_wp2
    go_ret
    exact ⟨none, 0, 0, rfl, Byts.none_, HN.out.1, HN.out.2⟩
  · clear hsh
    go_enter Try.func40, Try.ntmps40
    go_wp2
    go_ret
    exact ⟨none, 0, 0, rfl, Byts.none_, HN.out.1, HN.out.2⟩
set_option maxHeartbeats 400000 in
theorem get_long (w : World) (B g k : Nat) (s : St) (hr : Rdr 51 w B g s) (hsh : short k s = false) :
    Calls Try.prog 40 #[.pointer (some ⟨g, 0, none⟩), .int .i64 k] w (Took 51 w B g (tk k s) (tkS k s)) := by
  obtain ⟨hok, hB, A, n, c, hg, hb, hnc, hcm, hnm⟩ := hr
  have hl := hb.len
  have h1 : Hid (tk k s = s.left.take k ∧ tkS k s = ⟨s.left.drop k, false⟩) := by unfold tk tkS; rw [hsh]; exact Lib.hid ⟨rfl, rfl⟩
  have hsb : s.bad = false ∧ k ≤ n := by
    unfold short at hsh
    rw [hl] at hsh
    simpa using hsh
  obtain ⟨hsb, hkn⟩ := hsb
  have hkc : k ≤ c := by omega
  have hcm2 : c ≤ 9223372036854775807 := hcm
  rw [hsb] at hg
  have HB := Lib.hid hb
  have HG := Lib.hid hg
  have c0 : w.cell? ⟨g, 0, none⟩ = some (.slice A n c) := cell_at hg 0
  have c1 : w.cell? ⟨g, 1, none⟩ = some (.bool false) := cell_at hg 1
  have f0 := free_at hg 0
  have hs1 := fun w => run_to w A n c k hkc
  have hs2 := fun w => run_from w A n c k hkn
  have HA := Lib.hid (HB.out.drop k c hkn hnc)
  generalize (if c = k then A else A.map (·.add k)) = A2 at *
  have hd : decide (n < k) = false := by simpa using hkn
  clear hg hl hb hok hcm hsb hsh
  go_enter Try.func40, Try.ntmps40
  go_wp2_with fail
  go_ret
  rw [h1.out.1, h1.out.2]
  refine ⟨A, k, c, rfl, (HB.out.take k hkn).setCell hB _, ⟨goodOk _, hB, A2, n - k, c - k, set_at HG.out 0 _, HA.out.setCell hB _, by omega, ?_, by omega⟩, grown_set w g 0 _⟩
  unfold maxLen; omega
theorem get_any (w : World) (B g k : Nat) (s : St) (hr : Rdr 51 w B g s) :
    Calls Try.prog 40 #[.pointer (some ⟨g, 0, none⟩), .int .i64 k] w (Took 51 w B g (tk k s) (tkS k s)) := by
  cases h : short k s
  · exact get_long w B g k s hr h
  · exact get_few w B g k s hr h
end Go.Proofs.Ytofadlenblobnaa.Cod
