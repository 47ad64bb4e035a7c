/-
  The walk of the statement on a sum of two parts and on a bit that is turned: it answers true for every slice of bytes, every place and every bit. Conditions: the slice reads as bytes.
-/
import Derived.Test.YtenfldemfipcmaaLaws
import Derived.OwnWalk
import Derived.Laws.OwnMore
import Derived.Deep.QuietTactic
import Derived.BigQuiet
namespace Go.Proofs.Ytenfldemfipcmaa
open Go.ChangeShapes Go.WideShapes Go.ChangeAt Go.RowKit Sums
theorem info5 : (Try.prog.info? 5).map (fun i => (i.zero, i.size, i.bytes)) = some (some (.int .u8 0), 1, 1) := by kernel_rfl
def cellsOf (xs : List Nat) : List Value := xs.map fun (x : Nat) => Value.int .u8 (x : Int)
theorem cells_one (xs : List Nat) : ∀ u ∈ cellsOf xs, u.oneCell' = true := by
  intro u hu
  obtain ⟨x, _, rfl⟩ := List.mem_map.1 hu
  rfl
theorem cells_of {w : World} {b off n : Nat} {xs : List Nat} (h : Row w b off n xs) (o : Obj) : ∀ j u, (cellsOf xs)[j]? = some u → (w.alloc o).cell? ((⟨b, off, none⟩ : Addr).add j) = some u := by
  intro j u hu
  have hj : j < n := by
    have := (List.getElem?_eq_some_iff.1 hu).1
    simpa [cellsOf, h.len] using this
  rw [add_plain, Lib.cell?_alloc_marked o (h.cell j hj)]
  have hj2 : j < xs.length := by rw [h.len]; exact hj
  simp [cellsOf, hj2] at hu
  subst hu
  simp [List.getD_eq_getElem?_getD, hj2]
theorem own_form {w : World} {base n : Nat} {v : Value} {xs : List Value} (h : w.ownsRow base 5 1 v n xs) (hn : 0 < n) : ∃ g cap, v = .slice (some ⟨g, 0, none⟩) n cap ∧ base ≤ g ∧ n ≤ cap := by
  rcases h.2 with ⟨_, h0⟩ | ⟨g, cap, cur, hv, hb, _, hc, _⟩
  · omega
  · exact ⟨g, cap, hv, hb, hc⟩
theorem own_cell {w w0 : World} {base g cap b off n p : Nat} {xs : List Nat} (hr : Row w0 b off n xs) (h : w.ownsRow base 5 1 (.slice (some ⟨g, 0, none⟩) (0 + n) cap) (0 + n) ([] ++ cellsOf xs)) (hp : p < n) :
    w.cell? ⟨g, p, none⟩ = some (.int .u8 (xs.getD p 0 : Nat)) := by
  rw [Nat.zero_add] at h
  rw [h.cellAt p (by omega)]
  have hp2 : p < xs.length := by rw [hr.len]; exact hp
  simp [cellsOf, List.getD_eq_getElem?_getD, hp2]
theorem index_of (i : Int) (len : Nat) (hl : 0 < len) (hl2 : len ≤ 2000) :
    ∃ p : Nat, (wrap64 (i.tmod len + len)).tmod len = p ∧ p < len := by
  have h1 := Int.tmod_lt_of_pos i (b := len) (by omega)
  have h2 := Int.lt_tmod_of_pos i (b := len) (by omega)
  rw [IntWalk.wrap64_in _ ⟨by omega, by omega⟩, Int.tmod_eq_emod_of_nonneg (by omega)]
  have h3 := Int.emod_nonneg (i.tmod len + len) (b := len) (by omega)
  have h4 := Int.emod_lt_of_pos (i.tmod len + len) (b := len) (by omega)
  exact ⟨((i.tmod len + len) % len).toNat, by omega, by omega⟩
theorem bit_count (t : Int) (ht : 0 ≤ t ∧ t ≤ 255) : ∃ k : Nat, bits .and .u8 t 7 = k ∧ k < 8 := by
  obtain ⟨n, rfl⟩ := Int.eq_ofNat_of_zero_le ht.1
  refine ⟨n % 8, ?_, Nat.mod_lt _ (by decide)⟩
  rw [show (7 : Int) = ((7 : Nat) : Int) from rfl, u8_and_nat _ _ (by omega) (by decide), nat_mask3]
theorem quiet_left {P : Program} {f : FuncId} {args : Array Value} {w : World} {n : Nat} {v : Value}
    (h : Calls P f args (w.drewN n) (Ends v (w.drewN n))) : Calls P f args (w.drewN n) fun e w'' => e = .returned v ∧ ∃ m, w'' = w.drewN m :=
  h.mono fun _ _ ⟨he, hm⟩ => ⟨he, n, hm.symm⟩
theorem Row.drewN {w : World} {b off n : Nat} {xs : List Nat} (h : Row w b off n xs) (m : Nat) : Row (w.drewN m) b off n xs := ⟨h.len, h.cell, h.byte⟩
/-- The bytes of the copy, one of them turned. -/
theorem own_row {w w0 : World} {base g cap b off n p : Nat} {xs : List Nat} (hr : Row w0 b off n xs) (h : w.ownsRow base 5 1 (.slice (some ⟨g, 0, none⟩) (0 + n) cap) (0 + n) ([] ++ cellsOf xs)) (hp : p < n) (k : Nat) (hk : k < 8) :
    Row (w.setCell ⟨g, p, none⟩ (.int .u8 (bits .xor .u8 ((xs[p]?.getD 0 : Nat) : Int) (2 ^ k % 256)))) g 0 n (xs.set p (xs.getD p 0 ^^^ 2 ^ k)) := by
  rw [Nat.zero_add] at h
  have hp2 : p < xs.length := by rw [hr.len]; exact hp
  have hb := hr.byte p
  have h2 : 2 ^ k < 256 := Nat.lt_of_lt_of_eq (Nat.pow_lt_pow_right (a := 2) (by decide) hk) (by decide)
  have e : bits .xor .u8 ((xs[p]?.getD 0 : Nat) : Int) (2 ^ k % 256) = ((xs.getD p 0 ^^^ 2 ^ k : Nat) : Int) := by
    have e2 : (2 : Int) ^ k = ((2 ^ k : Nat) : Int) := by simp
    rw [← List.getD_eq_getElem?_getD, e2]
    generalize 2 ^ k = q at *
    rw [show (q : Int) % 256 = (q : Int) by omega, u8_xor_nat _ _ (by omega) h2]
  rw [e]
  have hs := (h.stored p (.int .u8 ((xs.getD p 0 ^^^ 2 ^ k : Nat) : Int))).1
  refine ⟨by rw [List.length_set, hr.len], fun i hi => ?_, fun i => ?_⟩
  · rw [Nat.zero_add, hs.cellAt i (by omega)]
    have hi2 : i < xs.length := by rw [hr.len]; exact hi
    by_cases hip : i = p
    · subst hip
      simp [cellsOf, List.getD_eq_getElem?_getD, hi2]
    · simp [cellsOf, List.getD_eq_getElem?_getD, Ne.symm hip, hi2]
  · by_cases hip : i = p
    · subst hip
      rw [show (xs.set i (xs.getD i 0 ^^^ 2 ^ k)).getD i 0 = xs.getD i 0 ^^^ 2 ^ k by simp [List.getD_eq_getElem?_getD, hp2]]
      exact turned_le _ _ hb hk
    · rw [show (xs.set p (xs.getD p 0 ^^^ 2 ^ k)).getD i 0 = xs.getD i 0 by simp [List.getD_eq_getElem?_getD, Ne.symm hip]]
      exact hr.byte i
set_option maxHeartbeats 400000 in
theorem join_walk (b off len cap : Nat) (xs : List Nat) (i t : Int) (w : World) (hl : 0 < len) (hl2 : len ≤ 2000) (hc : len ≤ cap) (hr : Row w b off len xs)
    (ht : 0 ≤ t ∧ t ≤ 255) :
    Calls Try.prog 4 #[.slice (some ⟨b, off, none⟩) len cap, .int .i64 i, .int .u8 t] w (EndsBelow (.bool true) w) := by
  obtain ⟨i0, hi0, hz0, hz1, hz2⟩ := info_parts info5
  have HR := Lib.hid hr
  clear hr
  obtain ⟨p, hp, hpl⟩ := index_of i len hl hl2
  obtain ⟨k, hk, hk8⟩ := bit_count t ht
  have hne : ((len : Int) == 0) = false := by simp; omega
  go_enter Try.func4, Try.ntmps4
  go_wp2_with fail
  refine (knows_any _).mono ?_
  rintro e w1 ⟨rfl, b1⟩
  have R1 := Lib.hid (HR.out.below b1)
  have hl1 : (cellsOf xs).length = len * 1 := by simp [cellsOf, HR.out.len]
  have HL := Lib.hid hl1
  clear hl1
  go_wp2_with (at_builtin; (refine wpList_append_own _ rfl (.tmp 31) (.tmp 32) _ rfl w.heap.size 5 i0 _ 1 1 Try.underlying22 hi0 hz0 hz1 hz2 rfl (by decide) _ 0 [] rfl (World.ownsRow_made w1 #[] 0 b1.size (Nat.zero_le _) rfl) ⟨b, off, none⟩ len cap (cellsOf xs) rfl HL.out (cells_of R1.out _) (cells_one xs) (by unfold maxLen; omega) (by omega) (by have := b1.size; simp; omega) ?_); intro v2 w2 hown hg0 _; have hg : (w1.alloc (.cells #[] 5)).grownBy w2 (some w1.heap.size) := hg0; clear hg0; obtain ⟨g, cap2, rfl, hg1, hc2⟩ := own_form hown (by omega); have hcell := own_cell HR.out hown hpl; have hfr := hown.frozenAt p)
  have R2 := own_row R1.out hown hpl k hk8
  have hbel : Below w.heap.size w (w2.setCell ⟨g, p, none⟩ (.int .u8 (bits .xor .u8 ((xs[p]?.getD 0 : Nat) : Int) (2 ^ k % 256)))) :=
    ((b1.alloc b1.size _).grown hg (by have := b1.size; simp; omega) (fun q hq => by cases hq; exact b1.size)).setCell hg1 _
  have R3 := Row.below HR.out hbel
  have hD := crc_turned xs p k (by rw [HR.out.len]; exact hpl) hk8
  have hJ := join xs p (by rw [HR.out.len]; omega)
  generalize w2.setCell ⟨g, p, none⟩ (.int .u8 (bits .xor .u8 ((xs[p]?.getD 0 : Nat) : Int) (2 ^ k % 256))) = w3 at *
  have C1 := Lib.hid (fun m => crc_some b off p cap _ _ ((R3.take p (by omega)).drewN m) (by omega))
  have C2 := Lib.hid (fun m => hJ ▸ more_some (crc (xs.take p)) b (off + p) (len - p) (cap - p) _ _ (crc_lt _) ((R3.drop p (by omega)).drewN m) (by omega))
  have C3 := Lib.hid (fun m => crc_some b off len cap _ _ (R3.drewN m) (by omega))
  have C4 := Lib.hid (fun m => crc_some g 0 len cap2 _ _ (R2.drewN m) (by omega))
  have C5 : Hid (∀ m, Calls Try.prog 10 #[.int .u32 (crc xs), .slice none 0 0] (w3.drewN m) (Ends (.int .u32 (crc xs)) (w3.drewN m))) := Lib.hid (fun m => by
    have h := more_none (crc xs) 0 none (w3.drewN m) (crc_lt _)
    rw [more_nil _ (crc_lt _)] at h
    exact h)
  generalize crc (xs.take p) = x1 at *
  have hD1 : ((crc (xs.set p (xs.getD p 0 ^^^ 2 ^ k)) : Int) != (crc xs : Int)) = true := by
    rw [bne_iff_ne]
    exact fun h => hD (Int.ofNat_inj.1 h)
  generalize crc (xs.set p (xs.getD p 0 ^^^ 2 ^ k)) = x2 at *
  generalize crc xs = x3 at *
  clear hD hJ R2 R3 hown hcell hfr
  go_quiet ((first
    | (go_at_call 6; with_reducible exact quiet_left (C1.out _))
    | (go_at_call 6; with_reducible exact quiet_left (C3.out _))
    | (go_at_call 6; with_reducible exact quiet_left (C4.out _))
    | (go_at_call 10; with_reducible exact quiet_left (C2.out _))
    | (go_at_call 10; with_reducible exact quiet_left (C5.out _))))
  go_wp2
  go_ret
  exact ⟨rfl, ⟨hbel.os, hbel.tape, hbel.output, hbel.size, hbel.block⟩⟩
set_option maxHeartbeats 400000 in
theorem join_any (a : Option Addr) (len cap : Nat) (zs : List Int) (i t : Int) (w : World)
    (h : (a = none ∧ len = 0 ∧ cap = 0 ∧ zs = []) ∨
      ∃ x, a = some x ∧ len ≤ cap ∧ cap ≤ maxLen ∧ zs.length = cap ∧ (∀ i, i < zs.length → w.cell? (x.add i) = some (.int .u8 (zs.getD i 0))) ∧ ∀ n ∈ zs, (Lit.int .u8 n).wf = true)
    (ht : (Lit.int .u8 t).wf = true) :
    Calls Try.prog 4 #[.slice a len cap, .int .i64 i, .int .u8 t] w (EndsBelow (.bool true) w) := by
  obtain ⟨hm, h⟩ := row_of h
  unfold maxLen at hm
  by_cases hl : 2000 < len
  · clear h
    go_enter Try.func4, Try.ntmps4
    go_wp2_with fail
    refine (knows_any _).mono ?_
    rintro e w2 ⟨rfl, b2⟩
    go_wp2_with fail
    go_ret
    exact ⟨rfl, b2⟩
  · rcases h with rfl | ⟨b, off, xs, rfl, hc, hr⟩
    · go_enter Try.func4, Try.ntmps4
      go_wp2_with fail
      refine (knows_any _).mono ?_
      rintro e w2 ⟨rfl, b2⟩
      go_wp2_with fail
      go_ret
      exact ⟨rfl, b2⟩
    · by_cases h0 : len = 0
      · subst h0
        clear hr
        go_enter Try.func4, Try.ntmps4
        go_wp2_with fail
        refine (knows_any _).mono ?_
        rintro e w2 ⟨rfl, b2⟩
        go_wp2_with fail
        go_ret
        exact ⟨rfl, b2⟩
      · exact join_walk b off len cap xs i t w (by omega) (by omega) hc hr (by simpa [Lit.wf, IntKind.min, IntKind.max, IntKind.signed, IntKind.bits] using ht)
end Go.Proofs.Ytenfldemfipcmaa
