/-
  The program's All: what all functions of a file are asked with. Conditions: the file lies in memory; it has at most 100 functions, each at most 100 parameters.
-/
import Derived.Test.YtbhgbgaeaejnhaaQ11
import Derived.Test.YtbhgbgaeaejnhaaQ12
import Derived.Test.YtbhgbgaeaejnhaaQ18
import Derived.WalkSpells
import Derived.WalkLawsBesides
namespace Go.Proofs.Ytbhgbgaeaejnhaa.Typ
open Go.RowKit Tre
open OwnR (OwnG)
set_option maxRecDepth 100000
set_option linter.unusedSimpArgs false
set_option maxHeartbeats 8000000 in
theorem pall_any (f : Fl) (w : World) (hf : FlIn w f) (hn : f.f.length ≤ 100) (hp : ∀ g ∈ f.f, g.p.length ≤ 100) (hs : ∀ g ∈ f.f, g.s.size ≤ 281474976710656) :
    Calls Try.prog 8 #[flV f] w (fun e w' => ∃ A c gs, e = .returned (.slice A gs.length c) ∧ gs.map coreG = f.f.map sigF ∧ Row 3 sgC w' A gs ∧ (∀ g ∈ gs, SgIn w' g) ∧ Below w.heap.size w w') := by
  have HFR := Lib.hid hf.frow
  have HFN := Lib.hid hf.fns
  have HP := Lib.hid hp
  have HSZ := Lib.hid hs
  have a1 := ball_new w #[.string f.s, .slice f.ia f.i.length f.ic, .slice f.fa f.f.length f.fc] 25
  have n1 := new_at w #[.string f.s, .slice f.ia f.i.length f.ic, .slice f.fa f.f.length f.fc] 25
  have H0 : Hid (AllAt f 0 w (w.alloc (.cells #[.string f.s, .slice f.ia f.i.length f.ic, .slice f.fa f.f.length f.fc] 25)) (.slice none 0 0) []) := Lib.hid ⟨OwnG.nil _ _, by simp, fun g hg => by simp at hg, fun g hg => by simp at hg, a1, n1⟩
  obtain ⟨W0, hW0⟩ : ∃ W0, w.alloc (.cells #[.string f.s, .slice f.ia f.i.length f.ic, .slice f.fa f.f.length f.fc] 25) = W0 := ⟨_, rfl⟩
  rw [hW0] at H0
  have HBX : Hid (∀ k u v gs, AllAt f k w u v gs → u.cell? ⟨w.heap.size, 2, none⟩ = some (.slice f.fa f.f.length f.fc)) := Lib.hid (fun k u v gs h => cell_at h.box 2)
  rw [flV_is]
  obtain ⟨m, hm⟩ : ∃ m, f.f.length = m := ⟨_, rfl⟩
  rw [hm] at hn hW0 HBX ⊢
  have HM := Lib.hid hm
  clear hf hp hs a1 n1 hm
  have z2 := HBX.out _ _ _ _ H0.out
  go_enter Try.func8, Try.ntmps8
  go_wp2_with fail
  go_loopw [3, 9] (fun v i wr => ∃ (k : Nat) (A : Option Addr) (n c : Nat) (gs : List Sg), k ≤ m ∧ v = .slice A n c ∧ i = .int .i64 k ∧ Hid (AllAt f k w wr (.slice A n c) gs)) (fun _ i _ => m - (intOf i).toNat)
  case atStart => exact ⟨0, none, 0, 0, [], Nat.zero_le _, rfl, rfl, H0⟩
  case round =>
    obtain ⟨k, A, n, c, gs, hk, rfl, rfl, H⟩ := hrel
    by_cases hlt : k < m
    · obtain ⟨x, hx⟩ : ∃ x, f.f[k]? = some x := ⟨_, List.getElem?_eq_getElem (by rw [HM.out]; exact hlt)⟩
      obtain ⟨b1, o1, ha, hc1⟩ := HFR.out.at_ H.out.low hx
      rw [ha]
      obtain ⟨p0, p1, p2, p3⟩ := fnC_at hc1
      have bG := ball_new wr #[.string x.s, .slice x.pa x.p.length x.pc, .int .u8 x.r, .slice x.ba x.b.length x.bc] 42
      have HBG := Lib.hid bG
      have CO := Lib.hid (pof_any x _ (((HFN.out x (List.mem_of_getElem? hx)).below H.out.low).below bG) (HP.out x (List.mem_of_getElem? hx)) (HSZ.out x (List.mem_of_getElem? hx)))
      rw [fnV_eq] at CO
      clear bG
      have HX := Lib.hid hx
      clear hc1 hx ha
      go_wp2_with fail
      refine CO.out.mono ?_
      rintro e1 w3 ⟨g, rfl, hc, hi, hng, hb0⟩
      have hb := HBG.out.trans (hb0.mono HBG.out.size)
      have hng : NewG wr.heap.size w3.heap.size g := fun b o e => ⟨Nat.le_trans HBG.out.size (hng b o e).1, (hng b o e).2⟩
      obtain ⟨A2, n2, c2, w4, hr, hat⟩ := H.out.more HX.out (by omega) hb hc hi hng
      have HR := Lib.hid hr
      have HAT := Lib.hid hat
      rw [sgV_eq]
      clear hr hat hc hi hng hb hb0
      go_wp2_with (at_builtin; refine wpList_appG 29 rfl (.tmp 13) (.tmp 16) rfl (.slice A n c) (.slice (some ⟨w3.heap.size, 0, none⟩) 1 1) _ rfl rfl HR.out ?_)
      go_wp2_with fail
      go_roundw
      case rel => exact ⟨k + 1, A2, n2, c2, _, by omega, rfl, by go_num, HAT⟩
      case measure => simp [intOf]; omega
    · obtain rfl : k = m := by omega
      have HH := H
      go_wp2_with fail
      go_ret
      obtain ⟨A', c', e', _, _⟩ := HH.out.own.form
      injection e' with e1 e2 e3
      subst e1 e2 e3
      refine ⟨A, c, gs, rfl, ?_, OwnG.row (C := sgC) (k := 3) (fun _ => rfl) HH.out.own, HH.out.sin, HH.out.low⟩
      rw [HH.out.told, List.take_of_length_le (Nat.le_of_eq HM.out)]
end Go.Proofs.Ytbhgbgaeaejnhaa.Typ
/- Upper, of the program and of the document. -/
namespace Go.Proofs.Ytbhgbgaeaejnhaa.Up
open Go.RowKit
set_option maxRecDepth 100000
set_option linter.unusedSimpArgs false
def EndsW (v : Value) (w : World) (e : Ending) (w' : World) : Prop := e = .returned v ∧ w = w'
def great (c : UInt8) : Bool := decide (65 ≤ c.toNat ∧ c.toNat ≤ 90)
theorem ends_bool {a b : Bool} {w : World} (h : a = b) : EndsW (.bool b) w (.returned (.bool a)) w := by subst h; exact ⟨rfl, rfl⟩
def greatI (c : Int) : Bool := decide (65 ≤ c ∧ c ≤ 90)
theorem great_any (c : Int) (w : World) : Calls Try.prog 49 #[.int .i32 c] w (EndsW (.bool (greatI c)) w) := by
  by_cases h1 : 65 ≤ c
  · by_cases h2 : c ≤ 90
    · have H := Lib.hid (show greatI c = true by unfold greatI; simp; omega)
      go_enter Try.func49, Try.ntmps49
      go_wp2
      go_ret
      exact ends_bool H.out.symm
    · have H := Lib.hid (show greatI c = false by unfold greatI; simp; omega)
      go_enter Try.func49, Try.ntmps49
      go_wp2
      go_ret
      exact ends_bool H.out.symm
  · have H := Lib.hid (show greatI c = false by unfold greatI; simp; omega)
    go_enter Try.func49, Try.ntmps49
    go_wp2
    go_ret
    exact ends_bool H.out.symm
theorem greatI_nat (c : UInt8) : greatI (c.toNat : Int) = great c := by
  unfold greatI great; rw [decide_eq_decide]; omega
theorem len_bytes (S : ByteArray) : S.data.toList.length = S.size := Array.length_toList
theorem toList_data (S : ByteArray) : S.toList = S.data.toList := ByteArray.toList_eq S
theorem empty_of (S : ByteArray) (h : S.size = 0) : S = ⟨#[]⟩ := by
  apply ByteArray.ext
  exact Array.eq_empty_of_size_eq_zero h
theorem not_empty (S : ByteArray) (h : 0 < S.size) : (S.toList == []) = false := by
  rw [toList_data]
  have := len_bytes S
  cases h2 : S.data.toList with
  | nil => rw [h2] at this; simp at this; omega
  | cons c r => rfl
theorem cons_of (S : ByteArray) (h : 0 < S.size) : ∃ r, S.data.toList = S[0] :: r := by
  have hl := len_bytes S
  cases h2 : S.data.toList with
  | nil => rw [h2] at hl; simp at hl; omega
  | cons c r =>
    refine ⟨r, ?_⟩
    have : S.data.toList[0]'(by omega) = S[0] := rfl
    rw [← this]
    simp [h2]
theorem wrap_byte (c : UInt8) : wrap32 (c.toNat : Int) = (c.toNat : Int) := by
  have := c.toNat_lt
  unfold wrap32; omega
def upperB (s : List UInt8) : Bool := match s with | [] => false | c :: _ => great c
theorem upper_cons (S : ByteArray) (h : 0 < S.size) : upperB S.data.toList = great (S[0]'h) := by
  obtain ⟨r, hr⟩ := cons_of S h
  rw [hr]; rfl
theorem upper_any (S : ByteArray) (w : World) : Calls Try.prog 31 #[.string S] w (EndsW (.bool (upperB S.data.toList)) w) := by
  by_cases h0 : S.size = 0
  · obtain rfl := empty_of S h0
    clear h0
    go_enter Try.func31, Try.ntmps31
    go_wp2
    go_ret
    exact ends_bool rfl
  have h00 : 0 < S.size := by omega
  have H := Lib.hid (upper_cons S h00)
  have e1 := not_empty S h00
  have hwr := wrap_byte (S[0]'h00)
  have CG := Lib.hid (show Calls Try.prog 49 #[.int .i32 ((S[0]'h00).toNat : Int)] w (EndsW (.bool (great (S[0]'h00))) w) by have := great_any ((S[0]'h00).toNat : Int) w; rwa [greatI_nat] at this)
  generalize upperB S.data.toList = B at *
  have HB := H.out
  subst HB
  clear h0 H
  have CG2 := Lib.hid (show Calls Try.prog 49 #[.int .i32 (wrap32 ((S[0]'h00).toNat : Int))] w (EndsW (.bool (great (S[0]'h00))) w) by rw [hwr]; exact CG.out)
  clear hwr CG
  go_enter Try.func31, Try.ntmps31
  go_wp2_with (go_at_call 49; refine CG2.out.mono ?_; rintro e w' ⟨rfl, rfl⟩)
  go_ret
  exact ends_bool rfl
theorem rupper_any (S : ByteArray) (w : World) : Calls Try.prog 40 #[.string S] w (EndsW (.bool (upperB S.data.toList)) w) := by
  by_cases h0 : S.size = 0
  · obtain rfl := empty_of S h0
    clear h0
    go_enter Try.func40, Try.ntmps40
    go_wp2
    go_ret
    exact ends_bool rfl
  have h00 : 0 < S.size := by omega
  have a1 : decide ((0 : Int) < (S.size : Int)) = true := by simpa using h00
  have H := Lib.hid (upper_cons S h00)
  clear h0
  by_cases h1 : 65 ≤ (S[0]'h00).toNat
  · have b1 : decide ((65 : Int) ≤ ((S[0]'h00).toNat : Int)) = true := by simp; omega
    by_cases h2 : (S[0]'h00).toNat ≤ 90
    · have HV := Lib.hid (show upperB S.data.toList = true by rw [H.out]; unfold great; simp; omega)
      have b2 : decide (((S[0]'h00).toNat : Int) ≤ 90) = true := by simp; omega
      go_enter Try.func40, Try.ntmps40
      go_wp2
      go_ret
      exact ends_bool HV.out.symm
    · have HV := Lib.hid (show upperB S.data.toList = false by rw [H.out]; unfold great; simp; omega)
      have b2 : decide (((S[0]'h00).toNat : Int) ≤ 90) = false := by simp; omega
      go_enter Try.func40, Try.ntmps40
      go_wp2
      go_ret
      exact ends_bool HV.out.symm
  · have HV := Lib.hid (show upperB S.data.toList = false by rw [H.out]; unfold great; simp; omega)
    have b1 : decide ((65 : Int) ≤ ((S[0]'h00).toNat : Int)) = false := by simp; omega
    go_enter Try.func40, Try.ntmps40
    go_wp2
    go_ret
    exact ends_bool HV.out.symm
end Go.Proofs.Ytbhgbgaeaejnhaa.Up
/- Exports: what both sides come to, by numbers of functions; the sort's row out of a row of the call's own, and back. -/
namespace Go.Proofs.Ytbhgbgaeaejnhaa.Typ
open Go.RowKit Tre Go.Sort Go.Shelf
open OwnR (OwnG)
open Lib (compareBytes)
set_option maxRecDepth 100000
set_option linter.unusedSimpArgs false
def nmF (l : List Tre.Fn) (i : Nat) : List UInt8 := match l[i]? with
  | some g => g.s.data.toList
  | none => []
def sgF (l : List Tre.Fn) (i : Nat) : Sp := match l[i]? with
  | some g => sigF g
  | none => ⟨[], [], 0⟩
/-- The order by numbers. -/
def RI (l : List Tre.Fn) (i j : Nat) : Prop := compareBytes (nmF l i) (nmF l j) < 0 ∨ (¬ compareBytes (nmF l j) (nmF l i) < 0 ∧ i < j)
/-- The numbers below k of what others may see. -/
def upsI (l : List Tre.Fn) (k : Nat) : List Nat := (List.range k).filter (fun i => Up.upperB (nmF l i))
theorem upsI_no {l : List Tre.Fn} {k : Nat} (h : Up.upperB (nmF l k) = false) : upsI l (k + 1) = upsI l k := by
  unfold upsI
  rw [List.range_succ, List.filter_append]
  simp [h]
theorem upsI_yes {l : List Tre.Fn} {k : Nat} (h : Up.upperB (nmF l k) = true) : upsI l (k + 1) = upsI l k ++ [k] := by
  unfold upsI
  rw [List.range_succ, List.filter_append]
  simp [h]
theorem upsI_lt {l : List Tre.Fn} {k i : Nat} (h : i ∈ upsI l k) : i < k := by
  unfold upsI at h
  exact List.mem_range.1 (List.mem_filter.1 h).1
def Tag (l : List Tre.Fn) (x : El) : Prop := ∃ g, l[x.2]? = some g ∧ coreG x.1 = sigF g
theorem Tag.nm {l : List Tre.Fn} {x : El} (h : Tag l x) : nmF l x.2 = x.1.s.data.toList := by
  obtain ⟨g, h1, h2⟩ := h
  unfold nmF
  rw [h1]
  exact (congrArg Sp.s h2).symm
theorem Tag.core {l : List Tre.Fn} {x : El} (h : Tag l x) : coreG x.1 = sgF l x.2 := by
  obtain ⟨g, h1, h2⟩ := h
  unfold sgF
  rw [h1]
  exact h2
/-- A row of what others may see, as it must stand. -/
structure ExpT (l : List Tre.Fn) (k : Nat) (t : List El) : Prop where
  tag : ∀ x ∈ t, Tag l x
  srt : Srt t
  ix : (t.map (·.2)).Perm (upsI l k)
theorem ExpT.pw {l : List Tre.Fn} {k : Nat} {t : List El} (h : ExpT l k t) : (t.map (·.2)).Pairwise (RI l) := by
  rw [List.pairwise_map]
  refine List.Pairwise.imp_of_mem ?_ h.srt
  intro x y hx hy hr
  unfold RI
  rw [(h.tag x hx).nm, (h.tag y hy).nm]
  exact hr
theorem RI.asymm {l : List Tre.Fn} {i j : Nat} (h : RI l i j) : ¬ RI l j i := fun h2 => by
  rcases h with h | ⟨h, hi⟩ <;> rcases h2 with h2 | ⟨h2, hj⟩
  · exact cb_asymm h h2
  · exact h2 h
  · exact h h2
  · omega
theorem exp_eq {l : List Tre.Fn} {k : Nat} {t t2 : List El} (h1 : ExpT l k t) (h2 : ExpT l k t2) : t.map (fun x => coreG x.1) = t2.map (fun x => coreG x.1) := by
  have e : t.map (·.2) = t2.map (·.2) := List.Perm.eq_of_pairwise (le := RI l) (fun i j _ _ h h' => absurd h' h.asymm) h1.pw h2.pw (h1.ix.trans h2.ix.symm)
  have f : ∀ {t : List El}, ExpT l k t → t.map (fun x => coreG x.1) = (t.map (·.2)).map (sgF l) := fun {t} h => by
    rw [List.map_map]
    exact List.map_congr_left fun x hx => (h.tag x hx).core
  rw [f h1, f h2, e]
/-- A row of the call's own is the sort's. -/
theorem SB.start {w : World} {lo b n c : Nat} {D : List El} (h : OwnG 3 sgC 33 w lo (.slice (some ⟨b, 0, none⟩) n c) (D.map (·.1))) (hn : D.length = n) : SB w b n D w := by
  have hcell := World.ownsRow.cells h (g := b) rfl
  have hblk : ∃ cur, w.heap[b]? = some (.cells cur 33 (0, 0)) := by
    rcases h.2 with ⟨e, _⟩ | ⟨g, cap, cur, e, _, hh, _⟩
    · cases e
    · injection e with e1
      injection e1 with e1
      injection e1 with e1
      subst e1
      exact ⟨cur, hh⟩
  obtain ⟨cur, hh⟩ := hblk
  have hH : HoldsK eC 3 w b 0 D.toArray := by
    intro j hj
    rw [size_flatK] at hj
    have hr : j % 3 < 3 := Nat.mod_lt _ (by omega)
    have hq : j / 3 < D.length := by simp at hj; omega
    have hd : j / 3 * 3 + j % 3 = j := by omega
    refine ⟨?_, by simp [World.frozen?, hh]⟩
    rw [get_flatK _ _ _ _ hj, Nat.zero_add]
    obtain ⟨x, hx⟩ : ∃ x, D[j / 3]? = some x := ⟨_, List.getElem?_eq_getElem hq⟩
    have e1 : D.toArray[j / 3]! = x := by
      rw [getElem!_pos D.toArray (j / 3) (by simpa using hq)]
      have := (List.getElem?_eq_some_iff.1 hx).2
      simpa using this
    rw [e1]
    have key : ((D.map (·.1)).flatMap sgC)[j / 3 * 3 + j % 3]? = some (eC x)[j % 3]! := by
      rw [OwnR.flat_get (k := 3) (C := sgC) (fun _ => rfl) _ _ _ hr, List.getElem?_map, hx]
      show (eC x)[j % 3]? = some (eC x)[j % 3]!
      rw [List.getElem?_eq_getElem (by rw [eC_len]; exact hr), getElem!_pos _ _ (by rw [eC_len]; exact hr)]
    rw [hd] at key
    have := hcell j _ key
    rw [plain_at, Nat.zero_add] at this
    exact this
  exact ⟨SWK.start hH, lt_of_heap hh, ⟨D.toArray, hH, by simpa using hn⟩, hn⟩
theorem SB.grownBy {w0 W : World} {b n : Nat} {D : List El} (h : SB w0 b n D W) : w0.grownBy W (some b) := by
  obtain ⟨m, os, rfl⟩ := h.sw
  unfold sortWorldK
  refine ⟨rfl, rfl, rfl, ?_, fun k hk hne => ?_⟩
  · rw [size_grow, size_putRowK]; exact Nat.le_add_right _ _
  · have hkb : k ≠ b := fun e => hne (by rw [e])
    simp only [grow, putRowK, putRow, mapBlock]
    rw [Array.getElem?_append_left (by simp; exact hk), Array.getElem?_modify]
    simp [Ne.symm hkb, ahead]
theorem SB.row {w0 W : World} {b n : Nat} {D : List El} (h : SB w0 b n D W) : Row 3 sgC W (some ⟨b, 0, none⟩) (D.map (·.1)) := fun _ => by
  refine ⟨b, 0, rfl, Nat.lt_of_lt_of_le h.lt h.grownBy.size, fun j x hx r u hu => ?_⟩
  rw [List.getElem?_map] at hx
  obtain ⟨y, hy, rfl⟩ := Option.map_eq_some_iff.1 hx
  rw [Nat.zero_add]
  exact h.cell hy r u hu
end Go.Proofs.Ytbhgbgaeaejnhaa.Typ
