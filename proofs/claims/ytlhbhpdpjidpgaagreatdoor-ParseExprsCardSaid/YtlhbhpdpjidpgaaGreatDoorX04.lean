/-
  strings.Cut at a separator of one byte. No condition.
-/
import Derived.Test.YtlhbhpdpjidpgaaGreatDoorX03
import Derived.Deep.MidRow
import Derived.ChangeKeysEq
namespace Go.Proofs.YtlhbhpdpjidpgaaGreatDoor.Lex
open Go.RowKit
open Num (EndsW)
set_option maxRecDepth 100000
def cutN (c : UInt8) (l : List UInt8) : Nat := (l.takeWhile fun x => x != c).length
theorem index_yes (c : UInt8) : ∀ l : List UInt8, cutN c l < l.length → Lib.indexByte l c = (cutN c l : Int)
  | [], h => by simp at h
  | x :: r, h => by
    by_cases e : x = c
    · subst e
      simp [cutN, Lib.indexByte]
    · have e1 : (x != c) = true := by simpa using e
      have e2 : (x == c) = false := by simpa using e
      have e3 : cutN c (x :: r) = cutN c r + 1 := by unfold cutN; rw [List.takeWhile_cons, if_pos e1]; simp
      rw [e3] at h
      have ih := index_yes c r (by simpa using h)
      unfold Lib.indexByte
      rw [e2, ih, e3]
      simp
theorem index_no (c : UInt8) : ∀ l : List UInt8, cutN c l = l.length → Lib.indexByte l c = -1
  | [], _ => rfl
  | x :: r, h => by
    by_cases e : x = c
    · subst e
      simp [cutN] at h
    · have e1 : (x != c) = true := by simpa using e
      have e2 : (x == c) = false := by simpa using e
      have e3 : cutN c (x :: r) = cutN c r + 1 := by unfold cutN; rw [List.takeWhile_cons, if_pos e1]; simp
      rw [e3] at h
      have ih := index_no c r (by simpa using h)
      unfold Lib.indexByte
      rw [e2, ih]
      simp
theorem below_drewN (w : World) (n : Nat) : Below w.heap.size w (w.drewN n) := ⟨rfl, rfl, rfl, Nat.le_refl _, fun _ _ => rfl⟩
theorem cutN_le (c : UInt8) (l : List UInt8) : cutN c l ≤ l.length := (List.takeWhile_sublist _).length_le
theorem take_cutN (c : UInt8) (l : List UInt8) : l.take (cutN c l) = l.takeWhile fun x => x != c := take_rowN _ l
def tri (a b : List UInt8) (ok : Bool) : Value := .tuple #[str a, str b, .bool ok]
set_option maxHeartbeats 1000000 in
theorem lcut_yes (l : List UInt8) (c : UInt8) (w : World) (hl : l.length ≤ 1000000) (h : cutN c l < l.length) :
    Calls Tryz.prog 146 #[.string (bs l), .string ⟨#[c]⟩] w (EndsB (tri (l.take (cutN c l)) (l.drop (cutN c l + 1)) true) w) := by
  have CI := Lib.hid (show Calls Tryz.prog 149 #[.string (bs l), .string ⟨#[c]⟩] w (EndsW (.int .i64 (cutN c l : Int)) w) by
    refine (Tryz.stringslite_Index_one (bs l) c w).mono ?_
    rintro e w' ⟨rfl, rfl⟩
    exact ⟨by rw [bs_data, index_yes c l h], rfl⟩)
  have HE1 := Lib.hid (extract_bs l 0 (cutN c l))
  have HE2 := Lib.hid (extract_bs l (cutN c l + 1) l.length)
  have hn1 : cutN c l + 1 ≤ (bs l).size := by rw [bs_size]; omega
  have hl2 : (bs l).size ≤ 1000000 := hl
  clear h hl
  generalize cutN c l = n at *
  have HW := Lib.hid (show IntKind.i64.wrap ((n : Int) + 1) = (n : Int) + 1 by exact IntWalk.i64_in _ (by omega))
  go_enter Tryz.func146, Tryz.ntmps146
  go_wp2_with (go_at_call 149; refine CI.out.mono ?_; rintro e w' ⟨rfl, rfl⟩)
  go_quiet (fail)
  go_wp2
  go_ret3
  refine ⟨?_, below_drewN w nq⟩
  show Ending.returned (Value.tuple #[Value.string ((bs l).extract 0 n), Value.string ((bs l).extract (n + 1) (bs l).size), Value.bool true]) = _
  rw [HE1.out, bs_size, HE2.out, List.drop_zero, Nat.sub_zero, List.take_of_length_le (l := List.drop (n + 1) l) (by simp)]
  rfl
set_option maxHeartbeats 1000000 in
theorem lcut_no (l : List UInt8) (c : UInt8) (w : World) (h : cutN c l = l.length) :
    Calls Tryz.prog 146 #[.string (bs l), .string ⟨#[c]⟩] w (EndsB (tri l [] false) w) := by
  have CI := Lib.hid (show Calls Tryz.prog 149 #[.string (bs l), .string ⟨#[c]⟩] w (EndsW (.int .i64 (-1)) w) by
    refine (Tryz.stringslite_Index_one (bs l) c w).mono ?_
    rintro e w' ⟨rfl, rfl⟩
    exact ⟨by rw [bs_data, index_no c l h], rfl⟩)
  clear h
  go_enter Tryz.func146, Tryz.ntmps146
  go_wp2_with (go_at_call 149; refine CI.out.mono ?_; rintro e w' ⟨rfl, rfl⟩)
  go_ret3
  exact ⟨rfl, Below.refl _ _⟩
theorem cut_yes (l : List UInt8) (c : UInt8) (w : World) (hl : l.length ≤ 1000000) (h : cutN c l < l.length) :
    Calls Tryz.prog 133 #[.string (bs l), .string ⟨#[c]⟩] w (EndsB (tri (l.take (cutN c l)) (l.drop (cutN c l + 1)) true) w) := by
  have C := Lib.hid (lcut_yes l c w hl h)
  unfold tri str at *
  clear h hl
  go_enter Tryz.func133, Tryz.ntmps133
  go_wp2_with (go_at_call 146; refine C.out.mono ?_; rintro e w' ⟨rfl, hb⟩)
  go_ret3
  exact ⟨rfl, hb⟩
theorem cut_no (l : List UInt8) (c : UInt8) (w : World) (h : cutN c l = l.length) :
    Calls Tryz.prog 133 #[.string (bs l), .string ⟨#[c]⟩] w (EndsB (tri l [] false) w) := by
  have C := Lib.hid (lcut_no l c w h)
  unfold tri str at *
  clear h
  go_enter Tryz.func133, Tryz.ntmps133
  go_wp2_with (go_at_call 146; refine C.out.mono ?_; rintro e w' ⟨rfl, hb⟩)
  go_ret3
  exact ⟨rfl, hb⟩
end Go.Proofs.YtlhbhpdpjidpgaaGreatDoor.Lex
/- The reader's endLine: a sign ; behind the last word, if that may end a statement. Conditions: sizes. -/
namespace Go.Proofs.YtlhbhpdpjidpgaaGreatDoor.Lex
open Go.RowKit
open Num (EndsW)
set_option maxRecDepth 100000
theorem Step.same {w w' : World} {lo g : Nat} {v : Value} {l : List UInt8} {ws : List Wd} (h : Rd w lo g l ws v) (hb : Below w.heap.size w w') (r : Value) : Step w lo g v r l ws (.returned r) w' :=
  ⟨rfl, v, h.below hb, (Turn.refl _ w).below hb, fun _ hk => .inl hk⟩
theorem endLn_nil : endLn [] = [] := rfl
theorem endLn_yes {ws : List Wd} {x : Wd} (h : ws.getLast? = some x) (hm : mayB x = true) : endLn ws = ws ++ [semi] := by unfold endLn; rw [h]; simp [hm]
theorem endLn_no {ws : List Wd} {x : Wd} (h : ws.getLast? = some x) (hm : mayB x = false) : endLn ws = ws := by unfold endLn; rw [h]; simp [hm]
set_option maxHeartbeats 2000000 in
theorem end_any (w : World) (lo g : Nat) (l : List UInt8) (ws : List Wd) (v : Value) (h : Rd w lo g l ws v) (hl : ws.length ≤ 100000) (hlo : lo ≤ w.heap.size) :
    Calls Tryz.prog 78 #[.pointer (some ⟨g, 0, none⟩)] w (Step w lo g v (.tuple #[]) l (endLn ws)) := by
  have HH := Lib.hid h
  have HLO := Lib.hid hlo
  have c1 := cell_at h.at_ 1
  rcases List.eq_nil_or_concat ws with rfl | ⟨r, x, rfl⟩
  · obtain ⟨A, c, rfl⟩ := h.own.form
    clear h hl hlo
    rw [endLn_nil]
    go_enter Tryz.func78, Tryz.ntmps78
    go_wp2
    go_end0
    exact Step.same HH.out (Below.refl _ _) _
  · obtain ⟨b, cap, rfl, hlob, hbw⟩ := World.ownsRow.form h.own (by simp)
    have hc := h.own.wds (by simp)
    obtain ⟨b', o, e, _, hc⟩ := hc
    injection e with e
    injection e with e1 e2
    subst e1; subst e2
    obtain ⟨g0, g1, g2⟩ := hc r.length x (by simp)
    obtain ⟨k, s, n⟩ := x
    simp only [Nat.zero_add] at g0 g1 g2
    have HL : Hid ((r ++ [(⟨k, s, n⟩ : Wd)]).getLast? = some ⟨k, s, n⟩) := Lib.hid (by simp)
    have hlen : (r ++ [(⟨k, s, n⟩ : Wd)]).length = r.length + 1 := by simp
    have hl' : r.length + 1 ≤ 100000 := by simpa using hl
    have HR : Hid ((r ++ [(⟨k, s, n⟩ : Wd)]).length ≤ 1000000) := Lib.hid (by omega)
    have HB : Hid (r.length ≤ 100000) := Lib.hid (by omega)
    rw [List.concat_eq_append] at *
    rw [hlen] at HH c1
    clear h hl hl' hlo hlob hbw hc hlen
    have hr := HB.out
    clear HB
    generalize r.length = m at *
    generalize hb' : bs s = S at *
    have HBS := Lib.hid hb'
    clear hb'
    rcases Bool.eq_false_or_eq_true (mayB ⟨k, s, n⟩) with hm | hm
    · have CM := fun w' => Lib.hid (show Calls Tryz.prog 115 #[.agg #[.int .i64 k, .string S, .int .i64 n]] w' (EndsB (.bool true) w') by have := may_any ⟨k, s, n⟩ w'; rw [hm] at this; unfold wdV at this; rw [HBS.out] at this; exact this)
      rw [endLn_yes HL.out hm]
      clear hm HL
      go_enter Tryz.func78, Tryz.ntmps78
      go_wp2_with fail
      refine (CM _).out.mono ?_
      rintro e w1 ⟨rfl, hb1⟩
      have HG := Lib.hid (HH.out.below hb1)
      have HT := Lib.hid ((Turn.refl (mine g (.slice (some ⟨b, 0, none⟩) (m + 1) cap)) w).below hb1)
      have HL1 : Hid (lo ≤ w1.heap.size) := Lib.hid (Nat.le_trans HLO.out hb1.size)
      clear hb1 c1 g0 g1 g2
      have CA := Lib.hid (add_any w1 lo g l _ _ semi HG.out (by decide) HR.out HL1.out)
      go_wp2_with fail
      refine CA.out.mono ?_
      intro e w2 hs
      obtain ⟨rfl, v2, hs⟩ := Step.then_ HT.out (fun _ hk => .inl hk) hs
      have HS := Lib.hid hs
      clear hs
      go_wp2_with fail
      go_end0
      exact ⟨rfl, v2, HS.out⟩
    · have CM := fun w' => Lib.hid (show Calls Tryz.prog 115 #[.agg #[.int .i64 k, .string S, .int .i64 n]] w' (EndsB (.bool false) w') by have := may_any ⟨k, s, n⟩ w'; rw [hm] at this; unfold wdV at this; rw [HBS.out] at this; exact this)
      rw [endLn_no HL.out hm]
      clear hm HL
      go_enter Tryz.func78, Tryz.ntmps78
      go_wp2_with fail
      refine (CM _).out.mono ?_
      rintro e w1 ⟨rfl, hb1⟩
      have HS : Hid (Step w lo g (.slice (some ⟨b, 0, none⟩) (m + 1) cap) (.tuple #[]) l (r ++ [⟨k, s, n⟩]) (.returned (.tuple #[])) w1) := Lib.hid (Step.same HH.out hb1 _)
      clear hb1 c1 g0 g1 g2
      go_wp2_with fail
      go_end0
      exact HS.out
end Go.Proofs.YtlhbhpdpjidpgaaGreatDoor.Lex
/- The reader's number, name and text. Conditions: sizes. -/
namespace Go.Proofs.YtlhbhpdpjidpgaaGreatDoor.Lex
open Go.RowKit
open Num (EndsW)
set_option maxRecDepth 100000
def Told (w : World) (lo g : Nat) (v : Value) (s : St) : Ending → World → Prop := Step w lo g v (.int .i64 s.e) s.l s.ws
theorem num_read (s : List UInt8) (w : World) (h : s.length ≤ 1000000) : Calls Tryz.prog 132 #[.string (bs s)] w (EndsW (.tuple #[.int .i64 (Num.readV s).1, .bool (Num.readV s).2]) w) := Num.read_any (bs s) w (by rw [bs_size]; unfold maxLen; omega)
theorem numS_ok {l : List UInt8} {ws : List Wd} {n : Int} (h : Num.readV (l.take (rowN dig l)) = (n, true)) : numS l ws = ⟨0, l.drop (rowN dig l), ws ++ [⟨2, [], n⟩]⟩ := by simp only [numS, h]; rfl
theorem numS_zero {l : List UInt8} {ws : List Wd} {n : Int} (h : Num.readV (l.take (rowN dig l)) = (n, false)) (hz : l.head? = some 48) : numS l ws = ⟨7, l.drop (rowN dig l), ws⟩ := by simp only [numS, h]; simp [hz]
theorem numS_big {l : List UInt8} {ws : List Wd} {n : Int} (h : Num.readV (l.take (rowN dig l)) = (n, false)) (hz : l.head? ≠ some 48) : numS l ws = ⟨11, l.drop (rowN dig l), ws⟩ := by simp only [numS, h]; simp [hz]
set_option maxHeartbeats 4000000 in
theorem number_any (w : World) (lo g : Nat) (c : UInt8) (r : List UInt8) (ws : List Wd) (v : Value) (h : Rd w lo g (c :: r) ws v) (hc : dig c = true) (hl : (c :: r).length ≤ 100000) (hw : ws.length ≤ 100000) (hlo : lo ≤ w.heap.size) :
    Calls Tryz.prog 111 #[.pointer (some ⟨g, 0, none⟩)] w (Told w lo g v (numS (c :: r) ws)) := by
  have HH := Lib.hid h
  have c0 := cell_at h.at_ 0
  have HLE := Lib.hid (rowN_le dig (c :: r))
  have HPO := Lib.hid (rowN_pos (r := r) hc)
  have HLL := Lib.hid hl
  have HW := Lib.hid hw
  have HLO := Lib.hid hlo
  have CR := Lib.hid (row_dig (bs (c :: r)) w (by rw [bs_size]; unfold maxLen; omega))
  rw [bs_data] at CR
  have HD : Hid (∃ q, (c :: r).take (rowN dig (c :: r)) = c :: q) := Lib.hid (by
    obtain ⟨m, hm⟩ : ∃ m, rowN dig (c :: r) = m + 1 := ⟨rowN dig (c :: r) - 1, by have := HPO.out; omega⟩
    rw [hm]; exact ⟨_, rfl⟩)
  have HTL : Hid (((c :: r).take (rowN dig (c :: r))).length ≤ 1000000) := Lib.hid (by rw [List.length_take]; have := HLE.out; omega)
  obtain ⟨n, ok, hr⟩ : ∃ n ok, Num.readV ((c :: r).take (rowN dig (c :: r))) = (n, ok) := ⟨_, _, rfl⟩
  have CN := fun w' => Lib.hid (num_read ((c :: r).take (rowN dig (c :: r))) w' HTL.out)
  rw [hr] at CN
  have HR := Lib.hid hr
  have H48 : (c.toNat = 48) ↔ (c :: r).head? = some 48 := by
    simp only [List.head?_cons, Option.some.injEq]
    exact ⟨fun h => UInt8.toNat_inj.1 h, fun h => by rw [h]; rfl⟩
  clear h hl hw hlo hr hc
  cases ok with
  | true =>
    rw [numS_ok HR.out]
    clear H48
    go_enter Tryz.func111, Tryz.ntmps111
    go_wp2_with fail
    refine CR.out.mono ?_
    rintro e w1 ⟨rfl, hb1⟩
    have HG := Lib.hid (HH.out.below hb1)
    have HT := Lib.hid ((Turn.refl (mine g v) w).below hb1)
    have CT := Lib.hid (take_any w1 lo g (rowN dig (c :: r)) (c :: r) ws v HG.out HLE.out (by have := HLL.out; omega))
    clear hb1 c0
    go_wp2_with fail
    refine CT.out.mono ?_
    intro e w2 hs
    obtain ⟨rfl, v2, hs⟩ := Step.then_ HT.out (fun _ hk => .inl hk) hs
    have HS := Lib.hid hs
    unfold str
    clear hs
    go_wp2_with fail
    refine (CN _).out.mono ?_
    rintro e w' ⟨rfl, rfl⟩
    have CA := Lib.hid (add_any w2 lo g _ _ _ ⟨2, [], n⟩ HS.out.1 (Nat.zero_le _) (by have := HW.out; omega) (Nat.le_trans HLO.out HS.out.2.1.size))
    go_wp2_with fail
    refine CA.out.mono ?_
    intro e w3 hs
    obtain ⟨rfl, v3, hs⟩ := Step.then_ HS.out.2.1 HS.out.2.2 hs
    have HS3 := Lib.hid hs
    clear hs
    go_wp2_with fail
    go_ret
    exact ⟨rfl, v3, HS3.out⟩
  | false =>
    obtain ⟨q, hq⟩ := HD.out
    have h0 : 0 < (bs (c :: q)).size := by rw [bs_size]; simp
    have HQ := Lib.hid hq
    have CN2 := fun w' => Lib.hid (show Calls Tryz.prog 132 #[.string (bs (c :: q))] w' (EndsW (.tuple #[.int .i64 n, .bool false]) w') by have := (CN w').out; rwa [HQ.out] at this)
    clear hq CN HD
    by_cases hz : c.toNat = 48
    · have HE := Lib.hid (numS_zero (ws := ws) HR.out (H48.1 hz))
      have hz2 : ((((bs (c :: q))[0]'h0).toNat : Int) == 48) = true := by
        show ((c.toNat : Int) == 48) = true
        simp; omega
      rw [HE.out]
      clear hz H48 HE
      go_enter Tryz.func111, Tryz.ntmps111
      go_wp2_with fail
      refine CR.out.mono ?_
      rintro e w1 ⟨rfl, hb1⟩
      have HG := Lib.hid (HH.out.below hb1)
      have HT := Lib.hid ((Turn.refl (mine g v) w).below hb1)
      have CT := Lib.hid (take_any w1 lo g (rowN dig (c :: r)) (c :: r) ws v HG.out HLE.out (by have := HLL.out; omega))
      clear hb1 c0
      go_wp2_with fail
      refine CT.out.mono ?_
      intro e w2 hs
      rw [HQ.out] at hs
      obtain ⟨rfl, v2, hs⟩ := Step.then_ HT.out (fun _ hk => .inl hk) hs
      have HS := Lib.hid hs
      unfold str
      clear hs
      go_wp2_with fail
      refine (CN2 _).out.mono ?_
      rintro e w' ⟨rfl, rfl⟩
      go_wp2_with fail
      go_ret
      exact ⟨rfl, v2, HS.out⟩
    · have HE := Lib.hid (numS_big (ws := ws) HR.out (fun h => hz (H48.2 h)))
      have hz2 : ((((bs (c :: q))[0]'h0).toNat : Int) == 48) = false := by
        show ((c.toNat : Int) == 48) = false
        simp; omega
      rw [HE.out]
      clear hz H48 HE
      go_enter Tryz.func111, Tryz.ntmps111
      go_wp2_with fail
      refine CR.out.mono ?_
      rintro e w1 ⟨rfl, hb1⟩
      have HG := Lib.hid (HH.out.below hb1)
      have HT := Lib.hid ((Turn.refl (mine g v) w).below hb1)
      have CT := Lib.hid (take_any w1 lo g (rowN dig (c :: r)) (c :: r) ws v HG.out HLE.out (by have := HLL.out; omega))
      clear hb1 c0
      go_wp2_with fail
      refine CT.out.mono ?_
      intro e w2 hs
      rw [HQ.out] at hs
      obtain ⟨rfl, v2, hs⟩ := Step.then_ HT.out (fun _ hk => .inl hk) hs
      have HS := Lib.hid hs
      unfold str
      clear hs
      go_wp2_with fail
      refine (CN2 _).out.mono ?_
      rintro e w' ⟨rfl, rfl⟩
      go_wp2_with fail
      go_ret
      exact ⟨rfl, v2, HS.out⟩
theorem nameS_long {l : List UInt8} {ws : List Wd} (h : 16 < rowN nameB l) : nameS l ws = ⟨11, l.drop (rowN nameB l), ws⟩ := by simp only [nameS, h, if_true]
theorem nameS_key {l : List UInt8} {ws : List Wd} (h : ¬ 16 < rowN nameB l) (hk : keyB (l.take (rowN nameB l)) = true) : nameS l ws = ⟨0, l.drop (rowN nameB l), ws ++ [⟨4, l.take (rowN nameB l), 0⟩]⟩ := by simp only [nameS, h, if_false, hk, if_true]
theorem nameS_name {l : List UInt8} {ws : List Wd} (h : ¬ 16 < rowN nameB l) (hk : keyB (l.take (rowN nameB l)) = false) : nameS l ws = ⟨0, l.drop (rowN nameB l), ws ++ [⟨1, l.take (rowN nameB l), 0⟩]⟩ := by simp [nameS, h, hk]
set_option maxHeartbeats 4000000 in
theorem rname_any (w : World) (lo g : Nat) (l : List UInt8) (ws : List Wd) (v : Value) (h : Rd w lo g l ws v) (hl : l.length ≤ 100000) (hw : ws.length ≤ 100000) (hlo : lo ≤ w.heap.size) :
    Calls Tryz.prog 112 #[.pointer (some ⟨g, 0, none⟩)] w (Told w lo g v (nameS l ws)) := by
  have HH := Lib.hid h
  have c0 := cell_at h.at_ 0
  have HLE := Lib.hid (rowN_le nameB l)
  have HLL := Lib.hid hl
  have HW := Lib.hid hw
  have HLO := Lib.hid hlo
  have CR := Lib.hid (row_name (bs l) w (by rw [bs_size]; unfold maxLen; omega))
  rw [bs_data] at CR
  have HSZ := Lib.hid (show (bs (l.take (rowN nameB l))).size = rowN nameB l by rw [bs_size, List.length_take]; have := HLE.out; omega)
  clear h hl hw hlo
  by_cases h16 : 16 < rowN nameB l
  · have hd : decide ((16 : Int) < ((bs (l.take (rowN nameB l))).size : Int)) = true := by rw [HSZ.out]; simp; omega
    rw [nameS_long h16]
    clear h16
    go_enter Tryz.func112, Tryz.ntmps112
    go_wp2_with fail
    refine CR.out.mono ?_
    rintro e w1 ⟨rfl, hb1⟩
    have HG := Lib.hid (HH.out.below hb1)
    have HT := Lib.hid ((Turn.refl (mine g v) w).below hb1)
    have CT := Lib.hid (take_any w1 lo g (rowN nameB l) l ws v HG.out HLE.out (by have := HLL.out; omega))
    clear hb1 c0
    go_wp2_with fail
    refine CT.out.mono ?_
    intro e w2 hs
    obtain ⟨rfl, v2, hs⟩ := Step.then_ HT.out (fun _ hk => .inl hk) hs
    have HS := Lib.hid hs
    unfold str
    clear hs
    go_wp2_with fail
    go_ret
    exact ⟨rfl, v2, HS.out⟩
  have hd : decide ((16 : Int) < ((bs (l.take (rowN nameB l))).size : Int)) = false := by rw [HSZ.out]; simp; omega
  have CK := fun w' => Lib.hid (key_any (l.take (rowN nameB l)) w')
  have HTL : Hid ((l.take (rowN nameB l)).length ≤ 1000000) := Lib.hid (by rw [List.length_take]; have := HLL.out; omega)
  rcases Bool.eq_false_or_eq_true (keyB (l.take (rowN nameB l))) with hk | hk
  · have CKT := fun w' => Lib.hid (show Calls Tryz.prog 59 #[.string (bs (l.take (rowN nameB l)))] w' (EndsW (.bool true) w') by have := (CK w').out; rwa [hk] at this)
    rw [nameS_key h16 hk]
    clear h16 hk CK
    go_enter Tryz.func112, Tryz.ntmps112
    go_wp2_with fail
    refine CR.out.mono ?_
    rintro e w1 ⟨rfl, hb1⟩
    have HG := Lib.hid (HH.out.below hb1)
    have HT := Lib.hid ((Turn.refl (mine g v) w).below hb1)
    have CT := Lib.hid (take_any w1 lo g (rowN nameB l) l ws v HG.out HLE.out (by have := HLL.out; omega))
    clear hb1 c0
    go_wp2_with fail
    refine CT.out.mono ?_
    intro e w2 hs
    obtain ⟨rfl, v2, hs⟩ := Step.then_ HT.out (fun _ hk => .inl hk) hs
    have HS := Lib.hid hs
    unfold str
    clear hs
    go_wp2_with fail
    refine (CKT _).out.mono ?_
    rintro e w' ⟨rfl, rfl⟩
    have CA := Lib.hid (add_any w2 lo g _ _ _ ⟨4, l.take (rowN nameB l), 0⟩ HS.out.1 HTL.out (by have := HW.out; omega) (Nat.le_trans HLO.out HS.out.2.1.size))
    go_wp2_with fail
    refine CA.out.mono ?_
    intro e w3 hs
    obtain ⟨rfl, v3, hs⟩ := Step.then_ HS.out.2.1 HS.out.2.2 hs
    have HS3 := Lib.hid hs
    clear hs
    go_wp2_with fail
    go_ret
    exact ⟨rfl, v3, HS3.out⟩
  · have CKT := fun w' => Lib.hid (show Calls Tryz.prog 59 #[.string (bs (l.take (rowN nameB l)))] w' (EndsW (.bool false) w') by have := (CK w').out; rwa [hk] at this)
    rw [nameS_name h16 hk]
    clear h16 hk CK
    go_enter Tryz.func112, Tryz.ntmps112
    go_wp2_with fail
    refine CR.out.mono ?_
    rintro e w1 ⟨rfl, hb1⟩
    have HG := Lib.hid (HH.out.below hb1)
    have HT := Lib.hid ((Turn.refl (mine g v) w).below hb1)
    have CT := Lib.hid (take_any w1 lo g (rowN nameB l) l ws v HG.out HLE.out (by have := HLL.out; omega))
    clear hb1 c0
    go_wp2_with fail
    refine CT.out.mono ?_
    intro e w2 hs
    obtain ⟨rfl, v2, hs⟩ := Step.then_ HT.out (fun _ hk => .inl hk) hs
    have HS := Lib.hid hs
    unfold str
    clear hs
    go_wp2_with fail
    refine (CKT _).out.mono ?_
    rintro e w' ⟨rfl, rfl⟩
    have CA := Lib.hid (add_any w2 lo g _ _ _ ⟨1, l.take (rowN nameB l), 0⟩ HS.out.1 HTL.out (by have := HW.out; omega) (Nat.le_trans HLO.out HS.out.2.1.size))
    go_wp2_with fail
    refine CA.out.mono ?_
    intro e w3 hs
    obtain ⟨rfl, v3, hs⟩ := Step.then_ HS.out.2.1 HS.out.2.2 hs
    have HS3 := Lib.hid hs
    clear hs
    go_wp2_with fail
    go_ret
    exact ⟨rfl, v3, HS3.out⟩
theorem textS_no {l : List UInt8} {ws : List Wd} (h : cutQ (l.drop 1) = none) : textS l ws = ⟨7, l, ws⟩ := by simp only [textS, h]
theorem textS_bad {l s : List UInt8} {ws : List Wd} (h : cutQ (l.drop 1) = some s) (ht : textOk s = false) : textS l ws = ⟨7, l, ws⟩ := by simp only [textS, h, ht]; rfl
theorem textS_ok {l s : List UInt8} {ws : List Wd} (h : cutQ (l.drop 1) = some s) (ht : textOk s = true) : textS l ws = ⟨0, l.drop (s.length + 2), ws ++ [⟨3, s, 0⟩]⟩ := by simp only [textS, h, ht]; rfl
theorem quote_eq : (fun c : UInt8 => decide (c.toNat ≠ 34)) = fun c => c != 34 := by
  funext c
  rw [Bool.eq_iff_iff]
  simp only [decide_eq_true_eq, bne_iff_ne, ne_eq]
  exact ⟨fun h e => h (by rw [e]; rfl), fun h e => h (UInt8.toNat_inj.1 e)⟩
theorem cutQ_eq (l : List UInt8) : cutQ l = if cutN 34 l < l.length then some (l.take (cutN 34 l)) else none := by
  unfold cutQ
  rw [quote_eq, take_cutN]
  rfl
end Go.Proofs.YtlhbhpdpjidpgaaGreatDoor.Lex
/- The reader's text: what stands between quotes. Conditions: sizes. -/
namespace Go.Proofs.YtlhbhpdpjidpgaaGreatDoor.Lex
open Go.RowKit
open Num (EndsW)
set_option maxRecDepth 100000
theorem cut_len (c : UInt8) (l : List UInt8) : (l.take (cutN c l)).length = cutN c l := by
  rw [List.length_take]; have := cutN_le c l; omega
set_option maxHeartbeats 4000000 in
theorem text_no (w : World) (lo g : Nat) (c : UInt8) (r : List UInt8) (ws : List Wd) (v : Value) (h : Rd w lo g (c :: r) ws v) (hl : (c :: r).length ≤ 100000) (hc : cutN 34 r = r.length) :
    Calls Tryz.prog 113 #[.pointer (some ⟨g, 0, none⟩)] w (Told w lo g v (textS (c :: r) ws)) := by
  rw [textS_no (by rw [List.drop_succ_cons, List.drop_zero, cutQ_eq, if_neg (by omega)])]
  have HH := Lib.hid h
  have c0 := cell_at h.at_ 0
  have HLL := Lib.hid hl
  have hlr : r.length ≤ 100000 := by simp at hl; omega
  have hsz : 1 ≤ (bs (c :: r)).size := by rw [bs_size]; simp
  have hx : (bs (c :: r)).extract 1 (bs (c :: r)).size = bs r := by rw [extract_bs, bs_size]; simp
  have CC := fun w' => Lib.hid (cut_no r 34 w' hc)
  unfold tri str at CC
  clear h hl hc hlr
  go_enter Tryz.func113, Tryz.ntmps113
  go_wp2_with fail
  refine (CC _).out.mono ?_
  rintro e w1 ⟨rfl, hb1⟩
  clear hx hsz c0
  have HB := Lib.hid hb1
  clear hb1
  go_wp2_with fail
  go_ret
  exact Step.same HH.out HB.out _
set_option maxHeartbeats 4000000 in
theorem text_name (w : World) (lo g : Nat) (c : UInt8) (r : List UInt8) (ws : List Wd) (v : Value) (h : Rd w lo g (c :: r) ws v) (hl : (c :: r).length ≤ 100000) (hw : ws.length ≤ 100000) (hlo : lo ≤ w.heap.size) (hc : cutN 34 r < r.length)
    (hn : nameOk (r.take (cutN 34 r)) = true)  :
    Calls Tryz.prog 113 #[.pointer (some ⟨g, 0, none⟩)] w (Told w lo g v (textS (c :: r) ws)) := by
  rw [textS_ok (s := r.take (cutN 34 r)) (by rw [List.drop_succ_cons, List.drop_zero, cutQ_eq, if_pos hc]) (by unfold textOk; rw [hn]; rfl)]
  have HH := Lib.hid h
  have c0 := cell_at h.at_ 0
  have HLL := Lib.hid hl
  have hlr : r.length ≤ 100000 := by simp at hl; omega
  have hsz : 1 ≤ (bs (c :: r)).size := by rw [bs_size]; simp
  have hx : (bs (c :: r)).extract 1 (bs (c :: r)).size = bs r := by rw [extract_bs, bs_size]; simp
  have HW := Lib.hid hw
  have HLO := Lib.hid hlo
  have CC := fun w' => Lib.hid (cut_yes r 34 w' (by omega) hc)
  unfold tri str at CC
  have HCL := Lib.hid (cut_len 34 r)
  have HCN := Lib.hid hc
  generalize r.take (cutN 34 r) = s at *
  have hs1 : (bs s).size ≤ 100000 := by rw [bs_size]; have := HCL.out; omega
  have CN := fun w' => Lib.hid (show Calls Tryz.prog 72 #[.string (bs s)] w' (EndsB (.bool true) w') by have := name_any (bs s) w' (by unfold maxLen; omega); rwa [bs_data, hn] at this)
  have HSN : Hid (1 + ((bs s).size : Int) + 1 = ((s.length + 2 : Nat) : Int)) := Lib.hid (by rw [bs_size]; push_cast; omega)
  have HS2 : Hid (s.length + 2 ≤ (c :: r).length ∧ s.length ≤ 1000000) := Lib.hid (by have := HCL.out; have := HCN.out; simp; omega)
  clear h hl hw hlo hc hn hlr
  go_enter Tryz.func113, Tryz.ntmps113
  go_wp2_with fail
  refine (CC _).out.mono ?_
  rintro e w1 ⟨rfl, hb1⟩
  clear hx hsz c0
  have HB := Lib.hid hb1
  clear hb1
  go_wp2_with fail
  refine (CN _).out.mono ?_
  rintro e w2 ⟨rfl, hb2⟩
  have HB2 := Lib.hid (HB.out.trans (hb2.mono HB.out.size))
  clear hb2 HB
  have HG := Lib.hid (HH.out.below HB2.out)
  have HT := Lib.hid ((Turn.refl (mine g v) w).below HB2.out)
  have CT := Lib.hid (take_any w2 lo g (s.length + 2) (c :: r) ws v HG.out HS2.out.1 (by have := HLL.out; omega))
  rw [← HSN.out] at CT
  go_wp2_with fail
  refine CT.out.mono ?_
  intro e w3 hs
  obtain ⟨rfl, v2, hs⟩ := Step.then_ HT.out (fun _ hk => .inl hk) hs
  have HS := Lib.hid hs
  clear hs
  have CA := Lib.hid (add_any w3 lo g _ _ _ ⟨3, s, 0⟩ HS.out.1 HS2.out.2 (by have := HW.out; omega) (Nat.le_trans HLO.out HS.out.2.1.size))
  go_wp2_with fail
  refine CA.out.mono ?_
  intro e w4 hs
  obtain ⟨rfl, v3, hs⟩ := Step.then_ HS.out.2.1 HS.out.2.2 hs
  have HS3 := Lib.hid hs
  clear hs
  go_wp2_with fail
  go_ret
  exact ⟨rfl, v3, HS3.out⟩
set_option maxHeartbeats 4000000 in
theorem text_key (w : World) (lo g : Nat) (c : UInt8) (r : List UInt8) (ws : List Wd) (v : Value) (h : Rd w lo g (c :: r) ws v) (hl : (c :: r).length ≤ 100000) (hw : ws.length ≤ 100000) (hlo : lo ≤ w.heap.size) (hc : cutN 34 r < r.length)
    (hn : nameOk (r.take (cutN 34 r)) = false) (hk : keyB (r.take (cutN 34 r)) = true) :
    Calls Tryz.prog 113 #[.pointer (some ⟨g, 0, none⟩)] w (Told w lo g v (textS (c :: r) ws)) := by
  rw [textS_ok (s := r.take (cutN 34 r)) (by rw [List.drop_succ_cons, List.drop_zero, cutQ_eq, if_pos hc]) (by unfold textOk; rw [hn, hk]; rfl)]
  have HH := Lib.hid h
  have c0 := cell_at h.at_ 0
  have HLL := Lib.hid hl
  have hlr : r.length ≤ 100000 := by simp at hl; omega
  have hsz : 1 ≤ (bs (c :: r)).size := by rw [bs_size]; simp
  have hx : (bs (c :: r)).extract 1 (bs (c :: r)).size = bs r := by rw [extract_bs, bs_size]; simp
  have HW := Lib.hid hw
  have HLO := Lib.hid hlo
  have CC := fun w' => Lib.hid (cut_yes r 34 w' (by omega) hc)
  unfold tri str at CC
  have HCL := Lib.hid (cut_len 34 r)
  have HCN := Lib.hid hc
  generalize r.take (cutN 34 r) = s at *
  have hs1 : (bs s).size ≤ 100000 := by rw [bs_size]; have := HCL.out; omega
  have CN := fun w' => Lib.hid (show Calls Tryz.prog 72 #[.string (bs s)] w' (EndsB (.bool false) w') by have := name_any (bs s) w' (by unfold maxLen; omega); rwa [bs_data, hn] at this)
  have CK := fun w' => Lib.hid (show Calls Tryz.prog 59 #[.string (bs s)] w' (EndsW (.bool true) w') by have := key_any s w'; rwa [hk] at this)
  have HSN : Hid (1 + ((bs s).size : Int) + 1 = ((s.length + 2 : Nat) : Int)) := Lib.hid (by rw [bs_size]; push_cast; omega)
  have HS2 : Hid (s.length + 2 ≤ (c :: r).length ∧ s.length ≤ 1000000) := Lib.hid (by have := HCL.out; have := HCN.out; simp; omega)
  clear h hl hw hlo hc hn hk hlr
  go_enter Tryz.func113, Tryz.ntmps113
  go_wp2_with fail
  refine (CC _).out.mono ?_
  rintro e w1 ⟨rfl, hb1⟩
  clear hx hsz c0
  have HB := Lib.hid hb1
  clear hb1
  go_wp2_with fail
  refine (CN _).out.mono ?_
  rintro e w2 ⟨rfl, hb2⟩
  have HB2 := Lib.hid (HB.out.trans (hb2.mono HB.out.size))
  clear hb2 HB
  go_wp2_with fail
  refine (CK _).out.mono ?_
  rintro e w' ⟨rfl, rfl⟩
  have HG := Lib.hid (HH.out.below HB2.out)
  have HT := Lib.hid ((Turn.refl (mine g v) w).below HB2.out)
  have CT := Lib.hid (take_any w2 lo g (s.length + 2) (c :: r) ws v HG.out HS2.out.1 (by have := HLL.out; omega))
  rw [← HSN.out] at CT
  go_wp2_with fail
  refine CT.out.mono ?_
  intro e w3 hs
  obtain ⟨rfl, v2, hs⟩ := Step.then_ HT.out (fun _ hk => .inl hk) hs
  have HS := Lib.hid hs
  clear hs
  have CA := Lib.hid (add_any w3 lo g _ _ _ ⟨3, s, 0⟩ HS.out.1 HS2.out.2 (by have := HW.out; omega) (Nat.le_trans HLO.out HS.out.2.1.size))
  go_wp2_with fail
  refine CA.out.mono ?_
  intro e w4 hs
  obtain ⟨rfl, v3, hs⟩ := Step.then_ HS.out.2.1 HS.out.2.2 hs
  have HS3 := Lib.hid hs
  clear hs
  go_wp2_with fail
  go_ret
  exact ⟨rfl, v3, HS3.out⟩
set_option maxHeartbeats 4000000 in
theorem text_bad (w : World) (lo g : Nat) (c : UInt8) (r : List UInt8) (ws : List Wd) (v : Value) (h : Rd w lo g (c :: r) ws v) (hl : (c :: r).length ≤ 100000) (hc : cutN 34 r < r.length)
    (hn : nameOk (r.take (cutN 34 r)) = false) (hk : keyB (r.take (cutN 34 r)) = false) :
    Calls Tryz.prog 113 #[.pointer (some ⟨g, 0, none⟩)] w (Told w lo g v (textS (c :: r) ws)) := by
  rw [textS_bad (s := r.take (cutN 34 r)) (by rw [List.drop_succ_cons, List.drop_zero, cutQ_eq, if_pos hc]) (by unfold textOk; rw [hn, hk]; rfl)]
  have HH := Lib.hid h
  have c0 := cell_at h.at_ 0
  have HLL := Lib.hid hl
  have hlr : r.length ≤ 100000 := by simp at hl; omega
  have hsz : 1 ≤ (bs (c :: r)).size := by rw [bs_size]; simp
  have hx : (bs (c :: r)).extract 1 (bs (c :: r)).size = bs r := by rw [extract_bs, bs_size]; simp
  have CC := fun w' => Lib.hid (cut_yes r 34 w' (by omega) hc)
  unfold tri str at CC
  have HCL := Lib.hid (cut_len 34 r)
  have HCN := Lib.hid hc
  generalize r.take (cutN 34 r) = s at *
  have hs1 : (bs s).size ≤ 100000 := by rw [bs_size]; have := HCL.out; omega
  have CN := fun w' => Lib.hid (show Calls Tryz.prog 72 #[.string (bs s)] w' (EndsB (.bool false) w') by have := name_any (bs s) w' (by unfold maxLen; omega); rwa [bs_data, hn] at this)
  have CK := fun w' => Lib.hid (show Calls Tryz.prog 59 #[.string (bs s)] w' (EndsW (.bool false) w') by have := key_any s w'; rwa [hk] at this)
  clear h hl hc hn hk hlr
  go_enter Tryz.func113, Tryz.ntmps113
  go_wp2_with fail
  refine (CC _).out.mono ?_
  rintro e w1 ⟨rfl, hb1⟩
  clear hx hsz c0
  have HB := Lib.hid hb1
  clear hb1
  go_wp2_with fail
  refine (CN _).out.mono ?_
  rintro e w2 ⟨rfl, hb2⟩
  have HB2 := Lib.hid (HB.out.trans (hb2.mono HB.out.size))
  clear hb2 HB
  go_wp2_with fail
  refine (CK _).out.mono ?_
  rintro e w' ⟨rfl, rfl⟩
  go_wp2_with fail
  go_ret
  exact Step.same HH.out HB2.out _
theorem text_any (w : World) (lo g : Nat) (c : UInt8) (r : List UInt8) (ws : List Wd) (v : Value) (h : Rd w lo g (c :: r) ws v) (hl : (c :: r).length ≤ 100000) (hw : ws.length ≤ 100000) (hlo : lo ≤ w.heap.size) :
    Calls Tryz.prog 113 #[.pointer (some ⟨g, 0, none⟩)] w (Told w lo g v (textS (c :: r) ws)) := by
  by_cases hc : cutN 34 r < r.length
  · rcases Bool.eq_false_or_eq_true (nameOk (r.take (cutN 34 r))) with hn | hn
    · exact text_name w lo g c r ws v h hl hw hlo hc hn
    · rcases Bool.eq_false_or_eq_true (keyB (r.take (cutN 34 r))) with hk | hk
      · exact text_key w lo g c r ws v h hl hw hlo hc hn hk
      · exact text_bad w lo g c r ws v h hl hc hn hk
  · exact text_no w lo g c r ws v h hl (by have := cutN_le 34 r; omega)
end Go.Proofs.YtlhbhpdpjidpgaaGreatDoor.Lex
/- The longest sign; the reader's sign. Conditions: the table of signs lies as the program's text lays it; sizes. -/
namespace Go.Proofs.YtlhbhpdpjidpgaaGreatDoor.Lex
open Go.RowKit
open Num (EndsW)
set_option maxRecDepth 100000
theorem prefix_any (l p : List UInt8) (w : World) : Calls Tryz.prog 109 #[.string (bs l), .string (bs p)] w (EndsW (.bool (p.isPrefixOf l)) w) := by
  refine (Tryz.strings_HasPrefix (bs l) (bs p) w).mono ?_
  rintro e w' ⟨rfl, rfl⟩
  exact ⟨by rw [bs_data, bs_data]; rfl, rfl⟩
theorem fits_any (w : World) (b g : Nat) (l p : List UInt8) (hb : w.cell? ⟨b, 0, none⟩ = some (.pointer (some ⟨g, 0, none⟩))) (hg : w.cell? ⟨g, 0, none⟩ = some (.string (bs l))) :
    Calls Tryz.prog 135 #[.string (bs p), .pointer (some ⟨b, 0, none⟩)] w (EndsW (.bool (p.isPrefixOf l)) w) := by
  have C := Lib.hid (prefix_any l p w)
  go_enter Tryz.func135, Tryz.ntmps135
  go_wp2_with fail
  refine C.out.mono ?_
  rintro e w' ⟨rfl, rfl⟩
  go_wp2_with fail
  go_ret
  exact ⟨rfl, rfl⟩
/-- The table of signs, cell by cell. -/
def Signs (w : World) : Prop := ∀ i, i < 23 → w.cell? ⟨1, i, none⟩ = some (str (signsL.getD i []))
theorem Signs.below {w w' : World} {n : Nat} (h : Signs w) (h0 : 1 < n) (hb : Below n w w') : Signs w' := fun i hi => (World.cell?_of_block (w := w) (hb.block 1 h0)).trans (h i hi)
theorem Signs.range {w : World} (h : Signs w) : w.rangeAt 1 0 (signsL.map str) := fun j v hv => by
  obtain ⟨s, hs, rfl⟩ : ∃ s, signsL[j]? = some s ∧ str s = v := by simpa using hv
  have hj : j < 23 := (List.getElem?_eq_some_iff.1 hs).1
  rw [Nat.zero_add, h j hj, List.getD_eq_getElem?_getD, hs]
  rfl
theorem size_signs : (Tryz.prog.info? 149).map (·.size) = some 23 := by kernel_rfl
theorem size_str : (Tryz.prog.info? 9).map (·.size) = some 1 := by kernel_rfl
def sgn (k : Nat) : List UInt8 := signsL.getD k []
theorem index_sign (k : Nat) (hk : k < 23) (w : World) : (Instr.index 149 (.agg (signsL.map str).toArray) (.int .i64 k)).run Tryz.prog w = .ok (.string (bs (sgn k))) w := by
  have hq : (signsL.map str)[k]? = some (str (sgn k)) := by
    rw [List.getElem?_map, List.getElem?_eq_getElem (by exact hk)]
    rw [Option.map_some]
    unfold sgn
    rw [List.getD_eq_getElem?_getD, List.getElem?_eq_getElem (show k < signsL.length from hk)]
    rfl
  obtain ⟨i0, hi0, hz0⟩ := Option.map_eq_some_iff.1 size_str
  have h1 : (0 : Int) ≤ k ∧ (k : Int) < 23 := by omega
  simp [Instr.index, asIntOf, run_underlying Tryz.underlying149, h1, sizeOf, typeInfo, hi0, hz0]
  rw [if_pos hk]
  exact run_part_plain w (by kernel_rfl) (by rw [List.getElem?_toArray]; exact hq)
def bestK (l : List UInt8) (k : Nat) : List UInt8 := (signsL.take k).foldl (better l) []
theorem best_succ (l : List UInt8) (k : Nat) (hk : k < 23) : bestK l (k + 1) = better l (bestK l k) (sgn k) := by
  have hk' : k < signsL.length := hk
  unfold bestK sgn
  rw [List.take_succ_eq_append_getElem hk', List.foldl_append, List.getD_eq_getElem?_getD, List.getElem?_eq_getElem hk']
  rfl
theorem best_end (l : List UInt8) : bestK l 23 = longest l := rfl
set_option maxHeartbeats 4000000 in
theorem longest_any (w : World) (b g : Nat) (l : List UInt8) (hs : Signs w) (hb : w.cell? ⟨b, 0, none⟩ = some (.pointer (some ⟨g, 0, none⟩))) (hg : w.cell? ⟨g, 0, none⟩ = some (.string (bs l))) :
    Calls Tryz.prog 134 #[.func (.func 135) #[] #[.pointer (some ⟨b, 0, none⟩)]] w (EndsW (str (longest l)) w) := by
  have CF := fun p => Lib.hid (fits_any w b g l p hb hg)
  have HR := Lib.hid hs.range
  have HI := Lib.hid (fun k (hk : k < 23) => index_sign k hk w)
  have hsz : (signsL.map str).length = 23 := rfl
  generalize signsL.map str = SV at *
  have HSZ := Lib.hid hsz
  clear hb hg hs hsz
  unfold str
  go_enter Tryz.func134, Tryz.ntmps134
  go_wp2_with (with_reducible refine wpList_load_mid rfl 149 (.global 1) rfl 1 0 rfl SV _ HR.out Tryz.underlying149 rfl (by rw [HSZ.out]; exact size_signs) ?_)
  go_loop [3, 7] (fun B t => ∃ k : Nat, k ≤ 23 ∧ t = .int .i64 k ∧ B = .string (bs (bestK l k))) (fun _ t => 23 - (intOf t).toNat)
  case atStart => exact ⟨0, by omega, rfl, rfl⟩
  case round =>
    obtain ⟨k, hk, rfl, rfl⟩ := hrel
    by_cases hlt : k < 23
    · have hix := HI.out k hlt
      have HS := Lib.hid (best_succ l k hlt)
      have HB := Lib.hid (show better l (bestK l k) (sgn k) = if (bestK l k).length < (sgn k).length ∧ (sgn k).isPrefixOf l = true then sgn k else bestK l k from rfl)
      have C := CF (sgn k)
      have z1 := bs_size (bestK l k)
      have z2 := bs_size (sgn k)
      by_cases hle : (bestK l k).length < (sgn k).length
      · have hd : decide ((bs (bestK l k)).size < (bs (sgn k)).size) = true := by rw [bs_size, bs_size]; simpa using hle
        rcases Bool.eq_false_or_eq_true ((sgn k).isPrefixOf l) with hp | hp
        · rw [hp] at C
          have HE : Hid (bestK l (k + 1) = sgn k) := Lib.hid (by rw [HS.out, HB.out, if_pos ⟨hle, hp⟩])
          clear hp HB HS z1 z2 hle
          generalize bestK l k = B at *
          generalize sgn k = S at *
          go_wp2_with (go_at_call 135; refine C.out.mono ?_; rintro e w' ⟨rfl, rfl⟩)
          go_round
          case rel => exact ⟨k + 1, by omega, by go_num, by rw [HE.out]⟩
          case measure => simp [intOf]; omega
        · rw [hp] at C
          have HE : Hid (bestK l (k + 1) = bestK l k) := Lib.hid (by rw [HS.out, HB.out, if_neg (by rw [hp]; simp)])
          clear hp HB HS z1 z2 hle
          generalize bestK l k = B at *
          generalize sgn k = S at *
          go_wp2_with (go_at_call 135; refine C.out.mono ?_; rintro e w' ⟨rfl, rfl⟩)
          go_round
          case rel => exact ⟨k + 1, by omega, by go_num, by rw [HE.out]⟩
          case measure => simp [intOf]; omega
      · have hd : decide ((bs (bestK l k)).size < (bs (sgn k)).size) = false := by rw [bs_size, bs_size]; simpa using hle
        have HE : Hid (bestK l (k + 1) = bestK l k) := Lib.hid (by rw [HS.out, HB.out, if_neg (fun h => hle h.1)])
        clear HB HS z1 z2 hle C
        generalize bestK l k = B at *
        generalize sgn k = S at *
        go_wp2_with fail
        go_round
        case rel => exact ⟨k + 1, by omega, by go_num, by rw [HE.out]⟩
        case measure => simp [intOf]; omega
    · obtain rfl : k = 23 := by omega
      have HE := Lib.hid (best_end l)
      clear hk hlt
      generalize bestK l 23 = B at *
      go_wp2_with fail
      go_ret
      exact ⟨by show Ending.returned (Value.string (bs B)) = _; rw [HE.out], rfl⟩
theorem longest_len (l : List UInt8) : (longest l).length ≤ 2 ∧ (longest l).length ≤ l.length := by
  rcases longest_mem l with h | ⟨h1, h2⟩
  · rw [h]; simp
  · exact ⟨(signs_len h1).2, (List.isPrefixOf_iff_prefix.1 h2).length_le⟩
theorem signS_no {l : List UInt8} {ws : List Wd} (h : longest l = []) : signS l ws = ⟨7, l, ws⟩ := by unfold signS; rw [if_pos h]
theorem signS_yes {l : List UInt8} {ws : List Wd} (h : longest l ≠ []) : signS l ws = ⟨0, l.drop (longest l).length, ws ++ [⟨5, longest l, 0⟩]⟩ := by unfold signS; rw [if_neg h]
set_option maxHeartbeats 4000000 in
theorem sign_any (w : World) (lo g : Nat) (l : List UInt8) (ws : List Wd) (v : Value) (h : Rd w lo g l ws v) (hS : Signs w) (h0 : 1 < lo) (hl : l.length ≤ 100000) (hw : ws.length ≤ 100000) (hlo : lo ≤ w.heap.size) :
    Calls Tryz.prog 114 #[.pointer (some ⟨g, 0, none⟩)] w (Told w lo g v (signS l ws)) := by
  have HLL := Lib.hid hl
  have HW := Lib.hid hw
  have HLO := Lib.hid hlo
  have HA : Hid (Below w.heap.size w (w.alloc (.cells #[.pointer (some ⟨g, 0, none⟩)] 130))) := Lib.hid ((Below.refl _ w).alloc (Nat.le_refl _) _)
  have HN := Lib.hid (heap_alloc_new w (.cells #[.pointer (some ⟨g, 0, none⟩)] 130 (0, 0)))
  have HR := Lib.hid (h.below HA.out)
  have HT := Lib.hid ((Turn.refl (mine g v) w).below HA.out)
  have HM : Hid (∀ k ∈ mine g v, k < w.heap.size) := Lib.hid (fun k hk => (h.lt k hk).2)
  have CL := Lib.hid (longest_any (w.alloc (.cells #[.pointer (some ⟨g, 0, none⟩)] 130)) w.heap.size g l (hS.below (by omega) HA.out) (cell_at HN.out 0) (cell_at HR.out.at_ 0))
  have HLN := Lib.hid (longest_len l)
  clear h hS h0 hl hw hlo HA
  by_cases he : longest l = []
  · rw [signS_no he]
    rw [he] at CL
    clear he
    go_enter Tryz.func114, Tryz.ntmps114
    go_wp2_with fail
    refine CL.out.mono ?_
    rintro e w' ⟨rfl, rfl⟩
    unfold str bs
    go_wp2_with fail
    go_ret
    exact ⟨rfl, v, HR.out, HT.out, fun _ hk => .inl hk⟩
  · rw [signS_yes he]
    have e1 := not_empty (bs (longest l)) (by rw [bs_size]; cases hq : longest l with | nil => exact absurd hq he | cons c r => simp)
    clear he
    generalize longest l = s at *
    have HSZ := Lib.hid (bs_size s)
    have CT := Lib.hid (take_any (w.alloc (.cells #[.pointer (some ⟨g, 0, none⟩)] 130)) lo g s.length l ws v HR.out HLN.out.2 (by have := HLL.out; omega))
    rw [← HSZ.out] at CT
    have y0 := cell_at HN.out 0
    go_enter Tryz.func114, Tryz.ntmps114
    go_wp2_with fail
    refine CL.out.mono ?_
    rintro e w' ⟨rfl, rfl⟩
    unfold str
    go_wp2_with fail
    refine CT.out.mono ?_
    intro e w2 hs
    have HK : Hid (w2.heap[w.heap.size]? = some (.cells #[.pointer (some ⟨g, 0, none⟩)] 130 (0, 0))) := Lib.hid (by
      obtain ⟨_, _, _, ht, _⟩ := hs
      exact (ht.block _ (lt_of_heap HN.out) (fun hm => by have := HM.out _ hm; omega)).trans HN.out)
    obtain ⟨rfl, v2, hs⟩ := Step.then_ HT.out (fun _ hk => .inl hk) hs
    have HS := Lib.hid hs
    have z0 := cell_at HK.out 0
    clear hs y0
    have CA := Lib.hid (add_any w2 lo g _ _ _ ⟨5, s, 0⟩ HS.out.1 (by have := HLN.out.1; show s.length ≤ 1000000; omega) (by have := HW.out; omega) (Nat.le_trans HLO.out HS.out.2.1.size))
    go_wp2_with fail
    refine CA.out.mono ?_
    intro e w3 hs
    obtain ⟨rfl, v3, hs⟩ := Step.then_ HS.out.2.1 HS.out.2.2 hs
    have HS3 := Lib.hid hs
    clear hs
    go_wp2_with fail
    go_ret
    exact ⟨rfl, v3, by rw [← HSZ.out]; exact HS3.out⟩
end Go.Proofs.YtlhbhpdpjidpgaaGreatDoor.Lex
