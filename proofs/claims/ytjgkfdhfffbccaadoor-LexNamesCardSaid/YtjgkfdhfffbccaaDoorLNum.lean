/-
  The reader's number, name and text. Conditions: sizes.
-/
import Derived.Test.YtjgkfdhfffbccaaDoorLEnd
namespace Go.Proofs.YtjgkfdhfffbccaaDoor.Lex
open Go.RowKit
open Num (EndsW)
set_option maxRecDepth 100000
def Told (w : World) (lo g : Nat) (v : Value) (s : St) : Ending → World → Prop := Step w lo g v (.int .i64 s.e) s.l s.ws
theorem num_read (s : List UInt8) (w : World) (h : s.length ≤ 1000000) : Calls Tryd.prog 44 #[.string (bs s)] w (EndsW (.tuple #[.int .i64 (Num.readV s).1, .bool (Num.readV s).2]) w) := Num.read_any (bs s) w (by rw [bs_size]; unfold maxLen; omega)
theorem numS_ok {l : List UInt8} {ws : List Wd} {n : Int} (h : Num.readV (l.take (rowN dig l)) = (n, true)) : numS l ws = ⟨0, l.drop (rowN dig l), ws ++ [⟨2, [], n⟩]⟩ := by simp only [numS, h]; rfl
theorem numS_zero {l : List UInt8} {ws : List Wd} {n : Int} (h : Num.readV (l.take (rowN dig l)) = (n, false)) (hz : l.head? = some 48) : numS l ws = ⟨7, l.drop (rowN dig l), ws⟩ := by simp only [numS, h]; simp [hz]
theorem numS_big {l : List UInt8} {ws : List Wd} {n : Int} (h : Num.readV (l.take (rowN dig l)) = (n, false)) (hz : l.head? ≠ some 48) : numS l ws = ⟨11, l.drop (rowN dig l), ws⟩ := by simp only [numS, h]; simp [hz]
set_option maxHeartbeats 4000000 in
theorem number_any (w : World) (lo g : Nat) (c : UInt8) (r : List UInt8) (ws : List Wd) (v : Value) (h : Rd w lo g (c :: r) ws v) (hc : dig c = true) (hl : (c :: r).length ≤ 100000) (hw : ws.length ≤ 100000) (hlo : lo ≤ w.heap.size) :
    Calls Tryd.prog 36 #[.pointer (some ⟨g, 0, none⟩)] w (Told w lo g v (numS (c :: r) ws)) := by
  have HH := Lib.hid h
  have c0 := cell_at h.at_ 0
  have HLE := Lib.hid (rowN_le dig (c :: r))
  have HPO := Lib.hid (rowN_pos (r := r) hc)
  have HLL := Lib.hid hl
  have HW := Lib.hid hw
  have HLO := Lib.hid hlo
  have CR := Lib.hid (row_dig (bs (c :: r)) w (by rw [bs_size]; unfold maxLen; omega))
  rw [bs_data] at CR
  have HD : Hid (∃ q, (c :: r).take (rowN dig (c :: r)) = c :: q) := Lib.hid (by
    obtain ⟨m, hm⟩ : ∃ m, rowN dig (c :: r) = m + 1 := ⟨rowN dig (c :: r) - 1, by have := HPO.out; omega⟩
    rw [hm]; exact ⟨_, rfl⟩)
  have HTL : Hid (((c :: r).take (rowN dig (c :: r))).length ≤ 1000000) := Lib.hid (by rw [List.length_take]; have := HLE.out; omega)
  obtain ⟨n, ok, hr⟩ : ∃ n ok, Num.readV ((c :: r).take (rowN dig (c :: r))) = (n, ok) := ⟨_, _, rfl⟩
  have CN := fun w' => Lib.hid (num_read ((c :: r).take (rowN dig (c :: r))) w' HTL.out)
  rw [hr] at CN
  have HR := Lib.hid hr
  have H48 : (c.toNat = 48) ↔ (c :: r).head? = some 48 := by
    simp only [List.head?_cons, Option.some.injEq]
    exact ⟨fun h => UInt8.toNat_inj.1 h, fun h => by rw [h]; rfl⟩
  clear h hl hw hlo hr hc
  cases ok with
  | true =>
    rw [numS_ok HR.out]
    clear H48
    go_enter Tryd.func36, Tryd.ntmps36
    go_wp2_with fail
    refine CR.out.mono ?_
    rintro e w1 ⟨rfl, hb1⟩
    have HG := Lib.hid (HH.out.below hb1)
    have HT := Lib.hid ((Turn.refl (mine g v) w).below hb1)
    have CT := Lib.hid (take_any w1 lo g (rowN dig (c :: r)) (c :: r) ws v HG.out HLE.out (by have := HLL.out; omega))
    clear hb1 c0
    go_wp2_with fail
    refine CT.out.mono ?_
    intro e w2 hs
    obtain ⟨rfl, v2, hs⟩ := Step.then_ HT.out (fun _ hk => .inl hk) hs
    have HS := Lib.hid hs
    unfold str
    clear hs
    go_wp2_with fail
    refine (CN _).out.mono ?_
    rintro e w' ⟨rfl, rfl⟩
    have CA := Lib.hid (add_any w2 lo g _ _ _ ⟨2, [], n⟩ HS.out.1 (Nat.zero_le _) (by have := HW.out; omega) (Nat.le_trans HLO.out HS.out.2.1.size))
    go_wp2_with fail
    refine CA.out.mono ?_
    intro e w3 hs
    obtain ⟨rfl, v3, hs⟩ := Step.then_ HS.out.2.1 HS.out.2.2 hs
    have HS3 := Lib.hid hs
    clear hs
    go_wp2_with fail
    go_ret
    exact ⟨rfl, v3, HS3.out⟩
  | false =>
    obtain ⟨q, hq⟩ := HD.out
    have h0 : 0 < (bs (c :: q)).size := by rw [bs_size]; simp
    have HQ := Lib.hid hq
    have CN2 := fun w' => Lib.hid (show Calls Tryd.prog 44 #[.string (bs (c :: q))] w' (EndsW (.tuple #[.int .i64 n, .bool false]) w') by have := (CN w').out; rwa [HQ.out] at this)
    clear hq CN HD
    by_cases hz : c.toNat = 48
    · have HE := Lib.hid (numS_zero (ws := ws) HR.out (H48.1 hz))
      have hz2 : ((((bs (c :: q))[0]'h0).toNat : Int) == 48) = true := by
        show ((c.toNat : Int) == 48) = true
        simp; omega
      rw [HE.out]
      clear hz H48 HE
      go_enter Tryd.func36, Tryd.ntmps36
      go_wp2_with fail
      refine CR.out.mono ?_
      rintro e w1 ⟨rfl, hb1⟩
      have HG := Lib.hid (HH.out.below hb1)
      have HT := Lib.hid ((Turn.refl (mine g v) w).below hb1)
      have CT := Lib.hid (take_any w1 lo g (rowN dig (c :: r)) (c :: r) ws v HG.out HLE.out (by have := HLL.out; omega))
      clear hb1 c0
      go_wp2_with fail
      refine CT.out.mono ?_
      intro e w2 hs
      rw [HQ.out] at hs
      obtain ⟨rfl, v2, hs⟩ := Step.then_ HT.out (fun _ hk => .inl hk) hs
      have HS := Lib.hid hs
      unfold str
      clear hs
      go_wp2_with fail
      refine (CN2 _).out.mono ?_
      rintro e w' ⟨rfl, rfl⟩
      go_wp2_with fail
      go_ret
      exact ⟨rfl, v2, HS.out⟩
    · have HE := Lib.hid (numS_big (ws := ws) HR.out (fun h => hz (H48.2 h)))
      have hz2 : ((((bs (c :: q))[0]'h0).toNat : Int) == 48) = false := by
        show ((c.toNat : Int) == 48) = false
        simp; omega
      rw [HE.out]
      clear hz H48 HE
      go_enter Tryd.func36, Tryd.ntmps36
      go_wp2_with fail
      refine CR.out.mono ?_
      rintro e w1 ⟨rfl, hb1⟩
      have HG := Lib.hid (HH.out.below hb1)
      have HT := Lib.hid ((Turn.refl (mine g v) w).below hb1)
      have CT := Lib.hid (take_any w1 lo g (rowN dig (c :: r)) (c :: r) ws v HG.out HLE.out (by have := HLL.out; omega))
      clear hb1 c0
      go_wp2_with fail
      refine CT.out.mono ?_
      intro e w2 hs
      rw [HQ.out] at hs
      obtain ⟨rfl, v2, hs⟩ := Step.then_ HT.out (fun _ hk => .inl hk) hs
      have HS := Lib.hid hs
      unfold str
      clear hs
      go_wp2_with fail
      refine (CN2 _).out.mono ?_
      rintro e w' ⟨rfl, rfl⟩
      go_wp2_with fail
      go_ret
      exact ⟨rfl, v2, HS.out⟩
theorem nameS_long {l : List UInt8} {ws : List Wd} (h : 16 < rowN nameB l) : nameS l ws = ⟨11, l.drop (rowN nameB l), ws⟩ := by simp only [nameS, h, if_true]
theorem nameS_key {l : List UInt8} {ws : List Wd} (h : ¬ 16 < rowN nameB l) (hk : keyB (l.take (rowN nameB l)) = true) : nameS l ws = ⟨0, l.drop (rowN nameB l), ws ++ [⟨4, l.take (rowN nameB l), 0⟩]⟩ := by simp only [nameS, h, if_false, hk, if_true]
theorem nameS_name {l : List UInt8} {ws : List Wd} (h : ¬ 16 < rowN nameB l) (hk : keyB (l.take (rowN nameB l)) = false) : nameS l ws = ⟨0, l.drop (rowN nameB l), ws ++ [⟨1, l.take (rowN nameB l), 0⟩]⟩ := by simp [nameS, h, hk]
set_option maxHeartbeats 4000000 in
theorem rname_any (w : World) (lo g : Nat) (l : List UInt8) (ws : List Wd) (v : Value) (h : Rd w lo g l ws v) (hl : l.length ≤ 100000) (hw : ws.length ≤ 100000) (hlo : lo ≤ w.heap.size) :
    Calls Tryd.prog 37 #[.pointer (some ⟨g, 0, none⟩)] w (Told w lo g v (nameS l ws)) := by
  have HH := Lib.hid h
  have c0 := cell_at h.at_ 0
  have HLE := Lib.hid (rowN_le nameB l)
  have HLL := Lib.hid hl
  have HW := Lib.hid hw
  have HLO := Lib.hid hlo
  have CR := Lib.hid (row_name (bs l) w (by rw [bs_size]; unfold maxLen; omega))
  rw [bs_data] at CR
  have HSZ := Lib.hid (show (bs (l.take (rowN nameB l))).size = rowN nameB l by rw [bs_size, List.length_take]; have := HLE.out; omega)
  clear h hl hw hlo
  by_cases h16 : 16 < rowN nameB l
  · have hd : decide ((16 : Int) < ((bs (l.take (rowN nameB l))).size : Int)) = true := by rw [HSZ.out]; simp; omega
    rw [nameS_long h16]
    clear h16
    go_enter Tryd.func37, Tryd.ntmps37
    go_wp2_with fail
    refine CR.out.mono ?_
    rintro e w1 ⟨rfl, hb1⟩
    have HG := Lib.hid (HH.out.below hb1)
    have HT := Lib.hid ((Turn.refl (mine g v) w).below hb1)
    have CT := Lib.hid (take_any w1 lo g (rowN nameB l) l ws v HG.out HLE.out (by have := HLL.out; omega))
    clear hb1 c0
    go_wp2_with fail
    refine CT.out.mono ?_
    intro e w2 hs
    obtain ⟨rfl, v2, hs⟩ := Step.then_ HT.out (fun _ hk => .inl hk) hs
    have HS := Lib.hid hs
    unfold str
    clear hs
    go_wp2_with fail
    go_ret
    exact ⟨rfl, v2, HS.out⟩
  have hd : decide ((16 : Int) < ((bs (l.take (rowN nameB l))).size : Int)) = false := by rw [HSZ.out]; simp; omega
  have CK := fun w' => Lib.hid (key_any (l.take (rowN nameB l)) w')
  have HTL : Hid ((l.take (rowN nameB l)).length ≤ 1000000) := Lib.hid (by rw [List.length_take]; have := HLL.out; omega)
  rcases Bool.eq_false_or_eq_true (keyB (l.take (rowN nameB l))) with hk | hk
  · have CKT := fun w' => Lib.hid (show Calls Tryd.prog 6 #[.string (bs (l.take (rowN nameB l)))] w' (EndsW (.bool true) w') by have := (CK w').out; rwa [hk] at this)
    rw [nameS_key h16 hk]
    clear h16 hk CK
    go_enter Tryd.func37, Tryd.ntmps37
    go_wp2_with fail
    refine CR.out.mono ?_
    rintro e w1 ⟨rfl, hb1⟩
    have HG := Lib.hid (HH.out.below hb1)
    have HT := Lib.hid ((Turn.refl (mine g v) w).below hb1)
    have CT := Lib.hid (take_any w1 lo g (rowN nameB l) l ws v HG.out HLE.out (by have := HLL.out; omega))
    clear hb1 c0
    go_wp2_with fail
    refine CT.out.mono ?_
    intro e w2 hs
    obtain ⟨rfl, v2, hs⟩ := Step.then_ HT.out (fun _ hk => .inl hk) hs
    have HS := Lib.hid hs
    unfold str
    clear hs
    go_wp2_with fail
    refine (CKT _).out.mono ?_
    rintro e w' ⟨rfl, rfl⟩
    have CA := Lib.hid (add_any w2 lo g _ _ _ ⟨4, l.take (rowN nameB l), 0⟩ HS.out.1 HTL.out (by have := HW.out; omega) (Nat.le_trans HLO.out HS.out.2.1.size))
    go_wp2_with fail
    refine CA.out.mono ?_
    intro e w3 hs
    obtain ⟨rfl, v3, hs⟩ := Step.then_ HS.out.2.1 HS.out.2.2 hs
    have HS3 := Lib.hid hs
    clear hs
    go_wp2_with fail
    go_ret
    exact ⟨rfl, v3, HS3.out⟩
  · have CKT := fun w' => Lib.hid (show Calls Tryd.prog 6 #[.string (bs (l.take (rowN nameB l)))] w' (EndsW (.bool false) w') by have := (CK w').out; rwa [hk] at this)
    rw [nameS_name h16 hk]
    clear h16 hk CK
    go_enter Tryd.func37, Tryd.ntmps37
    go_wp2_with fail
    refine CR.out.mono ?_
    rintro e w1 ⟨rfl, hb1⟩
    have HG := Lib.hid (HH.out.below hb1)
    have HT := Lib.hid ((Turn.refl (mine g v) w).below hb1)
    have CT := Lib.hid (take_any w1 lo g (rowN nameB l) l ws v HG.out HLE.out (by have := HLL.out; omega))
    clear hb1 c0
    go_wp2_with fail
    refine CT.out.mono ?_
    intro e w2 hs
    obtain ⟨rfl, v2, hs⟩ := Step.then_ HT.out (fun _ hk => .inl hk) hs
    have HS := Lib.hid hs
    unfold str
    clear hs
    go_wp2_with fail
    refine (CKT _).out.mono ?_
    rintro e w' ⟨rfl, rfl⟩
    have CA := Lib.hid (add_any w2 lo g _ _ _ ⟨1, l.take (rowN nameB l), 0⟩ HS.out.1 HTL.out (by have := HW.out; omega) (Nat.le_trans HLO.out HS.out.2.1.size))
    go_wp2_with fail
    refine CA.out.mono ?_
    intro e w3 hs
    obtain ⟨rfl, v3, hs⟩ := Step.then_ HS.out.2.1 HS.out.2.2 hs
    have HS3 := Lib.hid hs
    clear hs
    go_wp2_with fail
    go_ret
    exact ⟨rfl, v3, HS3.out⟩
theorem textS_no {l : List UInt8} {ws : List Wd} (h : cutQ (l.drop 1) = none) : textS l ws = ⟨7, l, ws⟩ := by simp only [textS, h]
theorem textS_bad {l s : List UInt8} {ws : List Wd} (h : cutQ (l.drop 1) = some s) (ht : textOk s = false) : textS l ws = ⟨7, l, ws⟩ := by simp only [textS, h, ht]; rfl
theorem textS_ok {l s : List UInt8} {ws : List Wd} (h : cutQ (l.drop 1) = some s) (ht : textOk s = true) : textS l ws = ⟨0, l.drop (s.length + 2), ws ++ [⟨3, s, 0⟩]⟩ := by simp only [textS, h, ht]; rfl
theorem quote_eq : (fun c : UInt8 => decide (c.toNat ≠ 34)) = fun c => c != 34 := by
  funext c
  rw [Bool.eq_iff_iff]
  simp only [decide_eq_true_eq, bne_iff_ne, ne_eq]
  exact ⟨fun h e => h (by rw [e]; rfl), fun h e => h (UInt8.toNat_inj.1 e)⟩
theorem cutQ_eq (l : List UInt8) : cutQ l = if cutN 34 l < l.length then some (l.take (cutN 34 l)) else none := by
  unfold cutQ
  rw [quote_eq, take_cutN]
  rfl
end Go.Proofs.YtjgkfdhfffbccaaDoor.Lex
