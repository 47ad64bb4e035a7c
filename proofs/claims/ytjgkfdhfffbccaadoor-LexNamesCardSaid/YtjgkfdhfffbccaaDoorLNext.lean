/-
  One step of the reader. Conditions: the table of signs lies as the program's text lays it; sizes.
-/
import Derived.Test.YtjgkfdhfffbccaaDoorLSign
namespace Go.Proofs.YtjgkfdhfffbccaaDoor.Lex
open Go.RowKit
open Num (EndsW)
set_option maxRecDepth 100000
theorem Told.of {w w1 : World} {lo g : Nat} {v v2 : Value} {s : St} (h : Rd w1 lo g s.l s.ws v2 ∧ Turn (mine g v) w w1 ∧ ∀ k ∈ mine g v2, k ∈ mine g v ∨ w.heap.size ≤ k) : Told w lo g v s (.returned (.int .i64 s.e)) w1 := ⟨rfl, v2, h⟩
set_option maxHeartbeats 4000000 in
theorem next_line (w : World) (lo g : Nat) (c : UInt8) (r : List UInt8) (ws : List Wd) (v : Value) (h : Rd w lo g (c :: r) ws v) (hl : (c :: r).length ≤ 100000) (hw : ws.length ≤ 100000) (hlo : lo ≤ w.heap.size) (hn : c.toNat = 10) :
    Calls Tryd.prog 27 #[.pointer (some ⟨g, 0, none⟩)] w (Told w lo g v ⟨0, r, endLn ws⟩) := by
  have HH := Lib.hid h
  have HLL := Lib.hid hl
  have HW := Lib.hid hw
  have HLO := Lib.hid hlo
  have c0 := cell_at h.at_ 0
  have h00 : 0 < (bs (c :: r)).size := by rw [bs_size]; simp
  have hS0 : ((bs (c :: r))[0]'h00).toNat = 10 := hn
  have hwr : wrap32 (10 : Int) = 10 := by unfold wrap32; omega
  have CT := Lib.hid (take_any w lo g 1 (c :: r) ws v HH.out (by simp) (by have := HLL.out; omega))
  clear h hl hw hlo hn
  go_enter Tryd.func27, Tryd.ntmps27
  go_wp2_with fail
  refine CT.out.mono ?_
  intro e w2 hs
  obtain ⟨rfl, v2, hs⟩ := Step.then_ (Turn.refl (mine g v) w) (fun _ hk => .inl hk) hs
  have HS := Lib.hid hs
  have CE := Lib.hid (end_any w2 lo g _ _ _ HS.out.1 HW.out (Nat.le_trans HLO.out HS.out.2.1.size))
  clear hs c0
  go_wp2_with fail
  refine CE.out.mono ?_
  intro e w3 hs
  obtain ⟨rfl, v3, hs⟩ := Step.then_ HS.out.2.1 HS.out.2.2 hs
  have HS3 := Lib.hid hs
  clear hs
  go_wp2_with fail
  go_ret
  exact Told.of (s := ⟨0, r, endLn ws⟩) HS3.out
set_option maxHeartbeats 4000000 in
theorem next_space (w : World) (lo g : Nat) (c : UInt8) (r : List UInt8) (ws : List Wd) (v : Value) (h : Rd w lo g (c :: r) ws v) (hl : (c :: r).length ≤ 100000) (hn : c.toNat = 32) :
    Calls Tryd.prog 27 #[.pointer (some ⟨g, 0, none⟩)] w (Told w lo g v ⟨0, r, ws⟩) := by
  have HH := Lib.hid h
  have HLL := Lib.hid hl
  have c0 := cell_at h.at_ 0
  have h00 : 0 < (bs (c :: r)).size := by rw [bs_size]; simp
  have hS0 : ((bs (c :: r))[0]'h00).toNat = 32 := hn
  have hwr : wrap32 (32 : Int) = 32 := by unfold wrap32; omega
  have CT := Lib.hid (take_any w lo g 1 (c :: r) ws v HH.out (by simp) (by have := HLL.out; omega))
  clear h hl hn
  go_enter Tryd.func27, Tryd.ntmps27
  go_wp2_with fail
  refine CT.out.mono ?_
  intro e w2 hs
  obtain ⟨rfl, v2, hs⟩ := Step.then_ (Turn.refl (mine g v) w) (fun _ hk => .inl hk) hs
  have HS := Lib.hid hs
  clear hs c0
  go_wp2_with fail
  go_ret
  exact Told.of (s := ⟨0, r, ws⟩) HS.out
set_option maxHeartbeats 4000000 in
theorem next_tab (w : World) (lo g : Nat) (c : UInt8) (r : List UInt8) (ws : List Wd) (v : Value) (h : Rd w lo g (c :: r) ws v) (hl : (c :: r).length ≤ 100000) (hn : c.toNat = 9) :
    Calls Tryd.prog 27 #[.pointer (some ⟨g, 0, none⟩)] w (Told w lo g v ⟨0, r, ws⟩) := by
  have HH := Lib.hid h
  have HLL := Lib.hid hl
  have c0 := cell_at h.at_ 0
  have h00 : 0 < (bs (c :: r)).size := by rw [bs_size]; simp
  have hS0 : ((bs (c :: r))[0]'h00).toNat = 9 := hn
  have hwr : wrap32 (9 : Int) = 9 := by unfold wrap32; omega
  have CT := Lib.hid (take_any w lo g 1 (c :: r) ws v HH.out (by simp) (by have := HLL.out; omega))
  clear h hl hn
  go_enter Tryd.func27, Tryd.ntmps27
  go_wp2_with fail
  refine CT.out.mono ?_
  intro e w2 hs
  obtain ⟨rfl, v2, hs⟩ := Step.then_ (Turn.refl (mine g v) w) (fun _ hk => .inl hk) hs
  have HS := Lib.hid hs
  clear hs c0
  go_wp2_with fail
  go_ret
  exact Told.of (s := ⟨0, r, ws⟩) HS.out
set_option maxHeartbeats 4000000 in
theorem next_cr (w : World) (lo g : Nat) (c : UInt8) (r : List UInt8) (ws : List Wd) (v : Value) (h : Rd w lo g (c :: r) ws v) (hl : (c :: r).length ≤ 100000) (hn : c.toNat = 13) :
    Calls Tryd.prog 27 #[.pointer (some ⟨g, 0, none⟩)] w (Told w lo g v ⟨0, r, ws⟩) := by
  have HH := Lib.hid h
  have HLL := Lib.hid hl
  have c0 := cell_at h.at_ 0
  have h00 : 0 < (bs (c :: r)).size := by rw [bs_size]; simp
  have hS0 : ((bs (c :: r))[0]'h00).toNat = 13 := hn
  have hwr : wrap32 (13 : Int) = 13 := by unfold wrap32; omega
  have CT := Lib.hid (take_any w lo g 1 (c :: r) ws v HH.out (by simp) (by have := HLL.out; omega))
  clear h hl hn
  go_enter Tryd.func27, Tryd.ntmps27
  go_wp2_with fail
  refine CT.out.mono ?_
  intro e w2 hs
  obtain ⟨rfl, v2, hs⟩ := Step.then_ (Turn.refl (mine g v) w) (fun _ hk => .inl hk) hs
  have HS := Lib.hid hs
  clear hs c0
  go_wp2_with fail
  go_ret
  exact Told.of (s := ⟨0, r, ws⟩) HS.out
set_option maxHeartbeats 4000000 in
theorem next_note (w : World) (lo g : Nat) (c : UInt8) (r : List UInt8) (ws : List Wd) (v : Value) (h : Rd w lo g (c :: r) ws v) (hl : (c :: r).length ≤ 100000) (n : Nat) (hn : c.toNat = n) (b10 : ((n : Int) == 10) = false) (b32 : ((n : Int) == 32) = false) (b9 : ((n : Int) == 9) = false) (b13 : ((n : Int) == 13) = false) (hp : [47, 47].isPrefixOf (c :: r) = true) :
    Calls Tryd.prog 27 #[.pointer (some ⟨g, 0, none⟩)] w (Told w lo g v ⟨0, (c :: r).drop (rowN notNL (c :: r)), ws⟩) := by
  have HH := Lib.hid h
  have HLL := Lib.hid hl
  have c0 := cell_at h.at_ 0
  have h00 : 0 < (bs (c :: r)).size := by rw [bs_size]; simp
  have hS0 : ((bs (c :: r))[0]'h00).toNat = n := hn
  have hwr : wrap32 (n : Int) = (n : Int) := by rw [← hn]; exact wrap_byte c
  have CP := Lib.hid (show Calls Tryd.prog 34 #[.string (bs (c :: r)), .string ⟨#[47, 47]⟩] w (EndsW (.bool true) w) by have := prefix_any (c :: r) [47, 47] w; rwa [hp] at this)
  have CR := Lib.hid (row_nl (bs (c :: r)) w (by rw [bs_size]; unfold maxLen; have := HLL.out; omega))
  rw [bs_data] at CR
  have HLE := Lib.hid (rowN_le notNL (c :: r))
  clear hp
  clear h hl hn
  go_enter Tryd.func27, Tryd.ntmps27
  go_wp2_with fail
  refine CP.out.mono ?_
  rintro e w' ⟨rfl, rfl⟩
  go_wp2_with fail
  refine CR.out.mono ?_
  rintro e w1 ⟨rfl, hb1⟩
  have HG := Lib.hid (HH.out.below hb1)
  have HT := Lib.hid ((Turn.refl (mine g v) w).below hb1)
  have CT := Lib.hid (take_any w1 lo g (rowN notNL (c :: r)) (c :: r) ws v HG.out HLE.out (by have := HLL.out; omega))
  clear hb1 c0
  go_wp2_with fail
  refine CT.out.mono ?_
  intro e w2 hs
  obtain ⟨rfl, v2, hs⟩ := Step.then_ HT.out (fun _ hk => .inl hk) hs
  have HS := Lib.hid hs
  clear hs
  go_wp2_with fail
  go_ret
  exact Told.of (s := ⟨0, (c :: r).drop (rowN notNL (c :: r)), ws⟩) HS.out
set_option maxHeartbeats 4000000 in
theorem next_num (w : World) (lo g : Nat) (c : UInt8) (r : List UInt8) (ws : List Wd) (v : Value) (h : Rd w lo g (c :: r) ws v) (hl : (c :: r).length ≤ 100000) (hw : ws.length ≤ 100000) (hlo : lo ≤ w.heap.size) (n : Nat) (hn : c.toNat = n) (b10 : ((n : Int) == 10) = false) (b32 : ((n : Int) == 32) = false) (b9 : ((n : Int) == 9) = false) (b13 : ((n : Int) == 13) = false) (hp : [47, 47].isPrefixOf (c :: r) = false) (hd : dig c = true) :
    Calls Tryd.prog 27 #[.pointer (some ⟨g, 0, none⟩)] w (Told w lo g v (numS (c :: r) ws)) := by
  have c0 := cell_at h.at_ 0
  have h00 : 0 < (bs (c :: r)).size := by rw [bs_size]; simp
  have hS0 : ((bs (c :: r))[0]'h00).toNat = n := hn
  have hwr : wrap32 (n : Int) = (n : Int) := by rw [← hn]; exact wrap_byte c
  have CP := Lib.hid (show Calls Tryd.prog 34 #[.string (bs (c :: r)), .string ⟨#[47, 47]⟩] w (EndsW (.bool false) w) by have := prefix_any (c :: r) [47, 47] w; rwa [hp] at this)
  have CD := Lib.hid (show Calls Tryd.prog 19 #[.int .i32 (n : Int)] w (EndsW (.bool true) w) by have := digit_any (c.toNat : Int) w; rwa [digI_nat, hd, hn] at this)
  have CN := Lib.hid (number_any w lo g c r ws v h hd hl hw hlo)
  clear hp hd
  clear h hl hw hlo hn
  go_enter Tryd.func27, Tryd.ntmps27
  go_wp2_with fail
  refine CP.out.mono ?_
  rintro e w' ⟨rfl, rfl⟩
  go_wp2_with fail
  refine CD.out.mono ?_
  rintro e w' ⟨rfl, rfl⟩
  go_wp2_with fail
  refine CN.out.mono ?_
  intro e w2 hs
  obtain ⟨rfl, v2, hs⟩ := hs
  have HS := Lib.hid hs
  clear hs c0
  go_wp2_with fail
  go_ret
  exact Told.of (s := numS (c :: r) ws) HS.out
set_option maxHeartbeats 4000000 in
theorem next_name (w : World) (lo g : Nat) (c : UInt8) (r : List UInt8) (ws : List Wd) (v : Value) (h : Rd w lo g (c :: r) ws v) (hl : (c :: r).length ≤ 100000) (hw : ws.length ≤ 100000) (hlo : lo ≤ w.heap.size) (n : Nat) (hn : c.toNat = n) (b10 : ((n : Int) == 10) = false) (b32 : ((n : Int) == 32) = false) (b9 : ((n : Int) == 9) = false) (b13 : ((n : Int) == 13) = false) (hp : [47, 47].isPrefixOf (c :: r) = false) (hd : dig c = false) (hm : nameB c = true) :
    Calls Tryd.prog 27 #[.pointer (some ⟨g, 0, none⟩)] w (Told w lo g v (nameS (c :: r) ws)) := by
  have c0 := cell_at h.at_ 0
  have h00 : 0 < (bs (c :: r)).size := by rw [bs_size]; simp
  have hS0 : ((bs (c :: r))[0]'h00).toNat = n := hn
  have hwr : wrap32 (n : Int) = (n : Int) := by rw [← hn]; exact wrap_byte c
  have CP := Lib.hid (show Calls Tryd.prog 34 #[.string (bs (c :: r)), .string ⟨#[47, 47]⟩] w (EndsW (.bool false) w) by have := prefix_any (c :: r) [47, 47] w; rwa [hp] at this)
  have CD := Lib.hid (show Calls Tryd.prog 19 #[.int .i32 (n : Int)] w (EndsW (.bool false) w) by have := digit_any (c.toNat : Int) w; rwa [digI_nat, hd, hn] at this)
  have CI := Lib.hid (show Calls Tryd.prog 21 #[.int .i32 (n : Int)] w (EndsW (.bool true) w) by have := inName_any (c.toNat : Int) w; rwa [nameI_nat, hm, hn] at this)
  have CN := Lib.hid (rname_any w lo g (c :: r) ws v h hl hw hlo)
  clear hp hd hm
  clear h hl hw hlo hn
  go_enter Tryd.func27, Tryd.ntmps27
  go_wp2_with fail
  refine CP.out.mono ?_
  rintro e w' ⟨rfl, rfl⟩
  go_wp2_with fail
  refine CD.out.mono ?_
  rintro e w' ⟨rfl, rfl⟩
  go_wp2_with fail
  refine CI.out.mono ?_
  rintro e w' ⟨rfl, rfl⟩
  go_wp2_with fail
  refine CN.out.mono ?_
  intro e w2 hs
  obtain ⟨rfl, v2, hs⟩ := hs
  have HS := Lib.hid hs
  clear hs c0
  go_wp2_with fail
  go_ret
  exact Told.of (s := nameS (c :: r) ws) HS.out
set_option maxHeartbeats 4000000 in
theorem next_text (w : World) (lo g : Nat) (c : UInt8) (r : List UInt8) (ws : List Wd) (v : Value) (h : Rd w lo g (c :: r) ws v) (hl : (c :: r).length ≤ 100000) (hw : ws.length ≤ 100000) (hlo : lo ≤ w.heap.size) (n : Nat) (hn : c.toNat = n) (b10 : ((n : Int) == 10) = false) (b32 : ((n : Int) == 32) = false) (b9 : ((n : Int) == 9) = false) (b13 : ((n : Int) == 13) = false) (hp : [47, 47].isPrefixOf (c :: r) = false) (hd : dig c = false) (hm : nameB c = false) (hq : [34].isPrefixOf (c :: r) = true) :
    Calls Tryd.prog 27 #[.pointer (some ⟨g, 0, none⟩)] w (Told w lo g v (textS (c :: r) ws)) := by
  have c0 := cell_at h.at_ 0
  have h00 : 0 < (bs (c :: r)).size := by rw [bs_size]; simp
  have hS0 : ((bs (c :: r))[0]'h00).toNat = n := hn
  have hwr : wrap32 (n : Int) = (n : Int) := by rw [← hn]; exact wrap_byte c
  have CP := Lib.hid (show Calls Tryd.prog 34 #[.string (bs (c :: r)), .string ⟨#[47, 47]⟩] w (EndsW (.bool false) w) by have := prefix_any (c :: r) [47, 47] w; rwa [hp] at this)
  have CD := Lib.hid (show Calls Tryd.prog 19 #[.int .i32 (n : Int)] w (EndsW (.bool false) w) by have := digit_any (c.toNat : Int) w; rwa [digI_nat, hd, hn] at this)
  have CI := Lib.hid (show Calls Tryd.prog 21 #[.int .i32 (n : Int)] w (EndsW (.bool false) w) by have := inName_any (c.toNat : Int) w; rwa [nameI_nat, hm, hn] at this)
  have CQ := Lib.hid (show Calls Tryd.prog 34 #[.string (bs (c :: r)), .string ⟨#[34]⟩] w (EndsW (.bool true) w) by have := prefix_any (c :: r) [34] w; rwa [hq] at this)
  have CN := Lib.hid (text_any w lo g c r ws v h hl hw hlo)
  clear hp hd hm hq
  clear h hl hw hlo hn
  go_enter Tryd.func27, Tryd.ntmps27
  go_wp2_with fail
  refine CP.out.mono ?_
  rintro e w' ⟨rfl, rfl⟩
  go_wp2_with fail
  refine CD.out.mono ?_
  rintro e w' ⟨rfl, rfl⟩
  go_wp2_with fail
  refine CI.out.mono ?_
  rintro e w' ⟨rfl, rfl⟩
  go_wp2_with fail
  refine CQ.out.mono ?_
  rintro e w' ⟨rfl, rfl⟩
  go_wp2_with fail
  refine CN.out.mono ?_
  intro e w2 hs
  obtain ⟨rfl, v2, hs⟩ := hs
  have HS := Lib.hid hs
  clear hs c0
  go_wp2_with fail
  go_ret
  exact Told.of (s := textS (c :: r) ws) HS.out
set_option maxHeartbeats 4000000 in
theorem next_sign (w : World) (lo g : Nat) (c : UInt8) (r : List UInt8) (ws : List Wd) (v : Value) (h : Rd w lo g (c :: r) ws v) (hl : (c :: r).length ≤ 100000) (hw : ws.length ≤ 100000) (hlo : lo ≤ w.heap.size) (n : Nat) (hn : c.toNat = n) (b10 : ((n : Int) == 10) = false) (b32 : ((n : Int) == 32) = false) (b9 : ((n : Int) == 9) = false) (b13 : ((n : Int) == 13) = false) (hp : [47, 47].isPrefixOf (c :: r) = false) (hd : dig c = false) (hm : nameB c = false) (hq : [34].isPrefixOf (c :: r) = false) (hS : Signs w) (h0 : 0 < lo) :
    Calls Tryd.prog 27 #[.pointer (some ⟨g, 0, none⟩)] w (Told w lo g v (signS (c :: r) ws)) := by
  have c0 := cell_at h.at_ 0
  have h00 : 0 < (bs (c :: r)).size := by rw [bs_size]; simp
  have hS0 : ((bs (c :: r))[0]'h00).toNat = n := hn
  have hwr : wrap32 (n : Int) = (n : Int) := by rw [← hn]; exact wrap_byte c
  have CP := Lib.hid (show Calls Tryd.prog 34 #[.string (bs (c :: r)), .string ⟨#[47, 47]⟩] w (EndsW (.bool false) w) by have := prefix_any (c :: r) [47, 47] w; rwa [hp] at this)
  have CD := Lib.hid (show Calls Tryd.prog 19 #[.int .i32 (n : Int)] w (EndsW (.bool false) w) by have := digit_any (c.toNat : Int) w; rwa [digI_nat, hd, hn] at this)
  have CI := Lib.hid (show Calls Tryd.prog 21 #[.int .i32 (n : Int)] w (EndsW (.bool false) w) by have := inName_any (c.toNat : Int) w; rwa [nameI_nat, hm, hn] at this)
  have CQ := Lib.hid (show Calls Tryd.prog 34 #[.string (bs (c :: r)), .string ⟨#[34]⟩] w (EndsW (.bool false) w) by have := prefix_any (c :: r) [34] w; rwa [hq] at this)
  have CN := Lib.hid (sign_any w lo g (c :: r) ws v h hS h0 hl hw hlo)
  clear hp hd hm hq hS h0
  clear h hl hw hlo hn
  go_enter Tryd.func27, Tryd.ntmps27
  go_wp2_with fail
  refine CP.out.mono ?_
  rintro e w' ⟨rfl, rfl⟩
  go_wp2_with fail
  refine CD.out.mono ?_
  rintro e w' ⟨rfl, rfl⟩
  go_wp2_with fail
  refine CI.out.mono ?_
  rintro e w' ⟨rfl, rfl⟩
  go_wp2_with fail
  refine CQ.out.mono ?_
  rintro e w' ⟨rfl, rfl⟩
  go_wp2_with fail
  refine CN.out.mono ?_
  intro e w2 hs
  obtain ⟨rfl, v2, hs⟩ := hs
  have HS := Lib.hid hs
  clear hs c0
  go_wp2_with fail
  go_ret
  exact Told.of (s := signS (c :: r) ws) HS.out
theorem next_any (w : World) (lo g : Nat) (l : List UInt8) (ws : List Wd) (v : Value) (h : Rd w lo g l ws v) (hne : l ≠ []) (hS : Signs w) (h0 : 0 < lo) (hl : l.length ≤ 100000) (hw : ws.length ≤ 100000) (hlo : lo ≤ w.heap.size) :
    Calls Tryd.prog 27 #[.pointer (some ⟨g, 0, none⟩)] w (Told w lo g v (step l ws)) := by
  cases l with
  | nil => exact absurd rfl hne
  | cons c r =>
    have hb : ∀ k : Nat, c.toNat ≠ k → (((c.toNat : Nat) : Int) == (k : Int)) = false := fun k hk => by simpa using (by omega : ¬ (c.toNat : Int) = (k : Int))
    unfold step
    by_cases h10 : c.toNat = 10
    · simp only [h10, if_true]; exact next_line w lo g c r ws v h hl hw hlo h10
    simp only [h10, if_false]
    by_cases hbl : blank c = true
    · simp only [hbl, if_true]
      have hb' := hbl
      unfold blank at hb'
      simp only [decide_eq_true_eq] at hb'
      rcases hb' with e | e | e
      · exact next_space w lo g c r ws v h hl e
      · exact next_tab w lo g c r ws v h hl e
      · exact next_cr w lo g c r ws v h hl e
    have hbn : c.toNat ≠ 32 ∧ c.toNat ≠ 9 ∧ c.toNat ≠ 13 := by
      unfold blank at hbl
      simp only [decide_eq_true_eq, not_or] at hbl
      exact hbl
    simp only [hbl, Bool.false_eq_true, if_false]
    have b1 := hb 10 h10
    have b2 := hb 32 hbn.1
    have b3 := hb 9 hbn.2.1
    have b4 := hb 13 hbn.2.2
    rcases Bool.eq_false_or_eq_true ([47, 47].isPrefixOf (c :: r)) with hp | hp
    · simp only [hp, if_true]; exact next_note w lo g c r ws v h hl _ rfl b1 b2 b3 b4 hp
    simp only [hp, Bool.false_eq_true, if_false]
    rcases Bool.eq_false_or_eq_true (dig c) with hd | hd
    · simp only [hd, if_true]; exact next_num w lo g c r ws v h hl hw hlo _ rfl b1 b2 b3 b4 hp hd
    simp only [hd, Bool.false_eq_true, if_false]
    rcases Bool.eq_false_or_eq_true (nameB c) with hm | hm
    · simp only [hm, if_true]; exact next_name w lo g c r ws v h hl hw hlo _ rfl b1 b2 b3 b4 hp hd hm
    simp only [hm, Bool.false_eq_true, if_false]
    by_cases hq : c.toNat = 34
    · simp only [hq, if_true]
      exact next_text w lo g c r ws v h hl hw hlo _ rfl b1 b2 b3 b4 hp hd hm (by rw [show c = 34 from UInt8.toNat_inj.1 hq]; rfl)
    simp only [hq, if_false]
    have hq1 : ((34 : UInt8) == c) = false := by
      simp only [beq_eq_false_iff_ne, ne_eq]
      exact fun e => hq (by rw [← e]; rfl)
    have hq2 : [34].isPrefixOf (c :: r) = false := by
      show ((34 : UInt8) == c && [].isPrefixOf r) = false
      rw [hq1]; rfl
    exact next_sign w lo g c r ws v h hl hw hlo _ rfl b1 b2 b3 b4 hp hd hm hq2 hS h0
end Go.Proofs.YtjgkfdhfffbccaaDoor.Lex
