/-
  One step of the reader. Conditions: the table of signs lies as the program's text lays it; sizes.
-/
import Derived.Test.YtmihlmlojmdhjaaGreatDoorQ05
import Derived.Test.YtmihlmlojmdhjaaGreatDoorQ25
import Derived.KernelRfl
namespace Go.Proofs.YtmihlmlojmdhjaaGreatDoor.Lex
open Go.RowKit
open Num (EndsW)
set_option maxRecDepth 100000
theorem Told.of {w w1 : World} {lo g : Nat} {v v2 : Value} {s : St} (h : Rd w1 lo g s.l s.ws v2 ∧ Turn (mine g v) w w1 ∧ ∀ k ∈ mine g v2, k ∈ mine g v ∨ w.heap.size ≤ k) : Told w lo g v s (.returned (.int .i64 s.e)) w1 := ⟨rfl, v2, h⟩
set_option maxHeartbeats 4000000 in
theorem next_line (w : World) (lo g : Nat) (c : UInt8) (r : List UInt8) (ws : List Wd) (v : Value) (h : Rd w lo g (c :: r) ws v) (hl : (c :: r).length ≤ 100000) (hw : ws.length ≤ 100000) (hlo : lo ≤ w.heap.size) (hn : c.toNat = 10) :
    Calls Tryz.prog 32 #[.pointer (some ⟨g, 0, none⟩)] w (Told w lo g v ⟨0, r, endLn ws⟩) := by
  have HH := Lib.hid h
  have HLL := Lib.hid hl
  have HW := Lib.hid hw
  have HLO := Lib.hid hlo
  have c0 := cell_at h.at_ 0
  have h00 : 0 < (bs (c :: r)).size := by rw [bs_size]; simp
  have hS0 : ((bs (c :: r))[0]'h00).toNat = 10 := hn
  have hwr : wrap32 (10 : Int) = 10 := by unfold wrap32; omega
  have CT := Lib.hid (take_any w lo g 1 (c :: r) ws v HH.out (by simp) (by have := HLL.out; omega))
  clear h hl hw hlo hn
  go_enter Tryz.func32, Tryz.ntmps32
  go_wp2_with fail
  refine CT.out.mono ?_
  intro e w2 hs
  obtain ⟨rfl, v2, hs⟩ := Step.then_ (Turn.refl (mine g v) w) (fun _ hk => .inl hk) hs
  have HS := Lib.hid hs
  have CE := Lib.hid (end_any w2 lo g _ _ _ HS.out.1 HW.out (Nat.le_trans HLO.out HS.out.2.1.size))
  clear hs c0
  go_wp2_with fail
  refine CE.out.mono ?_
  intro e w3 hs
  obtain ⟨rfl, v3, hs⟩ := Step.then_ HS.out.2.1 HS.out.2.2 hs
  have HS3 := Lib.hid hs
  clear hs
  go_wp2_with fail
  go_ret
  exact Told.of (s := ⟨0, r, endLn ws⟩) HS3.out
set_option maxHeartbeats 4000000 in
theorem next_space (w : World) (lo g : Nat) (c : UInt8) (r : List UInt8) (ws : List Wd) (v : Value) (h : Rd w lo g (c :: r) ws v) (hl : (c :: r).length ≤ 100000) (hn : c.toNat = 32) :
    Calls Tryz.prog 32 #[.pointer (some ⟨g, 0, none⟩)] w (Told w lo g v ⟨0, r, ws⟩) := by
  have HH := Lib.hid h
  have HLL := Lib.hid hl
  have c0 := cell_at h.at_ 0
  have h00 : 0 < (bs (c :: r)).size := by rw [bs_size]; simp
  have hS0 : ((bs (c :: r))[0]'h00).toNat = 32 := hn
  have hwr : wrap32 (32 : Int) = 32 := by unfold wrap32; omega
  have CT := Lib.hid (take_any w lo g 1 (c :: r) ws v HH.out (by simp) (by have := HLL.out; omega))
  clear h hl hn
  go_enter Tryz.func32, Tryz.ntmps32
  go_wp2_with fail
  refine CT.out.mono ?_
  intro e w2 hs
  obtain ⟨rfl, v2, hs⟩ := Step.then_ (Turn.refl (mine g v) w) (fun _ hk => .inl hk) hs
  have HS := Lib.hid hs
  clear hs c0
  go_wp2_with fail
  go_ret
  exact Told.of (s := ⟨0, r, ws⟩) HS.out
set_option maxHeartbeats 4000000 in
theorem next_tab (w : World) (lo g : Nat) (c : UInt8) (r : List UInt8) (ws : List Wd) (v : Value) (h : Rd w lo g (c :: r) ws v) (hl : (c :: r).length ≤ 100000) (hn : c.toNat = 9) :
    Calls Tryz.prog 32 #[.pointer (some ⟨g, 0, none⟩)] w (Told w lo g v ⟨0, r, ws⟩) := by
  have HH := Lib.hid h
  have HLL := Lib.hid hl
  have c0 := cell_at h.at_ 0
  have h00 : 0 < (bs (c :: r)).size := by rw [bs_size]; simp
  have hS0 : ((bs (c :: r))[0]'h00).toNat = 9 := hn
  have hwr : wrap32 (9 : Int) = 9 := by unfold wrap32; omega
  have CT := Lib.hid (take_any w lo g 1 (c :: r) ws v HH.out (by simp) (by have := HLL.out; omega))
  clear h hl hn
  go_enter Tryz.func32, Tryz.ntmps32
  go_wp2_with fail
  refine CT.out.mono ?_
  intro e w2 hs
  obtain ⟨rfl, v2, hs⟩ := Step.then_ (Turn.refl (mine g v) w) (fun _ hk => .inl hk) hs
  have HS := Lib.hid hs
  clear hs c0
  go_wp2_with fail
  go_ret
  exact Told.of (s := ⟨0, r, ws⟩) HS.out
set_option maxHeartbeats 4000000 in
theorem next_cr (w : World) (lo g : Nat) (c : UInt8) (r : List UInt8) (ws : List Wd) (v : Value) (h : Rd w lo g (c :: r) ws v) (hl : (c :: r).length ≤ 100000) (hn : c.toNat = 13) :
    Calls Tryz.prog 32 #[.pointer (some ⟨g, 0, none⟩)] w (Told w lo g v ⟨0, r, ws⟩) := by
  have HH := Lib.hid h
  have HLL := Lib.hid hl
  have c0 := cell_at h.at_ 0
  have h00 : 0 < (bs (c :: r)).size := by rw [bs_size]; simp
  have hS0 : ((bs (c :: r))[0]'h00).toNat = 13 := hn
  have hwr : wrap32 (13 : Int) = 13 := by unfold wrap32; omega
  have CT := Lib.hid (take_any w lo g 1 (c :: r) ws v HH.out (by simp) (by have := HLL.out; omega))
  clear h hl hn
  go_enter Tryz.func32, Tryz.ntmps32
  go_wp2_with fail
  refine CT.out.mono ?_
  intro e w2 hs
  obtain ⟨rfl, v2, hs⟩ := Step.then_ (Turn.refl (mine g v) w) (fun _ hk => .inl hk) hs
  have HS := Lib.hid hs
  clear hs c0
  go_wp2_with fail
  go_ret
  exact Told.of (s := ⟨0, r, ws⟩) HS.out
set_option maxHeartbeats 4000000 in
theorem next_note (w : World) (lo g : Nat) (c : UInt8) (r : List UInt8) (ws : List Wd) (v : Value) (h : Rd w lo g (c :: r) ws v) (hl : (c :: r).length ≤ 100000) (n : Nat) (hn : c.toNat = n) (b10 : ((n : Int) == 10) = false) (b32 : ((n : Int) == 32) = false) (b9 : ((n : Int) == 9) = false) (b13 : ((n : Int) == 13) = false) (hp : [47, 47].isPrefixOf (c :: r) = true) :
    Calls Tryz.prog 32 #[.pointer (some ⟨g, 0, none⟩)] w (Told w lo g v ⟨0, (c :: r).drop (rowN notNL (c :: r)), ws⟩) := by
  have HH := Lib.hid h
  have HLL := Lib.hid hl
  have c0 := cell_at h.at_ 0
  have h00 : 0 < (bs (c :: r)).size := by rw [bs_size]; simp
  have hS0 : ((bs (c :: r))[0]'h00).toNat = n := hn
  have hwr : wrap32 (n : Int) = (n : Int) := by rw [← hn]; exact wrap_byte c
  have CP := Lib.hid (show Calls Tryz.prog 65 #[.string (bs (c :: r)), .string ⟨#[47, 47]⟩] w (EndsW (.bool true) w) by have := prefix_any (c :: r) [47, 47] w; rwa [hp] at this)
  have CR := Lib.hid (row_nl (bs (c :: r)) w (by rw [bs_size]; unfold maxLen; have := HLL.out; omega))
  rw [bs_data] at CR
  have HLE := Lib.hid (rowN_le notNL (c :: r))
  clear hp
  clear h hl hn
  go_enter Tryz.func32, Tryz.ntmps32
  go_wp2_with fail
  refine CP.out.mono ?_
  rintro e w' ⟨rfl, rfl⟩
  go_wp2_with fail
  refine CR.out.mono ?_
  rintro e w1 ⟨rfl, hb1⟩
  have HG := Lib.hid (HH.out.below hb1)
  have HT := Lib.hid ((Turn.refl (mine g v) w).below hb1)
  have CT := Lib.hid (take_any w1 lo g (rowN notNL (c :: r)) (c :: r) ws v HG.out HLE.out (by have := HLL.out; omega))
  clear hb1 c0
  go_wp2_with fail
  refine CT.out.mono ?_
  intro e w2 hs
  obtain ⟨rfl, v2, hs⟩ := Step.then_ HT.out (fun _ hk => .inl hk) hs
  have HS := Lib.hid hs
  clear hs
  go_wp2_with fail
  go_ret
  exact Told.of (s := ⟨0, (c :: r).drop (rowN notNL (c :: r)), ws⟩) HS.out
set_option maxHeartbeats 4000000 in
theorem next_num (w : World) (lo g : Nat) (c : UInt8) (r : List UInt8) (ws : List Wd) (v : Value) (h : Rd w lo g (c :: r) ws v) (hl : (c :: r).length ≤ 100000) (hw : ws.length ≤ 100000) (hlo : lo ≤ w.heap.size) (n : Nat) (hn : c.toNat = n) (b10 : ((n : Int) == 10) = false) (b32 : ((n : Int) == 32) = false) (b9 : ((n : Int) == 9) = false) (b13 : ((n : Int) == 13) = false) (hp : [47, 47].isPrefixOf (c :: r) = false) (hd : dig c = true) :
    Calls Tryz.prog 32 #[.pointer (some ⟨g, 0, none⟩)] w (Told w lo g v (numS (c :: r) ws)) := by
  have c0 := cell_at h.at_ 0
  have h00 : 0 < (bs (c :: r)).size := by rw [bs_size]; simp
  have hS0 : ((bs (c :: r))[0]'h00).toNat = n := hn
  have hwr : wrap32 (n : Int) = (n : Int) := by rw [← hn]; exact wrap_byte c
  have CP := Lib.hid (show Calls Tryz.prog 65 #[.string (bs (c :: r)), .string ⟨#[47, 47]⟩] w (EndsW (.bool false) w) by have := prefix_any (c :: r) [47, 47] w; rwa [hp] at this)
  have CD := Lib.hid (show Calls Tryz.prog 68 #[.int .i32 (n : Int)] w (EndsW (.bool true) w) by have := digit_any (c.toNat : Int) w; rwa [digI_nat, hd, hn] at this)
  have CN := Lib.hid (number_any w lo g c r ws v h hd hl hw hlo)
  clear hp hd
  clear h hl hw hlo hn
  go_enter Tryz.func32, Tryz.ntmps32
  go_wp2_with fail
  refine CP.out.mono ?_
  rintro e w' ⟨rfl, rfl⟩
  go_wp2_with fail
  refine CD.out.mono ?_
  rintro e w' ⟨rfl, rfl⟩
  go_wp2_with fail
  refine CN.out.mono ?_
  intro e w2 hs
  obtain ⟨rfl, v2, hs⟩ := hs
  have HS := Lib.hid hs
  clear hs c0
  go_wp2_with fail
  go_ret
  exact Told.of (s := numS (c :: r) ws) HS.out
set_option maxHeartbeats 4000000 in
theorem next_name (w : World) (lo g : Nat) (c : UInt8) (r : List UInt8) (ws : List Wd) (v : Value) (h : Rd w lo g (c :: r) ws v) (hl : (c :: r).length ≤ 100000) (hw : ws.length ≤ 100000) (hlo : lo ≤ w.heap.size) (n : Nat) (hn : c.toNat = n) (b10 : ((n : Int) == 10) = false) (b32 : ((n : Int) == 32) = false) (b9 : ((n : Int) == 9) = false) (b13 : ((n : Int) == 13) = false) (hp : [47, 47].isPrefixOf (c :: r) = false) (hd : dig c = false) (hm : nameB c = true) :
    Calls Tryz.prog 32 #[.pointer (some ⟨g, 0, none⟩)] w (Told w lo g v (nameS (c :: r) ws)) := by
  have c0 := cell_at h.at_ 0
  have h00 : 0 < (bs (c :: r)).size := by rw [bs_size]; simp
  have hS0 : ((bs (c :: r))[0]'h00).toNat = n := hn
  have hwr : wrap32 (n : Int) = (n : Int) := by rw [← hn]; exact wrap_byte c
  have CP := Lib.hid (show Calls Tryz.prog 65 #[.string (bs (c :: r)), .string ⟨#[47, 47]⟩] w (EndsW (.bool false) w) by have := prefix_any (c :: r) [47, 47] w; rwa [hp] at this)
  have CD := Lib.hid (show Calls Tryz.prog 68 #[.int .i32 (n : Int)] w (EndsW (.bool false) w) by have := digit_any (c.toNat : Int) w; rwa [digI_nat, hd, hn] at this)
  have CI := Lib.hid (show Calls Tryz.prog 70 #[.int .i32 (n : Int)] w (EndsW (.bool true) w) by have := inName_any (c.toNat : Int) w; rwa [nameI_nat, hm, hn] at this)
  have CN := Lib.hid (rname_any w lo g (c :: r) ws v h hl hw hlo)
  clear hp hd hm
  clear h hl hw hlo hn
  go_enter Tryz.func32, Tryz.ntmps32
  go_wp2_with fail
  refine CP.out.mono ?_
  rintro e w' ⟨rfl, rfl⟩
  go_wp2_with fail
  refine CD.out.mono ?_
  rintro e w' ⟨rfl, rfl⟩
  go_wp2_with fail
  refine CI.out.mono ?_
  rintro e w' ⟨rfl, rfl⟩
  go_wp2_with fail
  refine CN.out.mono ?_
  intro e w2 hs
  obtain ⟨rfl, v2, hs⟩ := hs
  have HS := Lib.hid hs
  clear hs c0
  go_wp2_with fail
  go_ret
  exact Told.of (s := nameS (c :: r) ws) HS.out
set_option maxHeartbeats 4000000 in
theorem next_text (w : World) (lo g : Nat) (c : UInt8) (r : List UInt8) (ws : List Wd) (v : Value) (h : Rd w lo g (c :: r) ws v) (hl : (c :: r).length ≤ 100000) (hw : ws.length ≤ 100000) (hlo : lo ≤ w.heap.size) (n : Nat) (hn : c.toNat = n) (b10 : ((n : Int) == 10) = false) (b32 : ((n : Int) == 32) = false) (b9 : ((n : Int) == 9) = false) (b13 : ((n : Int) == 13) = false) (hp : [47, 47].isPrefixOf (c :: r) = false) (hd : dig c = false) (hm : nameB c = false) (hq : [34].isPrefixOf (c :: r) = true) :
    Calls Tryz.prog 32 #[.pointer (some ⟨g, 0, none⟩)] w (Told w lo g v (textS (c :: r) ws)) := by
  have c0 := cell_at h.at_ 0
  have h00 : 0 < (bs (c :: r)).size := by rw [bs_size]; simp
  have hS0 : ((bs (c :: r))[0]'h00).toNat = n := hn
  have hwr : wrap32 (n : Int) = (n : Int) := by rw [← hn]; exact wrap_byte c
  have CP := Lib.hid (show Calls Tryz.prog 65 #[.string (bs (c :: r)), .string ⟨#[47, 47]⟩] w (EndsW (.bool false) w) by have := prefix_any (c :: r) [47, 47] w; rwa [hp] at this)
  have CD := Lib.hid (show Calls Tryz.prog 68 #[.int .i32 (n : Int)] w (EndsW (.bool false) w) by have := digit_any (c.toNat : Int) w; rwa [digI_nat, hd, hn] at this)
  have CI := Lib.hid (show Calls Tryz.prog 70 #[.int .i32 (n : Int)] w (EndsW (.bool false) w) by have := inName_any (c.toNat : Int) w; rwa [nameI_nat, hm, hn] at this)
  have CQ := Lib.hid (show Calls Tryz.prog 65 #[.string (bs (c :: r)), .string ⟨#[34]⟩] w (EndsW (.bool true) w) by have := prefix_any (c :: r) [34] w; rwa [hq] at this)
  have CN := Lib.hid (text_any w lo g c r ws v h hl hw hlo)
  clear hp hd hm hq
  clear h hl hw hlo hn
  go_enter Tryz.func32, Tryz.ntmps32
  go_wp2_with fail
  refine CP.out.mono ?_
  rintro e w' ⟨rfl, rfl⟩
  go_wp2_with fail
  refine CD.out.mono ?_
  rintro e w' ⟨rfl, rfl⟩
  go_wp2_with fail
  refine CI.out.mono ?_
  rintro e w' ⟨rfl, rfl⟩
  go_wp2_with fail
  refine CQ.out.mono ?_
  rintro e w' ⟨rfl, rfl⟩
  go_wp2_with fail
  refine CN.out.mono ?_
  intro e w2 hs
  obtain ⟨rfl, v2, hs⟩ := hs
  have HS := Lib.hid hs
  clear hs c0
  go_wp2_with fail
  go_ret
  exact Told.of (s := textS (c :: r) ws) HS.out
set_option maxHeartbeats 4000000 in
theorem next_sign (w : World) (lo g : Nat) (c : UInt8) (r : List UInt8) (ws : List Wd) (v : Value) (h : Rd w lo g (c :: r) ws v) (hl : (c :: r).length ≤ 100000) (hw : ws.length ≤ 100000) (hlo : lo ≤ w.heap.size) (n : Nat) (hn : c.toNat = n) (b10 : ((n : Int) == 10) = false) (b32 : ((n : Int) == 32) = false) (b9 : ((n : Int) == 9) = false) (b13 : ((n : Int) == 13) = false) (hp : [47, 47].isPrefixOf (c :: r) = false) (hd : dig c = false) (hm : nameB c = false) (hq : [34].isPrefixOf (c :: r) = false) (hS : Signs w) (h0 : 1 < lo) :
    Calls Tryz.prog 32 #[.pointer (some ⟨g, 0, none⟩)] w (Told w lo g v (signS (c :: r) ws)) := by
  have c0 := cell_at h.at_ 0
  have h00 : 0 < (bs (c :: r)).size := by rw [bs_size]; simp
  have hS0 : ((bs (c :: r))[0]'h00).toNat = n := hn
  have hwr : wrap32 (n : Int) = (n : Int) := by rw [← hn]; exact wrap_byte c
  have CP := Lib.hid (show Calls Tryz.prog 65 #[.string (bs (c :: r)), .string ⟨#[47, 47]⟩] w (EndsW (.bool false) w) by have := prefix_any (c :: r) [47, 47] w; rwa [hp] at this)
  have CD := Lib.hid (show Calls Tryz.prog 68 #[.int .i32 (n : Int)] w (EndsW (.bool false) w) by have := digit_any (c.toNat : Int) w; rwa [digI_nat, hd, hn] at this)
  have CI := Lib.hid (show Calls Tryz.prog 70 #[.int .i32 (n : Int)] w (EndsW (.bool false) w) by have := inName_any (c.toNat : Int) w; rwa [nameI_nat, hm, hn] at this)
  have CQ := Lib.hid (show Calls Tryz.prog 65 #[.string (bs (c :: r)), .string ⟨#[34]⟩] w (EndsW (.bool false) w) by have := prefix_any (c :: r) [34] w; rwa [hq] at this)
  have CN := Lib.hid (sign_any w lo g (c :: r) ws v h hS h0 hl hw hlo)
  clear hp hd hm hq hS h0
  clear h hl hw hlo hn
  go_enter Tryz.func32, Tryz.ntmps32
  go_wp2_with fail
  refine CP.out.mono ?_
  rintro e w' ⟨rfl, rfl⟩
  go_wp2_with fail
  refine CD.out.mono ?_
  rintro e w' ⟨rfl, rfl⟩
  go_wp2_with fail
  refine CI.out.mono ?_
  rintro e w' ⟨rfl, rfl⟩
  go_wp2_with fail
  refine CQ.out.mono ?_
  rintro e w' ⟨rfl, rfl⟩
  go_wp2_with fail
  refine CN.out.mono ?_
  intro e w2 hs
  obtain ⟨rfl, v2, hs⟩ := hs
  have HS := Lib.hid hs
  clear hs c0
  go_wp2_with fail
  go_ret
  exact Told.of (s := signS (c :: r) ws) HS.out
theorem next_any (w : World) (lo g : Nat) (l : List UInt8) (ws : List Wd) (v : Value) (h : Rd w lo g l ws v) (hne : l ≠ []) (hS : Signs w) (h0 : 1 < lo) (hl : l.length ≤ 100000) (hw : ws.length ≤ 100000) (hlo : lo ≤ w.heap.size) :
    Calls Tryz.prog 32 #[.pointer (some ⟨g, 0, none⟩)] w (Told w lo g v (step l ws)) := by
  cases l with
  | nil => exact absurd rfl hne
  | cons c r =>
    have hb : ∀ k : Nat, c.toNat ≠ k → (((c.toNat : Nat) : Int) == (k : Int)) = false := fun k hk => by simpa using (by omega : ¬ (c.toNat : Int) = (k : Int))
    unfold step
    by_cases h10 : c.toNat = 10
    · simp only [h10, if_true]; exact next_line w lo g c r ws v h hl hw hlo h10
    simp only [h10, if_false]
    by_cases hbl : blank c = true
    · simp only [hbl, if_true]
      have hb' := hbl
      unfold blank at hb'
      simp only [decide_eq_true_eq] at hb'
      rcases hb' with e | e | e
      · exact next_space w lo g c r ws v h hl e
      · exact next_tab w lo g c r ws v h hl e
      · exact next_cr w lo g c r ws v h hl e
    have hbn : c.toNat ≠ 32 ∧ c.toNat ≠ 9 ∧ c.toNat ≠ 13 := by
      unfold blank at hbl
      simp only [decide_eq_true_eq, not_or] at hbl
      exact hbl
    simp only [hbl, Bool.false_eq_true, if_false]
    have b1 := hb 10 h10
    have b2 := hb 32 hbn.1
    have b3 := hb 9 hbn.2.1
    have b4 := hb 13 hbn.2.2
    rcases Bool.eq_false_or_eq_true ([47, 47].isPrefixOf (c :: r)) with hp | hp
    · simp only [hp, if_true]; exact next_note w lo g c r ws v h hl _ rfl b1 b2 b3 b4 hp
    simp only [hp, Bool.false_eq_true, if_false]
    rcases Bool.eq_false_or_eq_true (dig c) with hd | hd
    · simp only [hd, if_true]; exact next_num w lo g c r ws v h hl hw hlo _ rfl b1 b2 b3 b4 hp hd
    simp only [hd, Bool.false_eq_true, if_false]
    rcases Bool.eq_false_or_eq_true (nameB c) with hm | hm
    · simp only [hm, if_true]; exact next_name w lo g c r ws v h hl hw hlo _ rfl b1 b2 b3 b4 hp hd hm
    simp only [hm, Bool.false_eq_true, if_false]
    by_cases hq : c.toNat = 34
    · simp only [hq, if_true]
      exact next_text w lo g c r ws v h hl hw hlo _ rfl b1 b2 b3 b4 hp hd hm (by rw [show c = 34 from UInt8.toNat_inj.1 hq]; rfl)
    simp only [hq, if_false]
    have hq1 : ((34 : UInt8) == c) = false := by
      simp only [beq_eq_false_iff_ne, ne_eq]
      exact fun e => hq (by rw [← e]; rfl)
    have hq2 : [34].isPrefixOf (c :: r) = false := by
      show ((34 : UInt8) == c && [].isPrefixOf r) = false
      rw [hq1]; rfl
    exact next_sign w lo g c r ws v h hl hw hlo _ rfl b1 b2 b3 b4 hp hd hm hq2 hS h0
end Go.Proofs.YtmihlmlojmdhjaaGreatDoor.Lex
/- Words: all words of a text, or why not. Conditions: the table of signs lies as the program's text lays it; the text's size. -/
namespace Go.Proofs.YtmihlmlojmdhjaaGreatDoor.Lex
open Go.RowKit
open Num (EndsW)
set_option maxRecDepth 100000
/-- What Words leaves. -/
def WordsR (t : List UInt8) (w : World) (e : Ending) (w' : World) : Prop :=
  ∃ v, e = .returned (.tuple #[v, .int .i64 (words t).2]) ∧ OwnW w' w.heap.size v (words t).1 ∧ Below w.heap.size w w'
def leftN (w : World) (g : Nat) : Nat := match w.heap[g]? with | some (Obj.cells cs _ _) => (match cs[0]? with | some (Value.string s) => s.size | _ => 0) | _ => 0
theorem left_rd {w : World} {lo g : Nat} {l : List UInt8} {ws : List Wd} {v : Value} (h : Rd w lo g l ws v) : leftN w g = l.length := by
  unfold leftN; rw [h.at_]; rfl
theorem run_nil (k : Nat) (ws : List Wd) : run k [] ws = (0, ws) := by cases k <;> simp [run]
theorem run_go {k : Nat} {l : List UInt8} {ws : List Wd} (hl : l ≠ []) (he : (step l ws).e = 0) : run (k + 1) l ws = run k (step l ws).l (step l ws).ws := by simp [run, hl, he]
theorem run_stop {k : Nat} {l : List UInt8} {ws : List Wd} (hl : l ≠ []) (he : (step l ws).e ≠ 0) : run (k + 1) l ws = ((step l ws).e, []) := by simp [run, hl, he]
theorem words_long {t : List UInt8} (h : 4096 < t.length) : words t = ([], 11) := by unfold words; rw [if_pos h]
theorem words_bad {t : List UInt8} {e : Int} (h : ¬ 4096 < t.length) (he : e ≠ 0) (hr : run t.length t [] = (e, [])) : words t = ([], e) := by unfold words; rw [if_neg h, hr]; simp [he]
theorem words_many {t : List UInt8} {ws : List Wd} (h : ¬ 4096 < t.length) (hr : run t.length t [] = (0, ws)) (hm : 2048 < (endLn ws).length) : words t = ([], 11) := by unfold words; rw [if_neg h, hr]; simp [hm]
theorem words_ok {t : List UInt8} {ws : List Wd} (h : ¬ 4096 < t.length) (hr : run t.length t [] = (0, ws)) (hm : ¬ 2048 < (endLn ws).length) : words t = (endLn ws, 0) := by unfold words; rw [if_neg h, hr]; simp [hm]
theorem words_mk {t : List UInt8} {w w' : World} {v : Value} {ws : List Wd} {e : Int} (h : words t = (ws, e)) (hv : OwnW w' w.heap.size v ws) (hb : Below w.heap.size w w') : WordsR t w (.returned (.tuple #[v, .int .i64 e])) w' := ⟨v, by rw [h], by rw [h]; exact hv, hb⟩
/-- What stands at the loop's head. -/
def Head (w wr : World) (t l : List UInt8) (ws : List Wd) (v : Value) (k : Nat) : Prop :=
  Rd wr w.heap.size w.heap.size l ws v ∧ Below w.heap.size w wr ∧ run t.length t [] = run k l ws ∧ l.length ≤ k ∧ ws.length + l.length ≤ 4096
theorem Signs.pos {w : World} (h : Signs w) : 1 < w.heap.size := by
  have h0 := h 0 (by omega)
  by_cases hz : 1 < w.heap.size
  · exact hz
  · have : w.heap[1]? = none := Array.getElem?_eq_none (by omega)
    simp [World.cell?, this] at h0
set_option maxHeartbeats 4000000 in
theorem words_any (t : List UInt8) (w : World) (hS : Signs w) : Calls Tryz.prog 14 #[.string (bs t)] w (WordsR t w) := by
  by_cases hl : 4096 < t.length
  · have hd : decide ((4096 : Int) < ((bs t).size : Int)) = true := by rw [bs_size]; simp; omega
    have HW := Lib.hid (words_long hl)
    clear hl hS
    go_enter Tryz.func14, Tryz.ntmps14
    go_wp2_with fail
    go_ret2
    exact words_mk HW.out (OwnW.nil _ _) (Below.refl _ _)
  have hd : decide ((4096 : Int) < ((bs t).size : Int)) = false := by rw [bs_size]; simp; omega
  have HS := Lib.hid hS
  have HL := Lib.hid hl
  clear hS hl
  go_enter Tryz.func14, Tryz.ntmps14
  go_wp2_with fail
  go_loopw [5] (fun _ wr => ∃ l ws v k, Head w wr t l ws v k) (fun _ wr => leftN wr w.heap.size)
  case atStart =>
    refine ⟨t, [], .slice none 0 0, t.length, ⟨heap_alloc_new _ _, Nat.le_refl _, OwnW.nil _ _, by simp [Value.ownBlock]⟩, (Below.refl _ w).alloc (Nat.le_refl _) _, rfl, Nat.le_refl _, by have := HL.out; simp; omega⟩
  case round =>
    obtain ⟨l, ws, v, k, hh⟩ := hrel
    have c0 := cell_at hh.1.at_ 0
    have c1 := cell_at hh.1.at_ 1
    have HH := Lib.hid hh
    have HS1 := Lib.hid (HS.out.below HS.out.pos hh.2.1)
    have HSZ := Lib.hid hh.2.1.size
    clear hh
    by_cases hne : l = []
    · subst hne
      clear c0
      have y0 : wr.cell? ⟨w.heap.size, 0, none⟩ = some (.string ⟨#[]⟩) := cell_at HH.out.1.at_ 0
      have HE : Hid (run t.length t [] = (0, ws)) := Lib.hid (by rw [HH.out.2.2.1, run_nil])
      have CE := Lib.hid (end_any wr w.heap.size w.heap.size [] ws v HH.out.1 (by have := HH.out.2.2.2.2; omega) HSZ.out)
      have HWL : Hid ((endLn ws).length ≤ 5000) := Lib.hid (by have := (endLn_len ws).2; have := HH.out.2.2.2.2; omega)
      clear c1
      go_wp2_with fail
      refine CE.out.mono ?_
      intro e w2 hs
      obtain ⟨rfl, v2, hr2, ht2, _⟩ := hs
      have HR2 := Lib.hid hr2
      have HB2 : Hid (Below w.heap.size w w2) := Lib.hid (HH.out.2.1.trans (ht2.low (fun q hq => (HH.out.1.lt q hq).1) HSZ.out))
      obtain ⟨A2, c2, rfl⟩ := hr2.own.form
      have z1 := cell_at hr2.at_ 1
      clear hr2 ht2 y0 CE
      by_cases hm : 2048 < (endLn ws).length
      · have HW := Lib.hid (words_many HL.out HE.out hm)
        generalize (endLn ws).length = m at *
        go_wp2_with fail
        go_ret2
        exact words_mk HW.out (OwnW.nil _ _) HB2.out
      · have HW := Lib.hid (words_ok HL.out HE.out hm)
        have HO := Lib.hid HR2.out.own
        clear HR2
        generalize (endLn ws).length = m at *
        go_wp2_with fail
        go_ret2
        exact words_mk HW.out HO.out HB2.out
    · have e1 := not_empty (bs l) (by rw [bs_size]; cases l with | nil => exact absurd rfl hne | cons c r => simp)
      have CN := Lib.hid (next_any wr w.heap.size w.heap.size l ws v HH.out.1 hne HS1.out HS.out.pos (by have := HH.out.2.2.2.2; omega) (by have := HH.out.2.2.2.2; omega) HSZ.out)
      have HK : Hid (∃ k', k = k' + 1) := Lib.hid ⟨k - 1, by have := HH.out.2.2.2.1; cases l with | nil => exact absurd rfl hne | cons c r => simp at this; omega⟩
      obtain ⟨k', hk⟩ := HK.out
      subst hk
      have HML := Lib.hid (left_rd HH.out.1)
      clear HK c1
      by_cases he : (step l ws).e = 0
      · have HG : Hid (run t.length t [] = run k' (step l ws).l (step l ws).ws) := Lib.hid (HH.out.2.2.1.trans (run_go hne he))
        have HLT := Lib.hid (step_less l ws hne he)
        have HWS := Lib.hid (step_ws l ws)
        unfold Told at CN
        rw [he] at CN
        clear he
        generalize step l ws = s at *
        go_wp2_with fail
        refine CN.out.mono ?_
        intro e w2 hs
        obtain ⟨rfl, v2, hr2, ht2, _⟩ := hs
        have HR2 := Lib.hid hr2
        have HB2 : Hid (Below w.heap.size w w2) := Lib.hid (HH.out.2.1.trans (ht2.low (fun q hq => (HH.out.1.lt q hq).1) HSZ.out))
        clear hr2 ht2 c0 CN
        go_wp2_with fail
        go_roundw
        case rel => exact ⟨s.l, s.ws, v2, k', HR2.out, HB2.out, HG.out, by have := HLT.out; have := HH.out.2.2.2.1; omega, by have := HLT.out; have := HWS.out; have := HH.out.2.2.2.2; omega⟩
        case measure => rw [left_rd HR2.out, HML.out]; exact HLT.out
      · have HG : Hid (run t.length t [] = ((step l ws).e, [])) := Lib.hid (HH.out.2.2.1.trans (run_stop hne he))
        have HW := Lib.hid (words_bad HL.out he HG.out)
        have b1 : ((step l ws).e == 0) = false := by simpa using he
        have b2 : ((step l ws).e != 0) = true := by simpa using he
        unfold Told at CN
        clear he
        generalize step l ws = s at *
        obtain ⟨se, sl, sw⟩ := s
        dsimp only at *
        go_wp2_with fail
        refine CN.out.mono ?_
        intro e w2 hs
        obtain ⟨rfl, v2, hr2, ht2, _⟩ := hs
        have HB2 : Hid (Below w.heap.size w w2) := Lib.hid (HH.out.2.1.trans (ht2.low (fun q hq => (HH.out.1.lt q hq).1) HSZ.out))
        clear hr2 ht2 c0 CN
        go_wp2_with fail
        go_ret2
        exact words_mk HW.out (OwnW.nil _ _) HB2.out
end Go.Proofs.YtmihlmlojmdhjaaGreatDoor.Lex
/- Words that are written, with a blank between each two, are read as they were: plain mathematics. No condition but the limits. -/
namespace Go.Proofs.YtmihlmlojmdhjaaGreatDoor.Lex
open Go.RowKit
set_option maxRecDepth 100000
/-- What a word of a text is. -/
inductive Good : Wd → Prop where
  | name (s : List UInt8) (c : UInt8) (r : List UInt8) (e : s = c :: r) (ha : s.all nameB = true) (hd : dig c = false) (hl : s.length ≤ 16) : Good ⟨if keyB s = true then 4 else 1, s, 0⟩
  | num (n : Int) (h0 : 0 ≤ n) (h1 : n ≤ 9223372036854775807) : Good ⟨2, [], n⟩
  | text (s : List UInt8) (h : textOk s = true) : Good ⟨3, s, 0⟩
  | sign (s : List UInt8) (h : s ∈ signsL) : Good ⟨5, s, 0⟩
theorem dig_name {c : UInt8} (h : dig c = true) : nameB c = true := by unfold nameB; rw [h]; simp
theorem nameB_not {c : UInt8} (h : nameB c = true) : c.toNat ≠ 10 ∧ blank c = false ∧ c.toNat ≠ 47 ∧ c.toNat ≠ 34 ∧ c.toNat ≠ 32 := by
  unfold nameB small great dig Num.isDig at h
  simp only [Bool.or_eq_true, decide_eq_true_eq] at h
  refine ⟨by omega, ?_, by omega, by omega, by omega⟩
  unfold blank
  simp only [decide_eq_false_iff_not]
  omega
theorem slash_no {c : UInt8} (r : List UInt8) (h : c.toNat ≠ 47) : [47, 47].isPrefixOf (c :: r) = false := by
  have e : ((47 : UInt8) == c) = false := by
    rw [beq_eq_false_iff_ne]
    exact fun e => h (by rw [← e]; rfl)
  show ((47 : UInt8) == c && _) = false
  rw [e]; rfl
theorem rowN_blank (p : UInt8 → Bool) (s r : List UInt8) (hp : s.all p = true) (hb : p 32 = false) : rowN p (s ++ 32 :: r) = s.length := by
  have hl : ∀ k (hk : k < (s ++ 32 :: r).length), k < s.length → p (s ++ 32 :: r)[k] = true := fun k hk hks => by
    rw [List.getElem_append_left hks]
    exact List.all_eq_true.1 hp _ (List.getElem_mem hks)
  rw [rowN_app p _ s.length (by simp) hl, List.drop_left]
  unfold rowN
  rw [List.takeWhile_cons, if_neg (by rw [hb]; simp)]
  simp
theorem take_app (s r : List UInt8) : (s ++ r).take s.length = s := List.take_left
theorem key_all {s : List UInt8} (h : keyB s = true) : s.all nameB = true ∧ s.length ≤ 16 := by
  have : ∀ s ∈ keysL, s.all nameB = true ∧ s.length ≤ 16 := by decide
  exact this s (List.contains_iff_mem.1 h)
theorem text_all {s : List UInt8} (h : textOk s = true) : s.all nameB = true ∧ s.length ≤ 16 := by
  unfold textOk at h
  rw [Bool.or_eq_true] at h
  rcases h with h | h
  · unfold nameOk at h
    simp only [Bool.and_eq_true, Bool.not_eq_true', decide_eq_false_iff_not] at h
    exact ⟨h.2, by omega⟩
  · exact key_all h
theorem cutQ_text {s : List UInt8} (ha : s.all nameB = true) (r : List UInt8) : cutQ (s ++ 34 :: r) = some s := by
  have hp : s.all (fun c => decide (c.toNat ≠ 34)) = true := by
    rw [List.all_eq_true] at ha ⊢
    intro c hc
    have := nameB_not (ha c hc)
    simpa using this.2.2.2.1
  have e : (s ++ 34 :: r).takeWhile (fun c => decide (c.toNat ≠ 34)) = s := by
    rw [List.takeWhile_append_of_pos (fun c hc => List.all_eq_true.1 hp c hc), List.takeWhile_cons]
    simp
  unfold cutQ
  rw [e, if_pos (by simp)]
theorem step_sign (s r : List UInt8) (h : s ∈ signsL) (ws : List Wd) : step (s ++ 32 :: r) ws = ⟨0, 32 :: r, ws ++ [⟨5, s, 0⟩]⟩ := by
  simp only [signsL, List.mem_cons, List.not_mem_nil, or_false] at h
  rcases h with rfl | rfl | rfl | rfl | rfl | rfl | rfl | rfl | rfl | rfl | rfl | rfl | rfl | rfl | rfl | rfl | rfl | rfl | rfl | rfl | rfl | rfl | rfl <;> kernel_rfl
theorem shown_len {x : Wd} (h : Good x) : 1 ≤ (shown x).length ∧ (shown x).length ≤ 20 := by
  cases h with
  | name s c q e ha hd hl =>
    have es : shown ⟨if keyB s = true then 4 else 1, s, 0⟩ = s := by
      unfold shown
      rw [if_pos (by dsimp only; split <;> simp)]
    rw [es]
    exact ⟨by rw [e]; simp, by omega⟩
  | num n h0 h1 =>
    have es : shown ⟨2, [], n⟩ = Lib.itoa n := by
      unfold shown
      rw [if_neg (by dsimp only; omega), if_neg (by dsimp only; omega), if_pos ⟨rfl, h0⟩]
    rw [es]
    refine ⟨?_, Num.itoa_len n (by omega) h1⟩
    cases h : Lib.itoa n with
    | nil =>
      have hi : Lib.itoa n = Lib.decDigits n.natAbs := by unfold Lib.itoa; rw [if_neg (by omega)]; congr 1; omega
      rw [hi] at h; exact absurd h (Num.decDigits_ne _)
    | cons c q => simp
  | text s h =>
    have es : shown ⟨3, s, 0⟩ = quoted s := by
      unfold shown
      rw [if_neg (by dsimp only; omega), if_pos rfl]
    rw [es]
    have := (text_all h).2
    unfold quoted
    simp
    omega
  | sign s h =>
    have es : shown ⟨5, s, 0⟩ = s := by
      unfold shown
      rw [if_pos (by simp)]
    rw [es]
    have := signs_len h
    omega
def flat (l : List Wd) : List UInt8 := l.flatMap fun x => shown x ++ [32]
theorem flat_cons (x : Wd) (l : List Wd) : flat (x :: l) = shown x ++ 32 :: flat l := by simp [flat]
theorem flat_snoc (l : List Wd) (x : Wd) : flat (l ++ [x]) = flat l ++ (shown x ++ [32]) := by simp [flat]
theorem step_blank (r : List UInt8) (ws : List Wd) : step (32 :: r) ws = ⟨0, r, ws⟩ := rfl
theorem step_keeps (l : List UInt8) (ws : List Wd) (h : ∀ x ∈ ws, Good x) : ∀ x ∈ (step l ws).ws, Good x := by
  have hend : ∀ x ∈ endLn ws, Good x := by
    intro x hx
    unfold endLn at hx
    split at hx
    · split at hx
      · rw [List.mem_append] at hx
        rcases hx with hx | hx
        · exact h x hx
        · simp at hx; subst hx; exact .sign [59] (by decide)
      · exact h x hx
    · exact h x hx
  have snoc : ∀ (y : Wd), Good y → ∀ x ∈ ws ++ [y], Good x := fun y hy x hx => by
    rw [List.mem_append] at hx
    rcases hx with hx | hx
    · exact h x hx
    · simp at hx; subst hx; exact hy
  unfold step
  split
  · exact h
  split
  · exact hend
  split
  · exact h
  split
  · exact h
  split
  · rename_i c r _ _ _ hd
    unfold numS
    dsimp only
    split
    · have hr := Num.readV_range ((c :: r).take (rowN dig (c :: r)))
      exact snoc _ (.num _ hr.1 hr.2)
    split <;> exact h
  split
  · rename_i c r _ _ _ hd hm
    unfold nameS
    dsimp only
    split
    · exact h
    · rename_i hl
      have hp := rowN_pos (p := nameB) (r := r) hm
      have hle := rowN_le nameB (c :: r)
      refine snoc _ (.name _ c (r.take (rowN nameB (c :: r) - 1)) ?_ ?_ (by simpa using hd) (by rw [List.length_take]; omega))
      · obtain ⟨m, hm⟩ : ∃ m, rowN nameB (c :: r) = m + 1 := ⟨rowN nameB (c :: r) - 1, by omega⟩
        rw [hm]; rfl
      · rw [take_rowN]
        exact List.all_takeWhile
  split
  · unfold textS
    split
    · split
      · rename_i ht
        exact snoc _ (.text _ ht)
      · exact h
    · exact h
  · unfold signS
    split
    · exact h
    · rename_i c r _ _ _ _ _ _ hne
      rcases longest_mem (c :: r) with h1 | h1
      · exact absurd h1 hne
      · exact snoc _ (.sign _ h1.1)
theorem run_keeps : ∀ (n : Nat) (l : List UInt8) (ws : List Wd), (∀ x ∈ ws, Good x) → ∀ x ∈ (run n l ws).2, Good x
  | 0, _, _, h => h
  | n + 1, l, ws, h => by
    unfold run
    split
    · exact h
    split
    · exact run_keeps n _ _ (step_keeps l ws h)
    · simp
theorem endLn_good (ws : List Wd) (h : ∀ x ∈ ws, Good x) : ∀ x ∈ endLn ws, Good x := by
  intro x hx
  unfold endLn at hx
  split at hx
  · split at hx
    · rw [List.mem_append] at hx
      rcases hx with hx | hx
      · exact h x hx
      · simp at hx; subst hx; exact .sign [59] (by decide)
    · exact h x hx
  · exact h x hx
theorem endLn_twice (ws : List Wd) : endLn (endLn ws) = endLn ws := by
  rcases List.eq_nil_or_concat ws with rfl | ⟨r, x, rfl⟩
  · rfl
  · rw [List.concat_eq_append]
    have hl : (r ++ [x]).getLast? = some x := by simp
    rcases Bool.eq_false_or_eq_true (mayB x) with hm | hm
    · rw [endLn_yes hl hm, endLn_no (x := semi) (by simp) (by decide)]
    · rw [endLn_no hl hm, endLn_no hl hm]
/-- What Words tells is good, and ends as it should. -/
theorem words_good {t : List UInt8} {l : List Wd} (h : words t = (l, 0)) : (∀ x ∈ l, Good x) ∧ endLn l = l ∧ l.length ≤ 2048 := by
  unfold words at h
  split at h
  · simp at h
  split at h
  · split at h
    · simp at h
    · simp only [Prod.mk.injEq, and_true] at h
      subst h
      exact ⟨endLn_good _ (run_keeps _ _ _ (by simp)), endLn_twice _, by omega⟩
  · rename_i hne
    simp only [Prod.mk.injEq] at h
    exact absurd h.2 hne
theorem words_none {t : List UInt8} (h : (words t).2 ≠ 0) : (words t).1 = [] := by
  revert h
  unfold words
  split
  · simp
  split
  · split <;> simp
  · simp
theorem flat_len {l : List Wd} (hg : ∀ x ∈ l, Good x) : (flat l).length ≤ l.length * 21 := by
  induction l with
  | nil => simp [flat]
  | cons x l ih =>
    have h1 := (shown_len (hg x (by simp))).2
    have h2 := ih fun y hy => hg y (by simp [hy])
    rw [flat_cons]
    simp only [List.length_append, List.length_cons]
    omega
end Go.Proofs.YtmihlmlojmdhjaaGreatDoor.Lex
/- Words of a text, as both parsers take them: how deep their brackets stand; their row. No condition. -/
namespace Go.Proofs.YtmihlmlojmdhjaaGreatDoor.Prg
open Go.RowKit Tre Prs
open Lex (Wd wdC wdV bs str Turn)
set_option maxRecDepth 100000
theorem isB_sign (x : Wd) {s : List UInt8} (hs : Lex.keyB s = false) : isB x s = (x.k == 5 && x.s == s) := by
  show isK x s = _
  unfold isK
  rw [if_neg (by simp [hs])]
theorem nest_same : ∀ (l : List Wd) (p : Nat × Nat), p.1 ≤ p.2 → l.foldl nest2 p = l.foldl nestS p
  | [], _, _ => rfl
  | x :: l, (d, m), h => by
    rw [List.foldl_cons, List.foldl_cons]
    have h40 := isB_sign x (s := [40]) (by decide)
    have h123 := isB_sign x (s := [123]) (by decide)
    have h41 := isB_sign x (s := [41]) (by decide)
    have h125 := isB_sign x (s := [125]) (by decide)
    have e : nest2 (d, m) x = nestS (d, m) x ∧ (nestS (d, m) x).1 ≤ (nestS (d, m) x).2 := by
      unfold nest2 nestS
      rw [h40, h123, h41, h125]
      dsimp only at h
      cases hk : x.k == 5 with
      | false => simp; exact h
      | true =>
        simp only [Bool.true_and, if_true]
        cases h1 : (x.s == [40] || x.s == [123]) with
        | true =>
          simp only [if_true]
          exact ⟨trivial, by omega⟩
        | false =>
          simp only [Bool.false_eq_true, if_false]
          cases h2 : (x.s == [41] || x.s == [125]) with
          | true =>
            simp only [if_true]
            refine ⟨?_, by omega⟩
            rw [show max m (d - 1) = m by omega]
          | false =>
            simp only [Bool.false_eq_true, if_false]
            refine ⟨?_, by omega⟩
            rw [show max m d = m by omega]
    rw [e.1]
    exact nest_same l _ e.2
theorem nestG_all (l : List Wd) : nestG l = nestD l := by
  unfold nestG nestD
  rw [nest_same l (0, 0) (Nat.le_refl _)]
theorem nestG_good {l : List Wd} (_ : ∀ x ∈ l, Lex.Good x) : nestG l = nestD l := nestG_all l
theorem good_ks {x : Wd} (h : Lex.Good x) : KS x := by
  cases h with
  | name s c q e ha hd hl =>
    refine ⟨fun h => ?_, fun h => ?_⟩
    · dsimp only at h ⊢
      by_cases hk : Lex.keyB s = true
      · exact hk
      · rw [if_neg hk] at h
        cases h
    · dsimp only at h
      split at h <;> cases h
  | num n h0 h1 => exact ⟨fun h => (by cases h), fun h => (by cases h)⟩
  | text s h => exact ⟨fun h => (by cases h), fun h => (by cases h)⟩
  | sign s h =>
    refine ⟨fun h => (by cases h), fun _ => ?_⟩
    have : ∀ s ∈ Lex.signsL, Lex.keyB s = false := by decide
    exact this s h
theorem good_len {x : Wd} (h : Lex.Good x) : x.s.length ≤ 1000000 := by
  cases h with
  | name s c q e ha hd hl => show s.length ≤ 1000000; omega
  | num n h0 h1 => exact Nat.zero_le _
  | text s h =>
    show s.length ≤ 1000000
    unfold Lex.textOk at h
    simp only [Bool.or_eq_true] at h
    rcases h with h | h
    · unfold Lex.nameOk at h
      simp at h
      omega
    · have : ∀ t ∈ Lex.keysL, t.length ≤ 1000000 := by decide
      exact this s (by simpa [Lex.keyB] using h)
  | sign s h => have := (Lex.signs_len h).2; show s.length ≤ 1000000; omega
theorem words_ok0 {t : List UInt8} (h : (Lex.words t).2 = 0) : (∀ x ∈ (Lex.words t).1, Lex.Good x) ∧ Lex.endLn (Lex.words t).1 = (Lex.words t).1 ∧ (Lex.words t).1.length ≤ 2048 := Lex.words_good (l := (Lex.words t).1) (by rw [← h])
theorem OwnW.row {w : World} {lo : Nat} {A : Option Addr} {n c : Nat} {l : List Wd} (h : Lex.OwnW w lo (.slice A n c) l) : Row 3 wdC w A l := OwnG.row (C := wdC) (T := 82) (fun _ => rfl) h
theorem OwnW.cap {w : World} {lo : Nat} {v : Value} {l : List Wd} (h : Lex.OwnW w lo v l) : ∃ A c, v = .slice A l.length c ∧ l.length ≤ c ∧ ∀ ad, A = some ad → ∃ b, ad = ⟨b, 0, none⟩ := OwnG.form (C := wdC) (k := 3) (T := 82) h
theorem results_fl2 {fn : Func} {p q : Tmp} (h : fn.results = #[.cell p 25, .tmp q]) (tmps : Array Value) (w : World) (g : Nat) (v0 v1 v2 u : Value) (hv : tmps.getD p undef = .pointer (some ⟨g, 0, none⟩)) (hu : tmps.getD q undef = u) (hc : w.heap[g]? = some (.cells #[v0, v1, v2] 25 (0, 0))) :
    (results fn tmps).run Tryz.prog w = .ok (.tuple #[.agg #[v0, v1, v2], u]) w := by
  have a4 := Tryz.isAgg25
  have z4 := Tryz.sizeOf25
  obtain ⟨c0, c1, c2⟩ := three_at hc
  simp only [Array.getD_eq_getD_getElem?] at hv hu
  unfold results
  rw [h]
  go_simp
theorem results_ex2 {fn : Func} {p q : Tmp} (h : fn.results = #[.cell p 42, .tmp q]) (tmps : Array Value) (w : World) (g : Nat) (v0 v1 v2 v3 v4 u : Value) (hv : tmps.getD p undef = .pointer (some ⟨g, 0, none⟩)) (hu : tmps.getD q undef = u) (hc : w.heap[g]? = some (.cells #[v0, v1, v2, v3, v4] 42 (0, 0))) :
    (results fn tmps).run Tryz.prog w = .ok (.tuple #[.agg #[v0, v1, v2, v3, v4], u]) w := by
  have a4 := Tryz.isAgg42
  have z4 := Tryz.sizeOf42
  obtain ⟨c0, c1, c2, c3, c4⟩ := five_at hc
  simp only [Array.getD_eq_getD_getElem?] at hv hu
  unfold results
  rw [h]
  go_simp
end Go.Proofs.YtmihlmlojmdhjaaGreatDoor.Prg
