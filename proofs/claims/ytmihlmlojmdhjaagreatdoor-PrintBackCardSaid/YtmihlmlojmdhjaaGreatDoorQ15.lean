/-
  The program's op: which sign of a level is next. Conditions: the reader is known; the table of signs lies as the program's text lays it.
-/
import Derived.Test.YtmihlmlojmdhjaaGreatDoorQ02
import Derived.Test.YtmihlmlojmdhjaaGreatDoorQ06
import Derived.Test.YtmihlmlojmdhjaaGreatDoorQ13
import Derived.Test.YtmihlmlojmdhjaaGreatDoorQ14
import Derived.Deep.MidRow
import Derived.ChangeKeysEq
namespace Go.Proofs.YtmihlmlojmdhjaaGreatDoor.Prg
open Go.RowKit Tre Prs
open Lex (Wd wdC wdV bs str Turn)
set_option maxRecDepth 100000
set_option linter.unusedSimpArgs false
variable {lo : Nat}
/-- The table of signs: each with its level and its op. -/
def sigsL : List (List UInt8 × Int × Int) := [([42], 0, 7), ([47], 0, 8), ([37], 0, 9), ([43], 1, 10), ([45], 1, 11), ([61, 61], 2, 12), ([33, 61], 2, 13), ([60], 2, 14), ([60, 61], 2, 15), ([62], 2, 16), ([62, 61], 2, 17), ([38, 38], 3, 18), ([124, 124], 4, 19)]
def sigV : List Value := sigsL.flatMap (fun e => [.string (bs e.1), .int .i64 e.2.1, .int .i64 e.2.2])
def sig (k : Nat) : List UInt8 × Int × Int := sigsL.getD k ([], 0, 0)
def Sigs (w : World) : Prop := w.rangeAt 4 0 sigV
theorem Sigs.pos {w : World} (h : Sigs w) : 4 < w.heap.size := by
  have h0 := h 0 (.string (bs [42])) rfl
  by_cases hz : 4 < w.heap.size
  · exact hz
  · have : w.heap[4]? = none := Array.getElem?_eq_none (by omega)
    simp [World.cell?, this] at h0
theorem Sigs.below {w w' : World} {n : Nat} (h : Sigs w) (h0 : 4 < n) (hb : Below n w w') : Sigs w' := fun j v hv => (World.cell?_of_block (w := w) (hb.block _ h0)).trans (h j v hv)
theorem Sigs.turn {w w' : World} {S : List Nat} (h : Sigs w) (ht : Turn S w w') (hs : 4 ∉ S) : Sigs w' := fun j v hv => (World.cell?_of_block (w := w) (ht.block _ h.pos hs)).trans (h j v hv)
theorem size_sigs : (Tryz.prog.info? 193).map (·.size) = some 39 := by kernel_rfl
theorem index_sig (k : Nat) (hk : k < 13) (w : World) : (Instr.index 193 (.agg sigV.toArray) (.int .i64 k)).run Tryz.prog w = .ok (.agg #[.string (bs (sig k).1), .int .i64 (sig k).2.1, .int .i64 (sig k).2.2]) w := by
  obtain rfl | rfl | rfl | rfl | rfl | rfl | rfl | rfl | rfl | rfl | rfl | rfl | rfl : k = 0 ∨ k = 1 ∨ k = 2 ∨ k = 3 ∨ k = 4 ∨ k = 5 ∨ k = 6 ∨ k = 7 ∨ k = 8 ∨ k = 9 ∨ k = 10 ∨ k = 11 ∨ k = 12 := by omega
  all_goals clear hk
  all_goals kernel_rfl
/-- Does an entry of the table tell the next word's op? -/
def hit (L : Int) (r : PS) (e : List UInt8 × Int × Int) : Bool := e.2.1 == L && isW r e.1
theorem find_level {L : Nat} (hL : L ≤ 4) (r : PS) : ((sigsL.find? (hit (L : Int) r)).map (·.2.2)) = ((level (4 - L)).find? (fun p => isW r p.1)).map (·.2) := by
  match L, hL with
  | 0, _ => simp only [sigsL, level, hit, List.find?]; simp; repeat' split <;> simp_all
  | 1, _ => simp only [sigsL, level, hit, List.find?]; simp; repeat' split <;> simp_all
  | 2, _ => simp only [sigsL, level, hit, List.find?]; simp; repeat' split <;> simp_all
  | 3, _ => simp only [sigsL, level, hit, List.find?]; simp; repeat' split <;> simp_all
  | 4, _ => simp only [sigsL, level, hit, List.find?]; simp; repeat' split <;> simp_all
  | L + 5, h => exact absurd h (by omega)
theorem op_hit {L k : Nat} {r : PS} (hL : L ≤ 4) (hk : k < 13) (no : ∀ j : Nat, j < k → hit L r (sig j) = false) (hi : hit L r (sig k) = true) : opN (4 - L) r = (sig k).2.2 ∧ opR (4 - L) r = tl r := by
  have hf : sigsL.find? (hit (L : Int) r) = some (sig k) := by
    have hk' : k < sigsL.length := hk
    have hs : sigsL[k] = sig k := by unfold sig; rw [List.getD_eq_getElem?_getD, List.getElem?_eq_getElem hk']; rfl
    have e : sigsL = sigsL.take k ++ sig k :: sigsL.drop (k + 1) := by
      rw [← hs, List.getElem_cons_drop, List.take_append_drop]
    rw [e, List.find?_append, List.find?_eq_none.2 (fun q hq => ?_)]
    · simp [hi]
    · obtain ⟨j, hj⟩ := List.mem_iff_getElem?.1 hq
      have hjl := (List.getElem?_eq_some_iff.1 hj).1
      rw [List.length_take] at hjl
      have hj2 : j < k := by omega
      rw [List.getElem?_take_of_lt hj2] at hj
      have : q = sig j := by unfold sig; rw [List.getD_eq_getElem?_getD, hj]; rfl
      rw [this]
      simp [no j hj2]
  have h2 := find_level hL r
  rw [hf] at h2
  unfold opN opR
  cases hc : (level (4 - L)).find? (fun p => isW r p.1) with
  | none => rw [hc] at h2; simp at h2
  | some p =>
    rw [hc] at h2
    simp at h2
    exact ⟨h2.symm, rfl⟩
theorem op_none {L : Nat} {r : PS} (hL : L ≤ 4) (no : ∀ j : Nat, j < 13 → hit L r (sig j) = false) : opN (4 - L) r = 0 ∧ opR (4 - L) r = r := by
  have hf : sigsL.find? (hit (L : Int) r) = none := List.find?_eq_none.2 fun q hq => by
    obtain ⟨j, hj⟩ := List.mem_iff_getElem?.1 hq
    have hjl : j < 13 := (List.getElem?_eq_some_iff.1 hj).1
    have : q = sig j := by unfold sig; rw [List.getD_eq_getElem?_getD, hj]; rfl
    rw [this]
    simp [no j hjl]
  have h2 := find_level hL r
  rw [hf] at h2
  unfold opN opR
  cases hc : (level (4 - L)).find? (fun p => isW r p.1) with
  | none => exact ⟨rfl, rfl⟩
  | some p => rw [hc] at h2; simp at h2
structure OpAt (lo : Nat) (w wr : World) (g : Nat) (r : PS) (L k : Nat) : Prop where
  rd : RdG lo wr g r
  turn : Turn [g] w wr
  no : ∀ j : Nat, j < k → hit L r (sig j) = false
set_option maxHeartbeats 8000000 in
theorem op_any (w : World) (g : Nat) (r : PS) (L : Nat) (hL : L ≤ 4) (h : RdG lo w g r) (hS : Sigs w) : Calls Tryz.prog 171 #[.pointer (some ⟨g, 0, none⟩), .int .i64 L] w (Lg lo w g (.int .i64 (opN (4 - L) r)) (opR (4 - L) r)) := by
  have HL := Lib.hid hL
  have HS := Lib.hid hS
  have HIX := Lib.hid (fun k (hk : k < 13) => index_sig k hk)
  have HSZ : Hid (sigV.length = 39) := Lib.hid rfl
  have START : Hid (OpAt lo w w g r L 0) := Lib.hid ⟨h, Turn.refl [g] w, fun j hj => by omega⟩
  have hr : w.rangeAt 4 0 sigV := hS
  have HR := Lib.hid hr
  clear h hS hL hr HS
  generalize sigV = SV at *
  go_enter Tryz.func171, Tryz.ntmps171
  go_wp2_with (with_reducible refine wpList_load_mid rfl 193 (.global 4) rfl 4 0 rfl SV _ HR.out Tryz.underlying193 rfl (by rw [HSZ.out]; exact size_sigs) ?_)
  go_loopw [8] (fun i wr => ∃ k : Nat, i = .int .i64 k ∧ k ≤ 13 ∧ Hid (OpAt lo w wr g r L k)) (fun i _ => 13 - (intOf i).toNat)
  case atStart => exact ⟨0, rfl, Nat.zero_le _, START⟩
  case round =>
    clear START
    obtain ⟨k, rfl, hk, HO⟩ := hrel
    rcases Nat.lt_or_ge k 13 with hlt | hge
    · have hix := HIX.out k hlt
      obtain ⟨e0, he0⟩ : ∃ e, sig k = e := ⟨_, rfl⟩
      have HE := Lib.hid he0
      rw [he0] at hix
      clear he0
      obtain ⟨s, lv, op⟩ := e0
      dsimp only at hix
      have HB := Lib.hid (ball_new wr #[.string (bs s), .int .i64 lv, .int .i64 op] 192)
      have HN := Lib.hid (new_at wr #[.string (bs s), .int .i64 lv, .int .i64 op] 192)
      have HR1 := Lib.hid (HO.out.rd.below HB.out)
      have HG : Hid (g < wr.heap.size) := Lib.hid HO.out.rd.lt
      have hn := HN.out
      obtain ⟨c0, c1, c2⟩ := three_at hn
      clear hn
      rcases Bool.eq_false_or_eq_true (lv == (L : Int)) with hlv | hlv
      · rcases Bool.eq_false_or_eq_true (isW r s) with hi | hi
        · have C := Lib.hid (has_yes _ g r s HR1.out hi)
          have HH := Lib.hid (op_hit (r := r) (k := k) HL.out hlt HO.out.no (by rw [HE.out]; unfold hit; simp only [hlv, hi, Bool.and_self]))
          clear hi
          go_wp2_with fail
          refine C.out.mono ?_
          rintro e w2 ⟨rfl, h1, h2⟩
          have hbx : w2.heap[wr.heap.size]? = _ := (h2.block _ (lt_of_heap HN.out) (by have := HG.out; simp; omega)).trans HN.out
          obtain ⟨d0, d1, d2⟩ := three_at hbx
          have H1 := Lib.hid h1
          have H2 := Lib.hid ((HO.out.turn.below HB.out).trans h2)
          clear h1 h2 hbx C c0 c1 c2
          go_wp2_with fail
          go_ret
          rw [HH.out.1, HH.out.2, HE.out]
          exact ⟨rfl, H1.out, H2.out⟩
        · have C := Lib.hid (has_no _ g r s HR1.out hi)
          have HNO : Hid (hit L r (sig k) = false) := Lib.hid (by rw [HE.out]; unfold hit; simp only [hi, Bool.and_false])
          clear hi
          go_wp2_with fail
          refine C.out.mono ?_
          rintro e w2 ⟨rfl, h1, h2⟩
          have HA : Hid (OpAt lo w w2 g r L (k + 1)) := Lib.hid ⟨h1, (HO.out.turn.below HB.out).trans h2, fun j hj => by
            rcases Nat.lt_or_ge j k with hjk | hjk
            · exact HO.out.no j hjk
            · obtain rfl : j = k := by omega
              exact HNO.out⟩
          clear h1 h2 C c0 c1 c2
          go_wp2_with fail
          go_roundw
          case rel => refine ⟨k + 1, ?_, ?_, HA⟩ <;> first | trivial | rfl | omega
          case measure => simp [intOf]; omega
      · have HNO : Hid (hit L r (sig k) = false) := Lib.hid (by rw [HE.out]; unfold hit; simp only [hlv, Bool.false_and])
        have HA : Hid (OpAt lo w (wr.alloc (.cells #[.string (bs s), .int .i64 lv, .int .i64 op] 192)) g r L (k + 1)) := Lib.hid ⟨HR1.out, HO.out.turn.below HB.out, fun j hj => by
            rcases Nat.lt_or_ge j k with hjk | hjk
            · exact HO.out.no j hjk
            · obtain rfl : j = k := by omega
              exact HNO.out⟩
        go_wp2_with fail
        go_roundw
        case rel => refine ⟨k + 1, ?_, ?_, HA⟩ <;> first | trivial | rfl | omega
        case measure => simp [intOf]; omega
    · obtain rfl : k = 13 := by omega
      have HH := Lib.hid (op_none (r := r) HL.out HO.out.no)
      go_wp2_with fail
      go_ret
      rw [HH.out.1, HH.out.2]
      exact ⟨rfl, HO.out.rd, HO.out.turn⟩
end Go.Proofs.YtmihlmlojmdhjaaGreatDoor.Prg
/- The document's level: the signs of a row of ops and their ops. Condition: the level is one of the five. -/
namespace Go.Proofs.YtmihlmlojmdhjaaGreatDoor.Prs
open Go.RowKit Tre
open Lex (Wd wdC wdV bs str Turn)
set_option maxRecDepth 100000
set_option linter.unusedSimpArgs false
def signsV (k : Nat) : Array Value := ((level k).map (fun p => Value.string (bs p.1))).toArray
def opsV (k : Nat) : Array Value := ((level k).map (fun p => Value.int .i64 p.2)).toArray
/-- What level leaves: two new rows. -/
def LevR (w : World) (k : Nat) (e : Ending) (w' : World) : Prop :=
  e = .returned (.tuple #[.slice (some ⟨w.heap.size, 0, none⟩) (level k).length (level k).length, .slice (some ⟨w.heap.size + 1, 0, none⟩) (level k).length (level k).length]) ∧ Below w.heap.size w w' ∧
  w'.heap[w.heap.size]? = some (.cells (signsV k) 9 (0, 0)) ∧ w'.heap[w.heap.size + 1]? = some (.cells (opsV k) 3 (0, 0))
end Go.Proofs.YtmihlmlojmdhjaaGreatDoor.Prs
/- The document's row: a row of ops of one level. Conditions: the reader is known; the row of the next level does as the plain grammar says. -/
namespace Go.Proofs.YtmihlmlojmdhjaaGreatDoor.Prs
open Go.RowKit Tre
open Lex (Wd wdC wdV bs str Turn)
set_option maxRecDepth 100000
set_option linter.unusedSimpArgs false
variable {lo : Nat}
/-- No row of the tree lies in the blocks S. -/
def Off (S : List Nat) (x : Ex) : Prop := ∀ y ∈ flat x, 0 < y.x.length → ∀ b o, y.a = some ⟨b, o, none⟩ → b ∉ S
theorem ExIn.off {S : List Nat} {w w' : World} {x : Ex} (h : ExIn w x) (ho : Off S x) (ht : Turn S w w') : ExIn w' x := fun y hy => by
  have hn := h y hy
  exact ⟨fun h0 => Row.kept hn.row ht.size (fun b' o e hlt => ht.block b' hlt (ho y hy h0 _ _ e)) h0, hn.len, hn.cap, hn.s, hn.q⟩
theorem New.off {b : Nat} {S : List Nat} {x : Ex} (h : New b x) (hs : ∀ k ∈ S, k < b) : Off S x := fun y hy _ c o e hm => by
  have h1 := h y hy _ e
  have h2 := hs _ hm
  simp only at h1
  omega
theorem ExIn.fresh {w : World} {x : Ex} (h : ExIn w x) : Off [w.heap.size] x := fun y hy h0 b o e hm => by
  obtain ⟨b', o', e', hlt, _⟩ := (h y hy).row h0
  rw [e] at e'
  injection e' with e'
  injection e' with e1
  simp at hm
  omega
theorem rest_out {k0 k : Nat} {r r' : PS} {t : Tx} (h : tell (.row k0) r = tell (.rest k0 t) r') (hk : (level k0).length ≤ k) (no : ∀ p ∈ (level k0).take k, isW r' p.1 = false) : tell (.row k0) r = (t, r') := by
  rw [h, tell_rest]
  split
  · rfl
  · have : (level k0).find? (fun p => isW r' p.1) = none := List.find?_eq_none.2 fun p hp => by
      rw [List.take_of_length_le hk] at no
      simp [no p hp]
    rw [this]
theorem rest_bad {k0 : Nat} {r r' : PS} {t : Tx} (h : tell (.row k0) r = tell (.rest k0 t) r') (hb : r'.bad = true) : tell (.row k0) r = (t, r') := by
  rw [h, tell_rest, if_pos hb]
theorem level_len (k : Nat) : 1 ≤ (level k).length ∧ (level k).length ≤ 6 := by
  unfold level
  split
  · simp
  split
  · simp
  split
  · simp
  split <;> simp
/-- How far the reader has to go. -/
def remW (w : World) (g : Nat) : Nat := match w.cell? ⟨g, 1, none⟩, w.cell? ⟨g, 0, none⟩ with
  | some (.bool false), some (.slice _ n _) => n
  | _, _ => 0
theorem sign_at {w : World} {sb k0 k : Nat} {p : List UInt8 × Int} (h : w.heap[sb]? = some (.cells (signsV k0) 9 (0, 0))) (hp : (level k0)[k]? = some p) : w.cell? ⟨sb, k, none⟩ = some (.string (bs p.1)) := by
  rw [cell_at h]
  simp [signsV, hp]
theorem op_at {w : World} {sb k0 k : Nat} {p : List UInt8 × Int} (h : w.heap[sb]? = some (.cells (opsV k0) 3 (0, 0))) (hp : (level k0)[k]? = some p) : w.cell? ⟨sb, k, none⟩ = some (.int .i64 p.2) := by
  rw [cell_at h]
  simp [opsV, hp]
theorem ten_eq (x y : Ex) : (#[.int .i64 x.op, .int .i64 x.n, .string x.s, .string x.q, .slice x.a x.x.length x.c, .int .i64 y.op, .int .i64 y.n, .string y.s, .string y.q, .slice y.a y.x.length y.c] : Array Value) = (exC x ++ exC y).toArray := by
  cases x
  cases y
  rfl
theorem exC_len (x : Ex) : (exC x).length = 5 := by
  cases x
  rfl
theorem two_in {w : World} {x y : Ex} {b : Nat} {op : Int} (hx : ExIn w x) (hy : ExIn w y) (hb : w.heap[b]? = some (.cells #[.int .i64 x.op, .int .i64 x.n, .string x.s, .string x.q, .slice x.a x.x.length x.c, .int .i64 y.op, .int .i64 y.n, .string y.s, .string y.q, .slice y.a y.x.length y.c] 42 (0, 0))) : ExIn w (.mk op 0 ⟨#[]⟩ ⟨#[]⟩ (some ⟨b, 0, none⟩) 2 [x, y]) := by
  rw [ten_eq] at hb
  refine ExIn.mk ⟨fun _ => ⟨b, 0, rfl, lt_of_heap hb, fun j z hz r u hu => ?_⟩, by simp [Ex.x, most], by simp [Ex.x, Ex.c], ?_, ?_⟩ (fun z hz => ?_)
  · have hr : r < 5 := by have := (List.getElem?_eq_some_iff.1 hu).1; rw [exC_len] at this; exact this
    rw [cell_at hb]
    match j, hz with
    | 0, hz =>
      obtain rfl : x = z := by simpa [Ex.x] using hz
      simp [List.getElem?_append, exC_len, hr]
      exact (List.getElem?_eq_some_iff.1 hu).2
    | 1, hz =>
      obtain rfl : y = z := by simpa [Ex.x] using hz
      have e : 0 + 1 * 5 + r = 5 + r := by omega
      rw [e]
      simp [List.getElem?_append, exC_len, hu]
    | j + 2, hz => simp [Ex.x] at hz
  · show (⟨#[]⟩ : ByteArray).size ≤ maxLen; unfold maxLen; simp [ByteArray.size]
  · show (⟨#[]⟩ : ByteArray).size ≤ maxLen; unfold maxLen; simp [ByteArray.size]
  · have : z = x ∨ z = y := by simpa [Ex.x] using hz
    rcases this with rfl | rfl
    · exact hx
    · exact hy
theorem two_mem {x y z : Ex} {b : Nat} {op : Int} (h : z ∈ flat (.mk op 0 ⟨#[]⟩ ⟨#[]⟩ (some ⟨b, 0, none⟩) 2 [x, y])) : z = .mk op 0 ⟨#[]⟩ ⟨#[]⟩ (some ⟨b, 0, none⟩) 2 [x, y] ∨ z ∈ flat x ∨ z ∈ flat y := by
  rw [flat_eq] at h
  simpa [flatL, Ex.x] using h
theorem two_new {g b : Nat} {x y : Ex} {op : Int} (hx : New g x) (hy : New g y) (hb : g ≤ b) : New g (.mk op 0 ⟨#[]⟩ ⟨#[]⟩ (some ⟨b, 0, none⟩) 2 [x, y]) := fun z hz ad e => by
  rcases two_mem hz with rfl | hz | hz
  · injection e with e
    subst e
    exact hb
  · exact hx z hz ad e
  · exact hy z hz ad e
theorem two_off {S : List Nat} {b : Nat} {x y : Ex} {op : Int} (hx : Off S x) (hy : Off S y) (hb : b ∉ S) : Off S (.mk op 0 ⟨#[]⟩ ⟨#[]⟩ (some ⟨b, 0, none⟩) 2 [x, y]) := fun z hz h0 c o e => by
  rcases two_mem hz with rfl | hz | hz
  · injection e with e
    injection e with e
    subst e
    exact hb
  · exact hx z hz h0 c o e
  · exact hy z hz h0 c o e
end Go.Proofs.YtmihlmlojmdhjaaGreatDoor.Prs
/- What a call of the program's parser leaves that tells an expression. No condition. -/
namespace Go.Proofs.YtmihlmlojmdhjaaGreatDoor.Prg
open Go.RowKit Tre Prs
open Lex (Wd wdC wdV bs str Turn)
set_option maxRecDepth 100000
set_option linter.unusedSimpArgs false
variable {lo : Nat}
/-- The reader, and the table of signs. -/
structure InG (lo : Nat) (w : World) (g : Nat) (r : PS) : Prop where
  rd : RdG lo w g r
  sg : Sigs w
  ne : 4 ≠ g
  gl : 4 < lo
section
variable {w w' : World} {g : Nat} {r r' : PS}
theorem InG.below (h : InG lo w g r) (hb : Below w.heap.size w w') : InG lo w' g r := ⟨h.rd.below hb, h.sg.below h.sg.pos hb, h.ne, h.gl⟩
theorem InG.step (h : InG lo w g r) (ht : Turn [g] w w') (hr : RdG lo w' g r') : InG lo w' g r' := ⟨hr, h.sg.turn ht (by simpa using h.ne), h.ne, h.gl⟩
theorem InG.but {b : Nat} (h : InG lo w g r) (ht : Turn [b] w w') (hb : lo ≤ b) : InG lo w' g r := ⟨h.rd.but ht hb, h.sg.turn ht (by have := h.gl; simp; omega), h.ne, h.gl⟩
theorem InG.buts {S : List Nat} (h : InG lo w g r) (ht : Turn S w w') (hb : ∀ b ∈ S, lo ≤ b) : InG lo w' g r := ⟨h.rd.buts ht hb, h.sg.turn ht (fun hm => by have := hb _ hm; have := h.gl; omega), h.ne, h.gl⟩
end
/-- What a call leaves that tells an expression. -/
def EvG (lo : Nat) (w : World) (g : Nat) (q : Tx × PS) (e : Ending) (w' : World) : Prop := ∃ (x : Ex) (r' : PS), e = .returned (exV x) ∧ Ag q (core x) r' ∧ ExIn w' x ∧ New w.heap.size x ∧ RdG lo w' g r' ∧ Turn [g] w w'
/-- The end of a call that wraps one expression. -/
theorem un_endG {w w1 w2 w3 w4 : World} {g op : Nat} {x : Ex} {q : Tx × PS} {r' : PS} {cs : Array Value} {T : TypeId} (hw : w.heap.size < w1.heap.size) (hlo : lo ≤ w.heap.size) (hx2 : ExIn w2 x) (hx3 : New w1.heap.size x) (hx4 : RdG lo w2 g r')
    (hb : Below w.heap.size w (w.alloc (.cells cs T))) (h2 : Turn [g] (w.alloc (.cells cs T)) w1) (hx5 : Turn [g] w1 w2) (hb3 : Below w2.heap.size w2 w3) (hn3 : w3.heap[w2.heap.size]? = some (.cells #[.int .i64 x.op, .int .i64 x.n, .string x.s, .string x.q, .slice x.a x.x.length x.c] 42 (0, 0)))
    (ht : Turn [w.heap.size] w3 w4) (hq : Ag q (.mk op 0 [] [] [core x]) r') : EvG lo w g q (.returned (.agg #[.int .i64 op, .int .i64 0, .string ⟨#[]⟩, .string ⟨#[]⟩, .slice (some ⟨w2.heap.size, 0, none⟩) 1 1])) w4 := by
  have s2 := hx5.size
  have hx : ExIn w4 x := ExIn.turn (Tre.ExIn.below hx2 hb3) (b := w1.heap.size) (g := w.heap.size) hx3 hw ht
  have hrow : w4.heap[w2.heap.size]? = some (.cells #[.int .i64 x.op, .int .i64 x.n, .string x.s, .string x.q, .slice x.a x.x.length x.c] 42 (0, 0)) := (ht.block _ (lt_of_heap hn3) (by simp; omega)).trans hn3
  refine ⟨.mk op 0 ⟨#[]⟩ ⟨#[]⟩ (some ⟨w2.heap.size, 0, none⟩) 1 [x], r', rfl, by rw [core_eq]; exact hq, one_in hx (fun r u hu => ?_) (lt_of_heap hrow) (Nat.le_refl _), one_new (hx3.mono (by omega)) (by omega), (hx4.below hb3).but ht hlo, ?_⟩
  · rw [cell_at hrow]
    cases x
    simpa [exC, Ex.op, Ex.n, Ex.s, Ex.q, Ex.a, Ex.x, Ex.c] using hu
  · have h1 : Turn [g] w w1 := ((Turn.refl [g] w).below hb).then_ h2 (fun k hk => .inl hk)
    exact ((h1.trans hx5).below hb3).then_ ht (fun k hk => by simp at hk; subst hk; exact .inr (Nat.le_refl _))
/-- The end of a call that tells a leaf. -/
theorem leaf_endG {w w1 w4 : World} {g : Nat} {op n : Int} {s : ByteArray} {r : PS} {q : Tx × PS} {cs : Array Value} {T : TypeId} (hlo : lo ≤ w.heap.size) (hs : s.size ≤ maxLen) (hr : RdG lo w1 g r) (hb : Below w.heap.size w (w.alloc (.cells cs T))) (h2 : Turn [g] (w.alloc (.cells cs T)) w1) (ht : Turn [w.heap.size] w1 w4) (hq : Ag q (.mk op n s.data.toList [] []) r) :
    EvG lo w g q (.returned (.agg #[.int .i64 op, .int .i64 n, .string s, .string ⟨#[]⟩, .slice none 0 0])) w4 :=
  ⟨.mk op n s ⟨#[]⟩ none 0 [], r, rfl, by rw [core_eq]; exact hq, leaf_in _ _ _ _ hs, leaf_new _ _ _ _, hr.but ht hlo, (((Turn.refl [g] w).below hb).then_ h2 (fun k hk => .inl hk)).then_ ht (fun k hk => by simp at hk; subst hk; exact .inr (Nat.le_refl _))⟩
/-- The end of a call that hands an expression on, behind one more call. -/
theorem on_endG {w w1 w2 w3 w4 w5 : World} {g : Nat} {x : Ex} {q : Tx × PS} {r : PS} {cs : Array Value} {T : TypeId} (hw : w.heap.size < w1.heap.size) (hlo : lo ≤ w.heap.size) (hg : g < w.heap.size) (hx2 : ExIn w2 x) (hx3 : New w1.heap.size x) (hb : Below w.heap.size w (w.alloc (.cells cs T))) (h2 : Turn [g] (w.alloc (.cells cs T)) w1) (hx5 : Turn [g] w1 w2) (hb3 : Below w2.heap.size w2 w3) (h4 : Turn [g] w3 w4) (hr : RdG lo w4 g r) (ht : Turn [w.heap.size] w4 w5) (hq : Ag q (core x) r) :
    EvG lo w g q (.returned (.agg #[.int .i64 x.op, .int .i64 x.n, .string x.s, .string x.q, .slice x.a x.x.length x.c])) w5 := by
  have e3 : ExIn w4 x := ExIn.turn (Tre.ExIn.below hx2 hb3) (b := w1.heap.size) (g := g) hx3 (by omega) h4
  have e5 : ExIn w5 x := ExIn.turn e3 (b := w1.heap.size) (g := w.heap.size) hx3 hw ht
  refine ⟨x, r, by rw [exV_eq], hq, e5, hx3.mono (by omega), hr.but ht hlo, ?_⟩
  have h1 : Turn [g] w w1 := ((Turn.refl [g] w).below hb).then_ h2 (fun k hk => .inl hk)
  exact ((((h1.trans hx5).below hb3).then_ h4 (fun k hk => .inl hk))).then_ ht (fun k hk => by simp at hk; subst hk; exact .inr (Nat.le_refl _))
/-- The end of a call that hands on what another one told. -/
theorem pass_endG {w w1 w2 w5 : World} {g : Nat} {x : Ex} {q : Tx × PS} {r : PS} {cs : Array Value} {T : TypeId} (hw : w.heap.size < w1.heap.size) (hlo : lo ≤ w.heap.size) (hx2 : ExIn w2 x) (hx3 : New w1.heap.size x) (hb : Below w.heap.size w (w.alloc (.cells cs T))) (h2 : Turn [g] (w.alloc (.cells cs T)) w1) (hx5 : Turn [g] w1 w2) (hr : RdG lo w2 g r) (ht : Turn [w.heap.size] w2 w5) (hq : Ag q (core x) r) :
    EvG lo w g q (.returned (.agg #[.int .i64 x.op, .int .i64 x.n, .string x.s, .string x.q, .slice x.a x.x.length x.c])) w5 := by
  have e5 : ExIn w5 x := ExIn.turn hx2 (b := w1.heap.size) (g := w.heap.size) hx3 hw ht
  refine ⟨x, r, by rw [exV_eq], hq, e5, hx3.mono (by omega), hr.but ht hlo, ?_⟩
  have h1 : Turn [g] w w1 := ((Turn.refl [g] w).below hb).then_ h2 (fun k hk => .inl hk)
  exact (h1.trans hx5).then_ ht (fun k hk => by simp at hk; subst hk; exact .inr (Nat.le_refl _))
theorem ag_lenB {j : Job} {r r' : PS} {t : Tx} (h : Ag (tell j r) t r') : lenB r' ≤ lenB r := by
  rcases h with ⟨_, h2⟩ | ⟨h1, _, h3⟩
  · unfold lenB; rw [if_pos h2]; omega
  · have hb : r.bad = false := by
      cases hb : r.bad with
      | false => rfl
      | true => rw [tell_bad hb] at h1; cases h1
    have := tell_lenR j r
    subst h3
    unfold lenR at this
    unfold lenB
    rw [h1, hb] at *
    simp at *
    omega
theorem takeS_size {w : World} {g : Nat} {r : PS} (h : RdG lo w g r) (ks : List Int) : (bs (takeW r ks).s).size ≤ maxLen ∧ (takeW r ks).s.length ≤ 1000000 := by
  have : (takeW r ks).s.length ≤ 1000000 := by
    unfold takeW
    split
    · unfold peek
      split
      · simp [zeroW]
      · cases hl : r.l with
        | nil => simp [zeroW]
        | cons x t => exact (h.txt x (by rw [hl]; simp)).1
    · simp [zeroW]
  refine ⟨?_, this⟩
  rw [Lex.bs_size]
  unfold maxLen
  omega
end Go.Proofs.YtmihlmlojmdhjaaGreatDoor.Prg
/- The program's unary: signs ahead, truths, brackets. Conditions: the reader is known; what it calls does as the plain grammar says. -/
namespace Go.Proofs.YtmihlmlojmdhjaaGreatDoor.Prg
open Go.RowKit Tre Prs
open Lex (Wd wdC wdV bs str Turn)
set_option maxRecDepth 100000
set_option linter.unusedSimpArgs false
variable {lo : Nat}
set_option maxHeartbeats 4000000 in
theorem unary_neg (w : World) (g : Nat) (r : PS) (h : InG lo w g r)  (hi : isW r [45] = true) (CU : ∀ w', InG lo w' g (tl r) → Hid (Calls Tryz.prog 158 #[.pointer (some ⟨g, 0, none⟩)] w' (EvG lo w' g (tell .unary (tl r))))) :
    Calls Tryz.prog 158 #[.pointer (some ⟨g, 0, none⟩)] w (EvG lo w g (tell .unary r)) := by
  have HQ := fun (t : Tx) (r' : PS) (h' : Ag (tell .unary (tl r)) t r') => Lib.hid (ag_neg  hi h')
  have hb := ball_new w #[.int .i64 0, .int .i64 0, .string ⟨#[]⟩, .string ⟨#[]⟩, .slice none 0 0] 42
  have HG := Lib.hid h.rd.lt
  have HB := Lib.hid hb
  have HLO := Lib.hid h.rd.wlo
  have HI := Lib.hid (h.below hb)
  have Y := fun w' (h' : RdG lo w' g r) => Lib.hid (has_yes w' g r [45] h' hi)
  clear h hb  hi
  go_enter Tryz.func158, Tryz.ntmps158
  go_wp2_with fail
  refine (Y _ HI.out.rd).out.mono ?_
  rintro e w1 ⟨rfl, h1, h2⟩
  have H1 := Lib.hid h1
  have H2 := Lib.hid (h2)
  have HW : Hid (w.heap.size < w1.heap.size) := Lib.hid (by have := H2.out.size; simp at this; omega)
  clear h1 h2
  have CU1 := CU w1 (HI.out.step H2.out H1.out)
  go_wp2_with fail
  refine CU1.out.mono ?_
  rintro e w2 ⟨x, r', rfl, hx1, hx2, hx3, hx4, hx5⟩
  have HX1 := Lib.hid hx1
  have HX2 := Lib.hid hx2
  have HX3 := Lib.hid hx3
  have HX4 := Lib.hid hx4
  have HX5 := Lib.hid hx5
  rw [exV_eq]
  have hr1 := res_keep HG.out H2.out
  have hr2 := (hx5.block _ (lt_of_heap hr1) (by have := HG.out; simp; omega)).trans hr1
  have HB3 := Lib.hid (ball_new w2 #[.int .i64 x.op, .int .i64 x.n, .string x.s, .string x.q, .slice x.a x.x.length x.c] 42)
  have HN3 := Lib.hid (new_at w2 #[.int .i64 x.op, .int .i64 x.n, .string x.s, .string x.q, .slice x.a x.x.length x.c] 42)
  have HR3 := Lib.hid ((HB3.out.block _ (lt_of_heap hr2)).trans hr2)
  clear hx1 hx2 hx3 hx4 hx5 hr1 hr2
  obtain ⟨y0, y1, y2, y3, y4⟩ := five_at HR3.out
  have f0 := free_at HR3.out 0
  have f1 := free_at HR3.out 1
  have f2 := free_at HR3.out 2
  have f3 := free_at HR3.out 3
  have f4 := free_at HR3.out 4
  go_wp2_with fail
  have HT := Lib.hid (turn5 (w2.alloc (.cells #[.int .i64 x.op, .int .i64 x.n, .string x.s, .string x.q, .slice x.a x.x.length x.c] 42)) w.heap.size (.int .i64 5) (.int .i64 0) (.string ⟨#[]⟩) (.string ⟨#[]⟩) (.slice (some ⟨w2.heap.size, 0, none⟩) 1 1))
  refine bodyPost_ret (results_expr rfl _ _ w.heap.size _ _ _ _ _ rfl (set5 HR3.out)) rfl ?_
  exact un_endG (op := 5) HW.out HLO.out HX2.out HX3.out HX4.out HB.out H2.out HX5.out HB3.out HN3.out HT.out (HQ _ _ HX1.out).out
set_option maxHeartbeats 4000000 in
theorem unary_bang (w : World) (g : Nat) (r : PS) (h : InG lo w g r) (n0 : isW r [45] = false) (hi : isW r [33] = true) (CU : ∀ w', InG lo w' g (tl r) → Hid (Calls Tryz.prog 158 #[.pointer (some ⟨g, 0, none⟩)] w' (EvG lo w' g (tell .unary (tl r))))) :
    Calls Tryz.prog 158 #[.pointer (some ⟨g, 0, none⟩)] w (EvG lo w g (tell .unary r)) := by
  have HQ := fun (t : Tx) (r' : PS) (h' : Ag (tell .unary (tl r)) t r') => Lib.hid (ag_bang n0 hi h')
  have hb := ball_new w #[.int .i64 0, .int .i64 0, .string ⟨#[]⟩, .string ⟨#[]⟩, .slice none 0 0] 42
  have HG := Lib.hid h.rd.lt
  have HB := Lib.hid hb
  have HLO := Lib.hid h.rd.wlo
  have HI := Lib.hid (h.below hb)
  have N0 := fun w' (h' : RdG lo w' g r) => Lib.hid (has_no w' g r [45] h' n0)
  have Y := fun w' (h' : RdG lo w' g r) => Lib.hid (has_yes w' g r [33] h' hi)
  clear h hb n0 hi
  go_enter Tryz.func158, Tryz.ntmps158
  go_wp2_with fail
  refine (N0 _ HI.out.rd).out.mono ?_
  rintro e v0 ⟨rfl, h1, h2⟩
  have P0 := Lib.hid h1
  have T0 := Lib.hid (h2)
  clear h1 h2
  go_wp2_with fail
  refine (Y _ P0.out).out.mono ?_
  rintro e w1 ⟨rfl, h1, h2⟩
  have H1 := Lib.hid h1
  have H2 := Lib.hid (T0.out.trans h2)
  have HW : Hid (w.heap.size < w1.heap.size) := Lib.hid (by have := H2.out.size; simp at this; omega)
  clear h1 h2
  have CU1 := CU w1 (HI.out.step H2.out H1.out)
  go_wp2_with fail
  refine CU1.out.mono ?_
  rintro e w2 ⟨x, r', rfl, hx1, hx2, hx3, hx4, hx5⟩
  have HX1 := Lib.hid hx1
  have HX2 := Lib.hid hx2
  have HX3 := Lib.hid hx3
  have HX4 := Lib.hid hx4
  have HX5 := Lib.hid hx5
  rw [exV_eq]
  have hr1 := res_keep HG.out H2.out
  have hr2 := (hx5.block _ (lt_of_heap hr1) (by have := HG.out; simp; omega)).trans hr1
  have HB3 := Lib.hid (ball_new w2 #[.int .i64 x.op, .int .i64 x.n, .string x.s, .string x.q, .slice x.a x.x.length x.c] 42)
  have HN3 := Lib.hid (new_at w2 #[.int .i64 x.op, .int .i64 x.n, .string x.s, .string x.q, .slice x.a x.x.length x.c] 42)
  have HR3 := Lib.hid ((HB3.out.block _ (lt_of_heap hr2)).trans hr2)
  clear hx1 hx2 hx3 hx4 hx5 hr1 hr2
  obtain ⟨y0, y1, y2, y3, y4⟩ := five_at HR3.out
  have f0 := free_at HR3.out 0
  have f1 := free_at HR3.out 1
  have f2 := free_at HR3.out 2
  have f3 := free_at HR3.out 3
  have f4 := free_at HR3.out 4
  go_wp2_with fail
  have HT := Lib.hid (turn5 (w2.alloc (.cells #[.int .i64 x.op, .int .i64 x.n, .string x.s, .string x.q, .slice x.a x.x.length x.c] 42)) w.heap.size (.int .i64 6) (.int .i64 0) (.string ⟨#[]⟩) (.string ⟨#[]⟩) (.slice (some ⟨w2.heap.size, 0, none⟩) 1 1))
  refine bodyPost_ret (results_expr rfl _ _ w.heap.size _ _ _ _ _ rfl (set5 HR3.out)) rfl ?_
  exact un_endG (op := 6) HW.out HLO.out HX2.out HX3.out HX4.out HB.out H2.out HX5.out HB3.out HN3.out HT.out (HQ _ _ HX1.out).out
set_option maxHeartbeats 4000000 in
theorem unary_true (w : World) (g : Nat) (r : PS) (h : InG lo w g r) (n0 : isW r [45] = false) (n1 : isW r [33] = false) (hi : isW r [116, 114, 117, 101] = true) :
    Calls Tryz.prog 158 #[.pointer (some ⟨g, 0, none⟩)] w (EvG lo w g (tell .unary r)) := by
  have HQ := Lib.hid (ag_true n0 n1 hi)
  have hb := ball_new w #[.int .i64 0, .int .i64 0, .string ⟨#[]⟩, .string ⟨#[]⟩, .slice none 0 0] 42
  have HG := Lib.hid h.rd.lt
  have HB := Lib.hid hb
  have HLO := Lib.hid h.rd.wlo
  have HI := Lib.hid (h.below hb)
  have N0 := fun w' (h' : RdG lo w' g r) => Lib.hid (has_no w' g r [45] h' n0)
  have N1 := fun w' (h' : RdG lo w' g r) => Lib.hid (has_no w' g r [33] h' n1)
  have Y := fun w' (h' : RdG lo w' g r) => Lib.hid (has_yes w' g r [116, 114, 117, 101] h' hi)
  clear h hb n0 n1 hi
  have CT := Lib.hid (fun w' => truth_any w' 1)
  go_enter Tryz.func158, Tryz.ntmps158
  go_wp2_with fail
  refine (N0 _ HI.out.rd).out.mono ?_
  rintro e v0 ⟨rfl, h1, h2⟩
  have P0 := Lib.hid h1
  have T0 := Lib.hid (h2)
  clear h1 h2
  go_wp2_with fail
  refine (N1 _ P0.out).out.mono ?_
  rintro e v1 ⟨rfl, h1, h2⟩
  have P1 := Lib.hid h1
  have T1 := Lib.hid (T0.out.trans h2)
  clear h1 h2
  go_wp2_with fail
  refine (Y _ P1.out).out.mono ?_
  rintro e w1 ⟨rfl, h1, h2⟩
  have H1 := Lib.hid h1
  have H2 := Lib.hid (T1.out.trans h2)
  have HW : Hid (w.heap.size < w1.heap.size) := Lib.hid (by have := H2.out.size; simp at this; omega)
  clear h1 h2
  go_wp2_with fail
  refine (CT.out _).mono ?_
  rintro e w2 ⟨rfl, hb2⟩
  have HB2 := Lib.hid hb2
  have H3 := Lib.hid (H2.out.below hb2)
  clear hb2
  have HR1 := Lib.hid (res_keep HG.out H3.out)
  obtain ⟨y0, y1, y2, y3, y4⟩ := five_at HR1.out
  have f0 := free_at HR1.out 0
  have f1 := free_at HR1.out 1
  have f2 := free_at HR1.out 2
  have f3 := free_at HR1.out 3
  have f4 := free_at HR1.out 4
  go_wp2_with fail
  have HT := Lib.hid (turn5 w2 w.heap.size (.int .i64 2) (.int .i64 1) (.string ⟨#[]⟩) (.string ⟨#[]⟩) (.slice none 0 0))
  refine bodyPost_ret (results_expr rfl _ _ w.heap.size _ _ _ _ _ rfl (set5 HR1.out)) rfl ?_
  exact leaf_endG HLO.out (by show (⟨#[]⟩ : ByteArray).size ≤ maxLen; unfold maxLen; simp [ByteArray.size]) (H1.out.below HB2.out) HB.out H3.out HT.out HQ.out
set_option maxHeartbeats 4000000 in
theorem unary_false (w : World) (g : Nat) (r : PS) (h : InG lo w g r) (n0 : isW r [45] = false) (n1 : isW r [33] = false) (n2 : isW r [116, 114, 117, 101] = false) (hi : isW r [102, 97, 108, 115, 101] = true) :
    Calls Tryz.prog 158 #[.pointer (some ⟨g, 0, none⟩)] w (EvG lo w g (tell .unary r)) := by
  have HQ := Lib.hid (ag_false n0 n1 n2 hi)
  have hb := ball_new w #[.int .i64 0, .int .i64 0, .string ⟨#[]⟩, .string ⟨#[]⟩, .slice none 0 0] 42
  have HG := Lib.hid h.rd.lt
  have HB := Lib.hid hb
  have HLO := Lib.hid h.rd.wlo
  have HI := Lib.hid (h.below hb)
  have N0 := fun w' (h' : RdG lo w' g r) => Lib.hid (has_no w' g r [45] h' n0)
  have N1 := fun w' (h' : RdG lo w' g r) => Lib.hid (has_no w' g r [33] h' n1)
  have N2 := fun w' (h' : RdG lo w' g r) => Lib.hid (has_no w' g r [116, 114, 117, 101] h' n2)
  have Y := fun w' (h' : RdG lo w' g r) => Lib.hid (has_yes w' g r [102, 97, 108, 115, 101] h' hi)
  clear h hb n0 n1 n2 hi
  have CT := Lib.hid (fun w' => truth_any w' 0)
  go_enter Tryz.func158, Tryz.ntmps158
  go_wp2_with fail
  refine (N0 _ HI.out.rd).out.mono ?_
  rintro e v0 ⟨rfl, h1, h2⟩
  have P0 := Lib.hid h1
  have T0 := Lib.hid (h2)
  clear h1 h2
  go_wp2_with fail
  refine (N1 _ P0.out).out.mono ?_
  rintro e v1 ⟨rfl, h1, h2⟩
  have P1 := Lib.hid h1
  have T1 := Lib.hid (T0.out.trans h2)
  clear h1 h2
  go_wp2_with fail
  refine (N2 _ P1.out).out.mono ?_
  rintro e v2 ⟨rfl, h1, h2⟩
  have P2 := Lib.hid h1
  have T2 := Lib.hid (T1.out.trans h2)
  clear h1 h2
  go_wp2_with fail
  refine (Y _ P2.out).out.mono ?_
  rintro e w1 ⟨rfl, h1, h2⟩
  have H1 := Lib.hid h1
  have H2 := Lib.hid (T2.out.trans h2)
  have HW : Hid (w.heap.size < w1.heap.size) := Lib.hid (by have := H2.out.size; simp at this; omega)
  clear h1 h2
  go_wp2_with fail
  refine (CT.out _).mono ?_
  rintro e w2 ⟨rfl, hb2⟩
  have HB2 := Lib.hid hb2
  have H3 := Lib.hid (H2.out.below hb2)
  clear hb2
  have HR1 := Lib.hid (res_keep HG.out H3.out)
  obtain ⟨y0, y1, y2, y3, y4⟩ := five_at HR1.out
  have f0 := free_at HR1.out 0
  have f1 := free_at HR1.out 1
  have f2 := free_at HR1.out 2
  have f3 := free_at HR1.out 3
  have f4 := free_at HR1.out 4
  go_wp2_with fail
  have HT := Lib.hid (turn5 w2 w.heap.size (.int .i64 2) (.int .i64 0) (.string ⟨#[]⟩) (.string ⟨#[]⟩) (.slice none 0 0))
  refine bodyPost_ret (results_expr rfl _ _ w.heap.size _ _ _ _ _ rfl (set5 HR1.out)) rfl ?_
  exact leaf_endG HLO.out (by show (⟨#[]⟩ : ByteArray).size ≤ maxLen; unfold maxLen; simp [ByteArray.size]) (H1.out.below HB2.out) HB.out H3.out HT.out HQ.out
set_option maxHeartbeats 4000000 in
theorem unary_par (w : World) (g : Nat) (r : PS) (h : InG lo w g r) (n0 : isW r [45] = false) (n1 : isW r [33] = false) (n2 : isW r [116, 114, 117, 101] = false) (n3 : isW r [102, 97, 108, 115, 101] = false) (hi : isW r [40] = true) (CR : ∀ w', InG lo w' g (tl r) → Hid (Calls Tryz.prog 143 #[.pointer (some ⟨g, 0, none⟩)] w' (EvG lo w' g (tell (.row 0) (tl r))))) :
    Calls Tryz.prog 158 #[.pointer (some ⟨g, 0, none⟩)] w (EvG lo w g (tell .unary r)) := by
  have HQ := fun (t : Tx) (r' : PS) (h' : Ag (tell (.row 0) (tl r)) t r') => Lib.hid (ag_par n0 n1 n2 n3 hi h')
  have hb := ball_new w #[.int .i64 0, .int .i64 0, .string ⟨#[]⟩, .string ⟨#[]⟩, .slice none 0 0] 42
  have HG := Lib.hid h.rd.lt
  have HB := Lib.hid hb
  have HLO := Lib.hid h.rd.wlo
  have HI := Lib.hid (h.below hb)
  have N0 := fun w' (h' : RdG lo w' g r) => Lib.hid (has_no w' g r [45] h' n0)
  have N1 := fun w' (h' : RdG lo w' g r) => Lib.hid (has_no w' g r [33] h' n1)
  have N2 := fun w' (h' : RdG lo w' g r) => Lib.hid (has_no w' g r [116, 114, 117, 101] h' n2)
  have N3 := fun w' (h' : RdG lo w' g r) => Lib.hid (has_no w' g r [102, 97, 108, 115, 101] h' n3)
  have Y := fun w' (h' : RdG lo w' g r) => Lib.hid (has_yes w' g r [40] h' hi)
  clear h hb n0 n1 n2 n3 hi
  go_enter Tryz.func158, Tryz.ntmps158
  go_wp2_with fail
  refine (N0 _ HI.out.rd).out.mono ?_
  rintro e v0 ⟨rfl, h1, h2⟩
  have P0 := Lib.hid h1
  have T0 := Lib.hid (h2)
  clear h1 h2
  go_wp2_with fail
  refine (N1 _ P0.out).out.mono ?_
  rintro e v1 ⟨rfl, h1, h2⟩
  have P1 := Lib.hid h1
  have T1 := Lib.hid (T0.out.trans h2)
  clear h1 h2
  go_wp2_with fail
  refine (N2 _ P1.out).out.mono ?_
  rintro e v2 ⟨rfl, h1, h2⟩
  have P2 := Lib.hid h1
  have T2 := Lib.hid (T1.out.trans h2)
  clear h1 h2
  go_wp2_with fail
  refine (N3 _ P2.out).out.mono ?_
  rintro e v3 ⟨rfl, h1, h2⟩
  have P3 := Lib.hid h1
  have T3 := Lib.hid (T2.out.trans h2)
  clear h1 h2
  go_wp2_with fail
  refine (Y _ P3.out).out.mono ?_
  rintro e w1 ⟨rfl, h1, h2⟩
  have H1 := Lib.hid h1
  have H2 := Lib.hid (T3.out.trans h2)
  have HW : Hid (w.heap.size < w1.heap.size) := Lib.hid (by have := H2.out.size; simp at this; omega)
  clear h1 h2
  have CR1 := CR w1 (HI.out.step H2.out H1.out)
  go_wp2_with fail
  refine CR1.out.mono ?_
  rintro e w2 ⟨x, r', rfl, hx1, hx2, hx3, hx4, hx5⟩
  have HX1 := Lib.hid hx1
  have HX2 := Lib.hid hx2
  have HX3 := Lib.hid hx3
  have HX4 := Lib.hid hx4
  have HX5 := Lib.hid hx5
  rw [exV_eq]
  have hr1 := res_keep HG.out H2.out
  have hr2 := (hx5.block _ (lt_of_heap hr1) (by have := HG.out; simp; omega)).trans hr1
  have HB3 := Lib.hid (ball_new w2 #[.int .i64 x.op, .int .i64 x.n, .string x.s, .string x.q, .slice x.a x.x.length x.c] 42)
  have HN3 := Lib.hid (new_at w2 #[.int .i64 x.op, .int .i64 x.n, .string x.s, .string x.q, .slice x.a x.x.length x.c] 42)
  have HR3 := Lib.hid ((HB3.out.block _ (lt_of_heap hr2)).trans hr2)
  have CM := Lib.hid (must_any _ g r' [41] (hx4.below HB3.out))
  have HG2 : Hid (g < w2.heap.size) := Lib.hid hx4.lt
  clear hx1 hx2 hx3 hx4 hx5 hr1 hr2
  go_wp2_with fail
  refine CM.out.mono ?_
  rintro e w4 ⟨rfl, h1, h2⟩
  have G1 := Lib.hid h1
  have G2 := Lib.hid h2
  have HR4 := Lib.hid ((h2.block _ (lt_of_heap HR3.out) (by have := HG.out; simp; omega)).trans HR3.out)
  have hn4 := (h2.block _ (lt_of_heap HN3.out) (by have := HG2.out; simp; omega)).trans HN3.out
  obtain ⟨q0, q1, q2, q3, q4⟩ := five_at hn4
  clear h1 h2 hn4 CM
  obtain ⟨y0, y1, y2, y3, y4⟩ := five_at HR4.out
  have f0 := free_at HR4.out 0
  have f1 := free_at HR4.out 1
  have f2 := free_at HR4.out 2
  have f3 := free_at HR4.out 3
  have f4 := free_at HR4.out 4
  go_wp2_with fail
  have HT := Lib.hid (turn5 w4 w.heap.size (.int .i64 x.op) (.int .i64 x.n) (.string x.s) (.string x.q) (.slice x.a x.x.length x.c))
  refine bodyPost_ret (results_expr rfl _ _ w.heap.size _ _ _ _ _ rfl (set5 HR4.out)) rfl ?_
  exact on_endG HW.out HLO.out HG.out HX2.out HX3.out HB.out H2.out HX5.out HB3.out G2.out G1.out HT.out (HQ _ _ HX1.out).out
end Go.Proofs.YtmihlmlojmdhjaaGreatDoor.Prg
