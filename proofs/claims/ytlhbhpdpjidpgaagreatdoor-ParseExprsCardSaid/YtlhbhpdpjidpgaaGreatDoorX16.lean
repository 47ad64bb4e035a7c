/-
  The document's row: a row of ops of one level. Conditions: the reader is known; the row of the next level does as the plain grammar says.
-/
import Derived.Test.YtlhbhpdpjidpgaaGreatDoorX02
import Derived.Test.YtlhbhpdpjidpgaaGreatDoorX05
import Derived.Test.YtlhbhpdpjidpgaaGreatDoorX14
import Derived.Test.YtlhbhpdpjidpgaaGreatDoorX15
namespace Go.Proofs.YtlhbhpdpjidpgaaGreatDoor.Prs
open Go.RowKit Tre
open Lex (Wd wdC wdV bs str Turn)
set_option maxRecDepth 100000
set_option linter.unusedSimpArgs false
variable {lo : Nat}
/-- No row of the tree lies in the blocks S. -/
def Off (S : List Nat) (x : Ex) : Prop := ∀ y ∈ flat x, 0 < y.x.length → ∀ b o, y.a = some ⟨b, o, none⟩ → b ∉ S
theorem ExIn.off {S : List Nat} {w w' : World} {x : Ex} (h : ExIn w x) (ho : Off S x) (ht : Turn S w w') : ExIn w' x := fun y hy => by
  have hn := h y hy
  exact ⟨fun h0 => Row.kept hn.row ht.size (fun b' o e hlt => ht.block b' hlt (ho y hy h0 _ _ e)) h0, hn.len, hn.cap, hn.s, hn.q⟩
theorem New.off {b : Nat} {S : List Nat} {x : Ex} (h : New b x) (hs : ∀ k ∈ S, k < b) : Off S x := fun y hy _ c o e hm => by
  have h1 := h y hy _ e
  have h2 := hs _ hm
  simp only at h1
  omega
theorem ExIn.fresh {w : World} {x : Ex} (h : ExIn w x) : Off [w.heap.size] x := fun y hy h0 b o e hm => by
  obtain ⟨b', o', e', hlt, _⟩ := (h y hy).row h0
  rw [e] at e'
  injection e' with e'
  injection e' with e1
  simp at hm
  omega
/-- What the loop knows. -/
structure RowAt (lo : Nat) (w wr : World) (g xb sb k0 k : Nat) (r r' : PS) (x : Ex) : Prop where
  rd : RdM lo wr g r'
  ein : ExIn wr x
  new : New (w.heap.size + 1) x
  off : Off [xb] x
  atx : wr.heap[xb]? = some (.cells #[.int .i64 x.op, .int .i64 x.n, .string x.s, .string x.q, .slice x.a x.x.length x.c] 36 (0, 0))
  res : wr.heap[w.heap.size]? = some (.cells #[.int .i64 0, .int .i64 0, .string ⟨#[]⟩, .string ⟨#[]⟩, .slice none 0 0] 36 (0, 0))
  sg : wr.heap[sb]? = some (.cells (signsV k0) 9 (0, 0))
  op : wr.heap[sb + 1]? = some (.cells (opsV k0) 3 (0, 0))
  turn : Turn [g] w wr
  told : tell (.row k0) r = tell (.rest k0 (core x)) r'
  len : lenR r' ≤ lenR r
  no : ∀ p ∈ (level k0).take k, isW r' p.1 = false
theorem rest_out {k0 k : Nat} {r r' : PS} {t : Tx} (h : tell (.row k0) r = tell (.rest k0 t) r') (hk : (level k0).length ≤ k) (no : ∀ p ∈ (level k0).take k, isW r' p.1 = false) : tell (.row k0) r = (t, r') := by
  rw [h, tell_rest]
  split
  · rfl
  · have : (level k0).find? (fun p => isW r' p.1) = none := List.find?_eq_none.2 fun p hp => by
      rw [List.take_of_length_le hk] at no
      simp [no p hp]
    rw [this]
theorem rest_bad {k0 : Nat} {r r' : PS} {t : Tx} (h : tell (.row k0) r = tell (.rest k0 t) r') (hb : r'.bad = true) : tell (.row k0) r = (t, r') := by
  rw [h, tell_rest, if_pos hb]
theorem rest_go {k0 k : Nat} {r r' : PS} {t : Tx} {p : List UInt8 × Int} (h : tell (.row k0) r = tell (.rest k0 t) r') (hp : (level k0)[k]? = some p) (no : ∀ p ∈ (level k0).take k, isW r' p.1 = false) (hi : isW r' p.1 = true) :
    tell (.row k0) r = tell (.rest k0 (.mk p.2 0 [] [] [t, (tell (.row (k0 + 1)) (tl r')).1])) (tell (.row (k0 + 1)) (tl r')).2 := by
  have hb := (isW_pos hi).2
  rw [h, tell_rest, if_neg (by simp [hb])]
  have hf : (level k0).find? (fun p => isW r' p.1) = some p := by
    obtain ⟨hlt, he⟩ := List.getElem?_eq_some_iff.1 hp
    have e : level k0 = (level k0).take k ++ p :: (level k0).drop (k + 1) := by
      rw [← he, List.getElem_cons_drop, List.take_append_drop]
    rw [e, List.find?_append, List.find?_eq_none.2 (fun q hq => by simp [no q hq])]
    simp [hi]
  rw [hf]
theorem level_len (k : Nat) : 1 ≤ (level k).length ∧ (level k).length ≤ 6 := by
  unfold level
  split
  · simp
  split
  · simp
  split
  · simp
  split <;> simp
/-- How far the reader has to go. -/
def remW (w : World) (g : Nat) : Nat := match w.cell? ⟨g, 1, none⟩, w.cell? ⟨g, 0, none⟩ with
  | some (.bool false), some (.slice _ n _) => n
  | _, _ => 0
theorem RdM.rem {w : World} {g : Nat} {r : PS} (h : RdM lo w g r) : remW w g = lenR r := by
  obtain ⟨a, c, h1, _⟩ := h.at_
  have c0 := cell_at h1 0
  have c1 := cell_at h1 1
  simp only [List.getElem?_toArray, List.getElem?_cons_succ, List.getElem?_cons_zero] at c0 c1
  unfold remW lenR
  rw [c0, c1]
  cases r.bad <;> rfl
theorem sign_at {w : World} {sb k0 k : Nat} {p : List UInt8 × Int} (h : w.heap[sb]? = some (.cells (signsV k0) 9 (0, 0))) (hp : (level k0)[k]? = some p) : w.cell? ⟨sb, k, none⟩ = some (.string (bs p.1)) := by
  rw [cell_at h]
  simp [signsV, hp]
theorem op_at {w : World} {sb k0 k : Nat} {p : List UInt8 × Int} (h : w.heap[sb]? = some (.cells (opsV k0) 3 (0, 0))) (hp : (level k0)[k]? = some p) : w.cell? ⟨sb, k, none⟩ = some (.int .i64 p.2) := by
  rw [cell_at h]
  simp [opsV, hp]
theorem row_end {w wr w4 : World} {g xb sb k0 k : Nat} {r r' : PS} {x : Ex} (h : RowAt lo w wr g xb sb k0 k r r' x) (hlo : lo ≤ w.heap.size) (ht : Turn [w.heap.size] wr w4) (ho : tell (.row k0) r = (core x, r')) :
    Ev lo w g (tell (.row k0) r) (.returned (.agg #[.int .i64 x.op, .int .i64 x.n, .string x.s, .string x.q, .slice x.a x.x.length x.c])) w4 := by
  rw [ho]
  exact ⟨x, by rw [exV_eq], rfl, ExIn.off h.ein (New.off h.new (fun k hk => by simp at hk; omega)) ht, h.new.mono (by omega), h.rd.but ht hlo, h.turn.then_ ht (fun k hk => by simp at hk; subst hk; exact .inr (Nat.le_refl _))⟩
theorem ten_eq (x y : Ex) : (#[.int .i64 x.op, .int .i64 x.n, .string x.s, .string x.q, .slice x.a x.x.length x.c, .int .i64 y.op, .int .i64 y.n, .string y.s, .string y.q, .slice y.a y.x.length y.c] : Array Value) = (exC x ++ exC y).toArray := by
  cases x
  cases y
  rfl
theorem exC_len (x : Ex) : (exC x).length = 5 := by
  cases x
  rfl
theorem two_in {w : World} {x y : Ex} {b : Nat} {op : Int} (hx : ExIn w x) (hy : ExIn w y) (hb : w.heap[b]? = some (.cells #[.int .i64 x.op, .int .i64 x.n, .string x.s, .string x.q, .slice x.a x.x.length x.c, .int .i64 y.op, .int .i64 y.n, .string y.s, .string y.q, .slice y.a y.x.length y.c] 36 (0, 0))) : ExIn w (.mk op 0 ⟨#[]⟩ ⟨#[]⟩ (some ⟨b, 0, none⟩) 2 [x, y]) := by
  rw [ten_eq] at hb
  refine ExIn.mk ⟨fun _ => ⟨b, 0, rfl, lt_of_heap hb, fun j z hz r u hu => ?_⟩, by simp [Ex.x, most], by simp [Ex.x, Ex.c], ?_, ?_⟩ (fun z hz => ?_)
  · have hr : r < 5 := by have := (List.getElem?_eq_some_iff.1 hu).1; rw [exC_len] at this; exact this
    rw [cell_at hb]
    match j, hz with
    | 0, hz =>
      obtain rfl : x = z := by simpa [Ex.x] using hz
      simp [List.getElem?_append, exC_len, hr]
      exact (List.getElem?_eq_some_iff.1 hu).2
    | 1, hz =>
      obtain rfl : y = z := by simpa [Ex.x] using hz
      have e : 0 + 1 * 5 + r = 5 + r := by omega
      rw [e]
      simp [List.getElem?_append, exC_len, hu]
    | j + 2, hz => simp [Ex.x] at hz
  · show (⟨#[]⟩ : ByteArray).size ≤ maxLen; unfold maxLen; simp [ByteArray.size]
  · show (⟨#[]⟩ : ByteArray).size ≤ maxLen; unfold maxLen; simp [ByteArray.size]
  · have : z = x ∨ z = y := by simpa [Ex.x] using hz
    rcases this with rfl | rfl
    · exact hx
    · exact hy
theorem two_mem {x y z : Ex} {b : Nat} {op : Int} (h : z ∈ flat (.mk op 0 ⟨#[]⟩ ⟨#[]⟩ (some ⟨b, 0, none⟩) 2 [x, y])) : z = .mk op 0 ⟨#[]⟩ ⟨#[]⟩ (some ⟨b, 0, none⟩) 2 [x, y] ∨ z ∈ flat x ∨ z ∈ flat y := by
  rw [flat_eq] at h
  simpa [flatL, Ex.x] using h
theorem two_new {g b : Nat} {x y : Ex} {op : Int} (hx : New g x) (hy : New g y) (hb : g ≤ b) : New g (.mk op 0 ⟨#[]⟩ ⟨#[]⟩ (some ⟨b, 0, none⟩) 2 [x, y]) := fun z hz ad e => by
  rcases two_mem hz with rfl | hz | hz
  · injection e with e
    subst e
    exact hb
  · exact hx z hz ad e
  · exact hy z hz ad e
theorem two_off {S : List Nat} {b : Nat} {x y : Ex} {op : Int} (hx : Off S x) (hy : Off S y) (hb : b ∉ S) : Off S (.mk op 0 ⟨#[]⟩ ⟨#[]⟩ (some ⟨b, 0, none⟩) 2 [x, y]) := fun z hz h0 c o e => by
  rcases two_mem hz with rfl | hz | hz
  · injection e with e
    injection e with e
    subst e
    exact hb
  · exact hx z hz h0 c o e
  · exact hy z hz h0 c o e
/-- What is known in the midst of a round. -/
structure Mid (lo : Nat) (w u : World) (g xb yb k0 : Nat) (x y : Ex) (r : PS) (p : List UInt8 × Int) (k : Nat) : Prop where
  rd : RdM lo u g r
  xin : ExIn u x
  yin : ExIn u y
  atx : u.heap[xb]? = some (.cells #[.int .i64 x.op, .int .i64 x.n, .string x.s, .string x.q, .slice x.a x.x.length x.c] 36 (0, 0))
  aty : u.heap[yb]? = some (.cells #[.int .i64 y.op, .int .i64 y.n, .string y.s, .string y.q, .slice y.a y.x.length y.c] 36 (0, 0))
  res : u.heap[w.heap.size]? = some (.cells #[.int .i64 0, .int .i64 0, .string ⟨#[]⟩, .string ⟨#[]⟩, .slice none 0 0] 36 (0, 0))
  sg : u.heap[xb + 1]? = some (.cells (signsV k0) 9 (0, 0))
  op : u.heap[xb + 1 + 1]? = some (.cells (opsV k0) 3 (0, 0))
  at_ : (level k0)[k]? = some p
  turn : Turn [g] w u
theorem Mid.below {w u u' : World} {g xb yb k0 k : Nat} {x y : Ex} {r : PS} {p : List UInt8 × Int} (h : Mid lo w u g xb yb k0 x y r p k) (hb : Below u.heap.size u u') : Mid lo w u' g xb yb k0 x y r p k :=
  ⟨h.rd.below hb, Tre.ExIn.below h.xin hb, Tre.ExIn.below h.yin hb, (hb.block _ (lt_of_heap h.atx)).trans h.atx, (hb.block _ (lt_of_heap h.aty)).trans h.aty, (hb.block _ (lt_of_heap h.res)).trans h.res, (hb.block _ (lt_of_heap h.sg)).trans h.sg, (hb.block _ (lt_of_heap h.op)).trans h.op, h.at_, h.turn.below hb⟩
set_option maxHeartbeats 4000000 in
theorem row_any (w : World) (g : Nat) (r : PS) (k0 : Nat) (hk0 : k0 ≤ 4) (h : RdM lo w g r)
    (CR : ∀ w' r', RdM lo w' g r' → lenR r' ≤ lenR r → Hid (Calls Tryz.prog 32 #[.pointer (some ⟨g, 0, none⟩), .int .i64 ((k0 : Int) + 1)] w' (Ev lo w' g (tell (.row (k0 + 1)) r')))) :
    Calls Tryz.prog 32 #[.pointer (some ⟨g, 0, none⟩), .int .i64 k0] w (Ev lo w g (tell (.row k0) r)) := by
  have hb := ball_new w #[.int .i64 0, .int .i64 0, .string ⟨#[]⟩, .string ⟨#[]⟩, .slice none 0 0] 36
  have HN := Lib.hid (new_at w #[.int .i64 0, .int .i64 0, .string ⟨#[]⟩, .string ⟨#[]⟩, .slice none 0 0] 36)
  have HG := Lib.hid h.lt
  have HB := Lib.hid hb
  have HLO := Lib.hid h.wlo
  have HGL := Lib.hid h.glo
  have C0 := CR _ _ (h.below hb) (Nat.le_refl _)
  have HCR := Lib.hid CR
  clear h hb CR
  have HLN := Lib.hid (level_len k0)
  have HLL := Lib.hid (fun w' => level_any w' k0 hk0)
  obtain ⟨n, hn⟩ : ∃ n, (level k0).length = n := ⟨_, rfl⟩
  have HNN := Lib.hid hn
  have hn6 : n ≤ 6 := by have := HLN.out; omega
  have hn1 : 1 ≤ n := by have := HLN.out; omega
  unfold LevR at HLL
  rw [hn] at HLL
  clear hn
  have HPP : Hid (tell (.row k0) r = tell (.rest k0 (tell (.row (k0 + 1)) r).1) (tell (.row (k0 + 1)) r).2) := Lib.hid (tell_row hk0)
  go_enter Tryz.func32, Tryz.ntmps32
  go_wp2_with fail
  refine C0.out.mono ?_
  rintro e w1 ⟨x, rfl, hx1, hx2, hx3, hx4, hx5⟩
  rw [exV_eq]
  have HX1 := Lib.hid hx1
  have HX2 := Lib.hid hx2
  have HX3 := Lib.hid hx3
  have HX4 := Lib.hid hx4
  have HX5 := Lib.hid hx5
  have HB1 := Lib.hid (ball_new w1 #[.int .i64 x.op, .int .i64 x.n, .string x.s, .string x.q, .slice x.a x.x.length x.c] 36)
  have HN1 := Lib.hid (new_at w1 #[.int .i64 x.op, .int .i64 x.n, .string x.s, .string x.q, .slice x.a x.x.length x.c] 36)
  clear hx1 hx2 hx3 hx4 hx5
  go_wp2_with fail
  refine (HLL.out _).mono ?_
  rintro e w2 ⟨rfl, hb2, hs2, ho2⟩
  have HB2 := Lib.hid hb2
  have HS2 := Lib.hid hs2
  have HO2 := Lib.hid ho2
  clear hb2 hs2 ho2
  go_wp2_with fail
  have START : Hid (RowAt lo w w2 g w1.heap.size (w1.heap.size + 1) k0 0 r (tell (.row (k0 + 1)) r).2 x) := Lib.hid (by
    have s1 : w.heap.size < w1.heap.size := by have := HX5.out.size; simp at this; omega
    have e1 : (w1.alloc (.cells #[.int .i64 x.op, .int .i64 x.n, .string x.s, .string x.q, .slice x.a x.x.length x.c] 36)).heap.size = w1.heap.size + 1 := by simp
    have e0 : (w.alloc (.cells #[.int .i64 0, .int .i64 0, .string ⟨#[]⟩, .string ⟨#[]⟩, .slice none 0 0] 36)).heap.size = w.heap.size + 1 := by simp
    have hs := HS2.out
    have ho := HO2.out
    have hn := HX3.out
    rw [e1] at hs ho
    rw [e0] at hn
    have hg := HG.out
    have r1 : w1.heap[w.heap.size]? = _ := (HX5.out.block _ (by simp) (by simp; omega)).trans HN.out
    have r2 := (HB1.out.block _ (lt_of_heap r1)).trans r1
    exact ⟨(HX4.out.below HB1.out).below HB2.out, Tre.ExIn.below (Tre.ExIn.below HX2.out HB1.out) HB2.out, hn, ExIn.fresh HX2.out, (HB2.out.block _ (lt_of_heap HN1.out)).trans HN1.out, (HB2.out.block _ (lt_of_heap r2)).trans r2, hs, ho,
      ((((Turn.refl [g] w).below HB.out).then_ HX5.out (fun k hk => .inl hk)).below HB1.out).below HB2.out, by rw [HX1.out]; exact HPP.out, tell_lenR _ _, by simp⟩)
  have HXB : Hid (w.heap.size < w1.heap.size) := Lib.hid (by have := HX5.out.size; simp at this; omega)
  clear HN C0 HLL HPP HX1 HX2 HX3 HX4 HX5 HB1 HN1 HB2 HS2 HO2
  generalize (tell (.row (k0 + 1)) r).2 = r1 at START
  generalize w1.heap.size = xb at *
  go_loopw [8] (fun i wr => ∃ (k : Nat) (r' : PS) (y : Ex), i = .int .i64 k ∧ k ≤ n ∧ Hid (RowAt lo w wr g xb (xb + 1) k0 k r r' y)) (fun i wr => 8 * remW wr g + (8 - (intOf i).toNat))
  case atStart => exact ⟨0, r1, x, rfl, Nat.zero_le _, START⟩
  case round =>
    clear START
    obtain ⟨k, r', x, rfl, hk, HR⟩ := hrel
    obtain ⟨y0, y1, y2, y3, y4⟩ := five_at HR.out.res
    have f0 := free_at HR.out.res 0
    have f1 := free_at HR.out.res 1
    have f2 := free_at HR.out.res 2
    have f3 := free_at HR.out.res 3
    have f4 := free_at HR.out.res 4
    obtain ⟨x0, x1, x2, x3, x4⟩ := five_at HR.out.atx
    have HT := Lib.hid (turn5 wr w.heap.size (.int .i64 x.op) (.int .i64 x.n) (.string x.s) (.string x.q) (.slice x.a x.x.length x.c))
    rcases Nat.lt_or_ge k n with hlt | hge
    · obtain ⟨a, c, hrd, -⟩ := HR.out.rd.at_
      have b1 := cell_at hrd 1
      simp only [List.getElem?_toArray, List.getElem?_cons_succ, List.getElem?_cons_zero] at b1
      clear hrd
      rcases Bool.eq_false_or_eq_true r'.bad with hbad | hbad
      · rw [hbad] at b1
        have HO := Lib.hid (rest_bad HR.out.told hbad)
        clear hbad
        go_wp2_with fail
        refine bodyPost_ret (results_expr rfl _ _ w.heap.size _ _ _ _ _ rfl (set5 HR.out.res)) rfl ?_
        exact row_end HR.out HLO.out HT.out HO.out
      · rw [hbad] at b1
        obtain ⟨p, hp⟩ : ∃ p, (level k0)[k]? = some p := ⟨_, List.getElem?_eq_getElem (by rw [HNN.out]; exact hlt)⟩
        have s1 := sign_at HR.out.sg hp
        have HP := Lib.hid hp
        clear hp HT y0 y1 y2 y3 y4 f0 f1 f2 f3 f4 x0 x1 x2 x3 x4
        rcases Bool.eq_false_or_eq_true (isW r' p.1) with hi | hi
        · have CS := Lib.hid (skip_yes wr g r' p.1 HR.out.rd hi)
          have HI := Lib.hid hi
          clear hi hbad
          go_wp2_with fail
          refine CS.out.mono ?_
          rintro e v1 ⟨rfl, h1, h2⟩
          have CY := HCR.out v1 (tl r') h1 (by rw [lenR_tl]; have := HR.out.len; omega)
          have H2 := Lib.hid h2
          clear h1 h2 b1 s1 CS
          go_wp2_with fail
          refine CY.out.mono ?_
          rintro e v2 ⟨y, rfl, hy1, hy2, hy3, hy4, hy5⟩
          rw [exV_eq]
          have HY1 := Lib.hid hy1
          have HY2 := Lib.hid hy2
          have HY3 := Lib.hid hy3
          have HY4 := Lib.hid hy4
          have HY5 := Lib.hid hy5
          clear hy1 hy2 hy3 hy4 hy5 CY
          go_wp2_with fail
          have HB3 := Lib.hid (ball_new v2 #[.int .i64 y.op, .int .i64 y.n, .string y.s, .string y.q, .slice y.a y.x.length y.c] 36)
          have HN3 := Lib.hid (new_at v2 #[.int .i64 y.op, .int .i64 y.n, .string y.s, .string y.q, .slice y.a y.x.length y.c] 36)
          have HM : Hid (Mid lo w (v2.alloc (.cells #[.int .i64 y.op, .int .i64 y.n, .string y.s, .string y.q, .slice y.a y.x.length y.c] 36)).drew g xb v2.heap.size k0 x y (tell (.row (k0 + 1)) (tl r')).2 p k) := Lib.hid (by
            have hg := HG.out
            have hx := HXB.out
            have ht : Turn [g] wr v2 := H2.out.trans HY5.out
            have q : ∀ b o, b ≠ g → wr.heap[b]? = some o → (v2.alloc (.cells #[.int .i64 y.op, .int .i64 y.n, .string y.s, .string y.q, .slice y.a y.x.length y.c] 36)).heap[b]? = some o := fun b o hb h => by
              have h2 : v2.heap[b]? = some o := (ht.block b (lt_of_heap h) (by simp; omega)).trans h
              exact (HB3.out.block b (lt_of_heap h2)).trans h2
            exact ⟨(HY4.out.below HB3.out).below (Below.refl _ _).drew, Tre.ExIn.below (ExIn.off HR.out.ein (New.off HR.out.new (fun b hb => by simp at hb; omega)) ht) HB3.out.drew, Tre.ExIn.below HY2.out HB3.out.drew, q _ _ (by omega) HR.out.atx, HN3.out, q _ _ (by omega) HR.out.res, q _ _ (by omega) HR.out.sg, q _ _ (by omega) HR.out.op, HP.out, ((HR.out.turn.trans ht).below HB3.out).drew⟩)
          have HV : Hid (xb < v1.heap.size) := Lib.hid (by
            have := H2.out.size
            have := lt_of_heap HR.out.atx
            omega)
          have HLT := Lib.hid (lenR_pos HI.out)
          have HTL := Lib.hid (rest_go HR.out.told HP.out HR.out.no HI.out)
          have HLR := Lib.hid (tell_lenR (.row (k0 + 1)) (tl r'))
          have HTT := Lib.hid (lenR_tl r')
          clear HY2 HY4 HY5 HB3 HN3 H2 HP
          refine Lex.AtS.start (by kernel_rfl) 8 (fun u => Mid lo w u g xb v2.heap.size k0 x y (tell (.row (k0 + 1)) (tl r')).2 p k) (by kernel_rfl) (by kernel_rfl) ?_
          generalize (v2.alloc (.cells #[.int .i64 y.op, .int .i64 y.n, .string y.s, .string y.q, .slice y.a y.x.length y.c] 36)).drew = u0 at *
          generalize v2.heap.size = yb at *
          refine Lex.at_take 0 46 (.slice (some ⟨xb + 1 + 1, 0, none⟩) n n) rfl rfl (by kernel_rfl) (by decide) (by decide) (fun _ _ _ h => h) rfl (HM.out) (fun w' hw' => ?_) ?_
          · exact rfl
          go_frame
          refine Lex.at_take 1 47 (.int .i64 k) rfl rfl (by kernel_rfl) (by decide) (by decide) (fun _ _ _ h => h) rfl (HM.out) (fun w' hw' => ?_) ?_
          · exact rfl
          go_frame
          refine Lex.at_take 2 48 (.pointer (some ⟨xb + 1 + 1, k, none⟩)) rfl rfl (by kernel_rfl) (by decide) (by decide) (fun _ _ _ h => h) rfl (HM.out) (fun w' hw' => ?_) ?_
          · go_simp
          go_frame
          refine Lex.at_take 3 49 (.int .i64 p.2) rfl rfl (by kernel_rfl) (by decide) (by decide) (fun _ _ _ h => h) rfl (HM.out) (fun w' hw' => ?_) ?_
          · have h1 := op_at hw'.op hw'.at_
            go_simp
          go_frame
          refine Lex.at_take 4 50 (.agg #[.int .i64 x.op, .int .i64 x.n, .string x.s, .string x.q, .slice x.a x.x.length x.c]) rfl rfl (by kernel_rfl) (by decide) (by decide) (fun _ _ _ h => h) rfl (HM.out) (fun w' hw' => ?_) ?_
          · obtain ⟨x0, x1, x2, x3, x4⟩ := five_at hw'.atx
            go_simp
          go_frame
          refine Lex.at_take 5 51 (.agg #[.int .i64 y.op, .int .i64 y.n, .string y.s, .string y.q, .slice y.a y.x.length y.c]) rfl rfl (by kernel_rfl) (by decide) (by decide) (fun _ _ _ h => h) rfl (HM.out) (fun w' hw' => ?_) ?_
          · obtain ⟨x0, x1, x2, x3, x4⟩ := five_at hw'.aty
            go_simp
          go_frame
          have HBU := Lib.hid (ball_new u0 #[.int .i64 x.op, .int .i64 x.n, .string x.s, .string x.q, .slice x.a x.x.length x.c, .int .i64 y.op, .int .i64 y.n, .string y.s, .string y.q, .slice y.a y.x.length y.c] 36)
          have HNU := Lib.hid (new_at u0 #[.int .i64 x.op, .int .i64 x.n, .string x.s, .string x.q, .slice x.a x.x.length x.c, .int .i64 y.op, .int .i64 y.n, .string y.s, .string y.q, .slice y.a y.x.length y.c] 36)
          have HMU := Lib.hid (HM.out.below HBU.out)
          refine Lex.at_run 6 52 (.slice (some ⟨u0.heap.size, 0, none⟩) 2 2) (u0.alloc (.cells #[.int .i64 x.op, .int .i64 x.n, .string x.s, .string x.q, .slice x.a x.x.length x.c, .int .i64 y.op, .int .i64 y.n, .string y.s, .string y.q, .slice y.a y.x.length y.c] 36)) rfl rfl (by kernel_rfl) (by decide) rfl ?_ ?_ ?_
          · go_simp
          · exact HMU.out
          go_frame
          have HUB : Hid (xb < u0.heap.size) := Lib.hid (lt_of_heap HM.out.atx)
          clear HBU HM
          generalize (u0.alloc (.cells #[.int .i64 x.op, .int .i64 x.n, .string x.s, .string x.q, .slice x.a x.x.length x.c, .int .i64 y.op, .int .i64 y.n, .string y.s, .string y.q, .slice y.a y.x.length y.c] 36)) = u1 at *
          generalize u0.heap.size = ub at *
          refine Lex.at_take 7 53 (.agg #[.int .i64 p.2, .int .i64 0, .string ⟨#[]⟩, .string ⟨#[]⟩, .slice (some ⟨ub, 0, none⟩) 2 2]) rfl rfl (by kernel_rfl) (by decide) (by decide) (fun _ _ _ h => h) rfl (HMU.out) (fun w' hw' => ?_) ?_
          · go_simp
          go_frame
          have HRN : Hid (RowAt lo w (((((u1.setCell ⟨xb, 0, none⟩ (.int .i64 p.2)).setCell ⟨xb, 1, none⟩ (.int .i64 0)).setCell ⟨xb, 2, none⟩ (.string ⟨#[]⟩)).setCell ⟨xb, 3, none⟩ (.string ⟨#[]⟩)).setCell ⟨xb, 4, none⟩ (.slice (some ⟨ub, 0, none⟩) 2 2)) g xb (xb + 1) k0 0 r (tell (.row (k0 + 1)) (tl r')).2 (.mk p.2 0 ⟨#[]⟩ ⟨#[]⟩ (some ⟨ub, 0, none⟩) 2 [x, y])) := Lib.hid (by
            have ht := turn5 u1 xb (.int .i64 p.2) (.int .i64 0) (.string ⟨#[]⟩) (.string ⟨#[]⟩) (.slice (some ⟨ub, 0, none⟩) 2 2)
            have hx := HXB.out
            have hv := HV.out
            have hu := HUB.out
            have oy : Off [xb] y := New.off HY3.out (fun b hb => by simp at hb; omega)
            have o2 : Off [xb] (.mk p.2 0 ⟨#[]⟩ ⟨#[]⟩ (some ⟨ub, 0, none⟩) 2 [x, y]) := two_off HR.out.off oy (by simp; omega)
            refine ⟨HMU.out.rd.but ht (by have := HLO.out; omega), ExIn.off (two_in HMU.out.xin HMU.out.yin HNU.out) o2 ht, two_new HR.out.new (HY3.out.mono (by omega)) (by omega), o2, set5 HMU.out.atx,
              (ht.block _ (lt_of_heap HMU.out.res) (by simp; omega)).trans HMU.out.res, (ht.block _ (lt_of_heap HMU.out.sg) (by simp)).trans HMU.out.sg, (ht.block _ (lt_of_heap HMU.out.op) (by simp; omega)).trans HMU.out.op, HMU.out.turn.then_ ht (fun q hq => by simp at hq; subst hq; exact .inr (by omega)), ?_, ?_, by simp⟩
            · rw [HTL.out, ← HY1.out]
              have e : core (.mk p.2 0 ⟨#[]⟩ ⟨#[]⟩ (some ⟨ub, 0, none⟩) 2 [x, y]) = .mk p.2 0 [] [] [core x, core y] := by rw [core_eq]; rfl
              rw [e]
            · have := HLR.out
              have := HTT.out
              have := HR.out.len
              omega)
          obtain ⟨x0, x1, x2, x3, x4⟩ := five_at HMU.out.atx
          have f0 := free_at HMU.out.atx 0
          have f1 := free_at HMU.out.atx 1
          have f2 := free_at HMU.out.atx 2
          have f3 := free_at HMU.out.atx 3
          have f4 := free_at HMU.out.atx 4
          refine Lex.AtS.last (i := 8) (w' := (((((u1.setCell ⟨xb, 0, none⟩ (.int .i64 p.2)).setCell ⟨xb, 1, none⟩ (.int .i64 0)).setCell ⟨xb, 2, none⟩ (.string ⟨#[]⟩)).setCell ⟨xb, 3, none⟩ (.string ⟨#[]⟩)).setCell ⟨xb, 4, none⟩ (.slice (some ⟨ub, 0, none⟩) 2 2))) rfl (by kernel_rfl) (by kernel_rfl) (by decide) rfl ?_ ?_
          · go_simp
          go_frame
          clear x0 x1 x2 x3 x4 f0 f1 f2 f3 f4
          have HMS : Hid (remW wr g = lenR r') := Lib.hid HR.out.rd.rem
          generalize (((((u1.setCell ⟨xb, 0, none⟩ (.int .i64 p.2)).setCell ⟨xb, 1, none⟩ (.int .i64 0)).setCell ⟨xb, 2, none⟩ (.string ⟨#[]⟩)).setCell ⟨xb, 3, none⟩ (.string ⟨#[]⟩)).setCell ⟨xb, 4, none⟩ (.slice (some ⟨ub, 0, none⟩) 2 2)) = u4 at *
          go_wp2_with fail
          go_roundw
          case rel => exact ⟨0, _, _, rfl, Nat.zero_le _, HRN⟩
          case measure =>
            rw [HRN.out.rd.rem, HMS.out]
            have := HLR.out
            have := HTT.out
            have := HLT.out
            simp [intOf]
            omega
        · have CS := Lib.hid (skip_no wr g r' p.1 HR.out.rd hi)
          have HI := Lib.hid hi
          clear hi hbad
          go_wp2_with fail
          refine CS.out.mono ?_
          rintro e v1 ⟨rfl, h1, h2⟩
          have HN1 : Hid (RowAt lo w v1 g xb (xb + 1) k0 (k + 1) r r' x) := Lib.hid (by
            have hg := HG.out
            have hx := HXB.out
            exact ⟨h1, ExIn.off HR.out.ein (New.off HR.out.new (fun q hq => by simp at hq; omega)) h2, HR.out.new, HR.out.off, (h2.block _ (lt_of_heap HR.out.atx) (by simp; omega)).trans HR.out.atx, (h2.block _ (lt_of_heap HR.out.res) (by simp; omega)).trans HR.out.res,
              (h2.block _ (lt_of_heap HR.out.sg) (by simp; omega)).trans HR.out.sg, (h2.block _ (lt_of_heap HR.out.op) (by simp; omega)).trans HR.out.op, HR.out.turn.trans h2, HR.out.told, HR.out.len, fun q hq => by
                rw [List.take_add_one, HP.out] at hq
                rcases List.mem_append.1 hq with hq | hq
                · exact HR.out.no q hq
                · obtain rfl : q = p := by simpa using hq
                  exact HI.out⟩)
          clear h1 h2 b1 s1 CS
          go_wp2_with fail
          go_roundw
          case rel => exact ⟨k + 1, r', x, rfl, by omega, HN1⟩
          case measure => rw [HN1.out.rd.rem, HR.out.rd.rem]; simp [intOf]; omega
    · obtain rfl : k = n := by omega
      have HO := Lib.hid (rest_out HR.out.told (by rw [HNN.out]; exact Nat.le_refl _) HR.out.no)
      go_wp2_with fail
      refine bodyPost_ret (results_expr rfl _ _ w.heap.size _ _ _ _ _ rfl (set5 HR.out.res)) rfl ?_
      exact row_end HR.out HLO.out HT.out HO.out
end Go.Proofs.YtlhbhpdpjidpgaaGreatDoor.Prs
/- What a call of the program's parser leaves that tells an expression. No condition. -/
namespace Go.Proofs.YtlhbhpdpjidpgaaGreatDoor.Prg
open Go.RowKit Tre Prs
open Lex (Wd wdC wdV bs str Turn)
set_option maxRecDepth 100000
set_option linter.unusedSimpArgs false
variable {lo : Nat}
/-- The reader, and the table of signs. -/
structure InG (lo : Nat) (w : World) (g : Nat) (r : PS) : Prop where
  rd : RdG lo w g r
  sg : Sigs w
  ne : 0 ≠ g
  gl : 0 < lo
section
variable {w w' : World} {g : Nat} {r r' : PS}
theorem InG.below (h : InG lo w g r) (hb : Below w.heap.size w w') : InG lo w' g r := ⟨h.rd.below hb, h.sg.below h.sg.pos hb, h.ne, h.gl⟩
theorem InG.step (h : InG lo w g r) (ht : Turn [g] w w') (hr : RdG lo w' g r') : InG lo w' g r' := ⟨hr, h.sg.turn ht (by simpa using h.ne), h.ne, h.gl⟩
theorem InG.but {b : Nat} (h : InG lo w g r) (ht : Turn [b] w w') (hb : lo ≤ b) : InG lo w' g r := ⟨h.rd.but ht hb, h.sg.turn ht (by have := h.gl; simp; omega), h.ne, h.gl⟩
theorem InG.buts {S : List Nat} (h : InG lo w g r) (ht : Turn S w w') (hb : ∀ b ∈ S, lo ≤ b) : InG lo w' g r := ⟨h.rd.buts ht hb, h.sg.turn ht (fun hm => by have := hb _ hm; have := h.gl; omega), h.ne, h.gl⟩
end
/-- What a call leaves that tells an expression. -/
def EvG (lo : Nat) (w : World) (g : Nat) (q : Tx × PS) (e : Ending) (w' : World) : Prop := ∃ (x : Ex) (r' : PS), e = .returned (exV x) ∧ Ag q (core x) r' ∧ ExIn w' x ∧ New w.heap.size x ∧ RdG lo w' g r' ∧ Turn [g] w w'
/-- The end of a call that wraps one expression. -/
theorem un_endG {w w1 w2 w3 w4 : World} {g op : Nat} {x : Ex} {q : Tx × PS} {r' : PS} {cs : Array Value} {T : TypeId} (hw : w.heap.size < w1.heap.size) (hlo : lo ≤ w.heap.size) (hx2 : ExIn w2 x) (hx3 : New w1.heap.size x) (hx4 : RdG lo w2 g r')
    (hb : Below w.heap.size w (w.alloc (.cells cs T))) (h2 : Turn [g] (w.alloc (.cells cs T)) w1) (hx5 : Turn [g] w1 w2) (hb3 : Below w2.heap.size w2 w3) (hn3 : w3.heap[w2.heap.size]? = some (.cells #[.int .i64 x.op, .int .i64 x.n, .string x.s, .string x.q, .slice x.a x.x.length x.c] 36 (0, 0)))
    (ht : Turn [w.heap.size] w3 w4) (hq : Ag q (.mk op 0 [] [] [core x]) r') : EvG lo w g q (.returned (.agg #[.int .i64 op, .int .i64 0, .string ⟨#[]⟩, .string ⟨#[]⟩, .slice (some ⟨w2.heap.size, 0, none⟩) 1 1])) w4 := by
  have s2 := hx5.size
  have hx : ExIn w4 x := ExIn.turn (Tre.ExIn.below hx2 hb3) (b := w1.heap.size) (g := w.heap.size) hx3 hw ht
  have hrow : w4.heap[w2.heap.size]? = some (.cells #[.int .i64 x.op, .int .i64 x.n, .string x.s, .string x.q, .slice x.a x.x.length x.c] 36 (0, 0)) := (ht.block _ (lt_of_heap hn3) (by simp; omega)).trans hn3
  refine ⟨.mk op 0 ⟨#[]⟩ ⟨#[]⟩ (some ⟨w2.heap.size, 0, none⟩) 1 [x], r', rfl, by rw [core_eq]; exact hq, one_in hx (fun r u hu => ?_) (lt_of_heap hrow) (Nat.le_refl _), one_new (hx3.mono (by omega)) (by omega), (hx4.below hb3).but ht hlo, ?_⟩
  · rw [cell_at hrow]
    cases x
    simpa [exC, Ex.op, Ex.n, Ex.s, Ex.q, Ex.a, Ex.x, Ex.c] using hu
  · have h1 : Turn [g] w w1 := ((Turn.refl [g] w).below hb).then_ h2 (fun k hk => .inl hk)
    exact ((h1.trans hx5).below hb3).then_ ht (fun k hk => by simp at hk; subst hk; exact .inr (Nat.le_refl _))
/-- The end of a call that tells a leaf. -/
theorem leaf_endG {w w1 w4 : World} {g : Nat} {op n : Int} {s : ByteArray} {r : PS} {q : Tx × PS} {cs : Array Value} {T : TypeId} (hlo : lo ≤ w.heap.size) (hs : s.size ≤ maxLen) (hr : RdG lo w1 g r) (hb : Below w.heap.size w (w.alloc (.cells cs T))) (h2 : Turn [g] (w.alloc (.cells cs T)) w1) (ht : Turn [w.heap.size] w1 w4) (hq : Ag q (.mk op n s.data.toList [] []) r) :
    EvG lo w g q (.returned (.agg #[.int .i64 op, .int .i64 n, .string s, .string ⟨#[]⟩, .slice none 0 0])) w4 :=
  ⟨.mk op n s ⟨#[]⟩ none 0 [], r, rfl, by rw [core_eq]; exact hq, leaf_in _ _ _ _ hs, leaf_new _ _ _ _, hr.but ht hlo, (((Turn.refl [g] w).below hb).then_ h2 (fun k hk => .inl hk)).then_ ht (fun k hk => by simp at hk; subst hk; exact .inr (Nat.le_refl _))⟩
/-- The end of a call that hands an expression on, behind one more call. -/
theorem on_endG {w w1 w2 w3 w4 w5 : World} {g : Nat} {x : Ex} {q : Tx × PS} {r : PS} {cs : Array Value} {T : TypeId} (hw : w.heap.size < w1.heap.size) (hlo : lo ≤ w.heap.size) (hg : g < w.heap.size) (hx2 : ExIn w2 x) (hx3 : New w1.heap.size x) (hb : Below w.heap.size w (w.alloc (.cells cs T))) (h2 : Turn [g] (w.alloc (.cells cs T)) w1) (hx5 : Turn [g] w1 w2) (hb3 : Below w2.heap.size w2 w3) (h4 : Turn [g] w3 w4) (hr : RdG lo w4 g r) (ht : Turn [w.heap.size] w4 w5) (hq : Ag q (core x) r) :
    EvG lo w g q (.returned (.agg #[.int .i64 x.op, .int .i64 x.n, .string x.s, .string x.q, .slice x.a x.x.length x.c])) w5 := by
  have e3 : ExIn w4 x := ExIn.turn (Tre.ExIn.below hx2 hb3) (b := w1.heap.size) (g := g) hx3 (by omega) h4
  have e5 : ExIn w5 x := ExIn.turn e3 (b := w1.heap.size) (g := w.heap.size) hx3 hw ht
  refine ⟨x, r, by rw [exV_eq], hq, e5, hx3.mono (by omega), hr.but ht hlo, ?_⟩
  have h1 : Turn [g] w w1 := ((Turn.refl [g] w).below hb).then_ h2 (fun k hk => .inl hk)
  exact ((((h1.trans hx5).below hb3).then_ h4 (fun k hk => .inl hk))).then_ ht (fun k hk => by simp at hk; subst hk; exact .inr (Nat.le_refl _))
/-- The end of a call that hands on what another one told. -/
theorem pass_endG {w w1 w2 w5 : World} {g : Nat} {x : Ex} {q : Tx × PS} {r : PS} {cs : Array Value} {T : TypeId} (hw : w.heap.size < w1.heap.size) (hlo : lo ≤ w.heap.size) (hx2 : ExIn w2 x) (hx3 : New w1.heap.size x) (hb : Below w.heap.size w (w.alloc (.cells cs T))) (h2 : Turn [g] (w.alloc (.cells cs T)) w1) (hx5 : Turn [g] w1 w2) (hr : RdG lo w2 g r) (ht : Turn [w.heap.size] w2 w5) (hq : Ag q (core x) r) :
    EvG lo w g q (.returned (.agg #[.int .i64 x.op, .int .i64 x.n, .string x.s, .string x.q, .slice x.a x.x.length x.c])) w5 := by
  have e5 : ExIn w5 x := ExIn.turn hx2 (b := w1.heap.size) (g := w.heap.size) hx3 hw ht
  refine ⟨x, r, by rw [exV_eq], hq, e5, hx3.mono (by omega), hr.but ht hlo, ?_⟩
  have h1 : Turn [g] w w1 := ((Turn.refl [g] w).below hb).then_ h2 (fun k hk => .inl hk)
  exact (h1.trans hx5).then_ ht (fun k hk => by simp at hk; subst hk; exact .inr (Nat.le_refl _))
theorem ag_lenB {j : Job} {r r' : PS} {t : Tx} (h : Ag (tell j r) t r') : lenB r' ≤ lenB r := by
  rcases h with ⟨_, h2⟩ | ⟨h1, _, h3⟩
  · unfold lenB; rw [if_pos h2]; omega
  · have hb : r.bad = false := by
      cases hb : r.bad with
      | false => rfl
      | true => rw [tell_bad hb] at h1; cases h1
    have := tell_lenR j r
    subst h3
    unfold lenR at this
    unfold lenB
    rw [h1, hb] at *
    simp at *
    omega
theorem takeS_size {w : World} {g : Nat} {r : PS} (h : RdG lo w g r) (ks : List Int) : (bs (takeW r ks).s).size ≤ maxLen ∧ (takeW r ks).s.length ≤ 1000000 := by
  have : (takeW r ks).s.length ≤ 1000000 := by
    unfold takeW
    split
    · unfold peek
      split
      · simp [zeroW]
      · cases hl : r.l with
        | nil => simp [zeroW]
        | cons x t => exact (h.txt x (by rw [hl]; simp)).1
    · simp [zeroW]
  refine ⟨?_, this⟩
  rw [Lex.bs_size]
  unfold maxLen
  omega
end Go.Proofs.YtlhbhpdpjidpgaaGreatDoor.Prg
