/-
  A slice of slices of bytes in memory; a sector filled with bytes, one behind the other. Conditions: together they are at most a sector.
-/
import Derived.Test.YtpbojepliddflaaFSmall
namespace Go.Proofs.Ytpbojepliddflaa.Frm
open Go.RowKit Codec FrameM Cod
set_option maxRecDepth 100000
/-- The slice of n slices at A is ls; all lies below block B. -/
structure Rows (w : World) (B : Nat) (A : Option Addr) (n : Nat) (ls : List (List UInt8)) : Prop where
  len : ls.length = n
  at_ : 0 < n → ∃ b off, A = some ⟨b, off, none⟩ ∧ b < B ∧ ∀ j, j < n → ∃ Aj cj, w.cell? ⟨b, off + j, none⟩ = some (.slice Aj (ls.getD j []).length cj) ∧
    Byts w B Aj (ls.getD j []).length (ls.getD j []) ∧ (ls.getD j []).length ≤ cj ∧ cj ≤ maxLen
theorem Rows.none_ {w : World} {B : Nat} {A : Option Addr} : Rows w B A 0 [] := ⟨rfl, fun h => absurd h (by omega)⟩
section
variable {w w' : World} {B B' n : Nat} {A : Option Addr} {ls : List (List UInt8)}
theorem Rows.keep (h : Rows w B A n ls) (hk : ∀ k, k < B → w'.heap[k]? = w.heap[k]?) : Rows w' B A n ls :=
  ⟨h.len, fun hn => by
    obtain ⟨b, off, e, hb, hc⟩ := h.at_ hn
    refine ⟨b, off, e, hb, fun j hj => ?_⟩
    obtain ⟨Aj, cj, h1, h2, h3, h4⟩ := hc j hj
    exact ⟨Aj, cj, (World.cell?_of_block (w := w) (hk b hb)).trans h1, h2.keep hk, h3, h4⟩⟩
theorem Rows.more (h : Rows w B A n ls) (hB : B ≤ B') : Rows w B' A n ls :=
  ⟨h.len, fun hn => by
    obtain ⟨b, off, e, hb, hc⟩ := h.at_ hn
    refine ⟨b, off, e, by omega, fun j hj => ?_⟩
    obtain ⟨Aj, cj, h1, h2, h3, h4⟩ := hc j hj
    exact ⟨Aj, cj, h1, h2.more hB, h3, h4⟩⟩
theorem Rows.below (h : Rows w B A n ls) (hb : Below B w w') : Rows w' B A n ls := h.keep hb.block
theorem Rows.alloc (h : Rows w B A n ls) (hB : B ≤ w.heap.size) (o : Obj) : Rows (w.alloc o) B A n ls := h.keep fun k hk => Below.heap_alloc w o k (by omega)
end
theorem getD_of {α : Type} {l : List α} {j : Nat} {d : α} (h : j < l.length) : l.getD j d = l[j] := by simp [List.getD_eq_getElem?_getD, h]

theorem info5 : (Try.prog.info? 5).map (fun i => (i.zero, i.size, i.bytes)) = some (some (.int .u8 0), 1, 1) := by kernel_rfl
theorem size5i : (Try.prog.info? 5).map (·.size) = some 1 := by kernel_rfl
theorem made (n : Nat) : madeCells (Value.cells (.int .u8 0)) n = (cel (zeros n)).toArray := by
  apply Array.ext
  · simp [madeCells, cel, zeros]
  · intro i _ _
    simp [madeCells, cel, zeros, Value.cells, byt, Nat.mod_one]
theorem run_make_bytes (w : World) (n : Nat) (hn : n ≤ 1000000000) : (Instr.makeSlice 24 (.int .i64 n) (.int .i64 n)).run Try.prog w = .ok (.slice (some ⟨w.heap.size, 0, none⟩) n n) (w.alloc (.cells (cel (zeros n)).toArray 5)) := by
  obtain ⟨i0, hi, hz0, hz1, hz2⟩ := info_parts info5
  have := run_make (P := Try.prog) w 24 5 i0 _ Try.underlying24 hi hz0 .i64 .i64 n n (by omega) (by omega) (by rw [hz2]; omega) (by omega)
  rw [hz1] at this
  simpa [made] using this
/-- Bytes behind the first ones. -/
theorem splice_cel (xs ys : List UInt8) (off : Nat) : splice (cel xs) off (cel ys) = cel (splice xs off ys) := by
  simp [splice, cel]
section
variable {ops : Array Oper} {rest : List Oper} {o : Oper} {a : Act} {Q : Exit → Act → World → Prop}
/-- copy into a block of bytes, known whole. -/
theorem wpList_copy_to (w : World) (hgd : o.guard = none) (d s : Operand) (ho : o.op = .call { callee := .builtin .copy, args := #[d, s], argTypes := #[24, 24] })
    (g p : Nat) (xs ys : List UInt8) (dp Aj : Option Addr) (len c q c' B : Nat) (hd : a.eval d = .slice dp len c) (hs : a.eval s = .slice Aj q c') (hy : Byts w B Aj q ys) (hq : q ≤ len)
    (hdp : 0 < q → dp = some ⟨g, p, none⟩) (hg : w.heap[g]? = some (.cells (cel xs).toArray 5 (0, 0))) (hfit : p + q ≤ xs.length) (w0 : World) (B1 : Nat) (hb : Below B1 w0 w) (hBg : B1 ≤ g)
    (h : ∀ w', Hid (w'.heap[g]? = some (.cells (cel (splice xs p ys)).toArray 5 (0, 0))) → Hid (Below B1 w0 w') → wpList Try.prog ops Q rest (a.put o.dst (.int .i64 q)) w') : wpList Try.prog ops Q (o :: rest) a w := by
  have hl := hy.len
  refine wpList_copy_splice hgd d s 24 24 ho 5 Try.underlying24 size5i dp Aj len c q c' hd hs g p (cel xs) 5 hg (cel ys) (by rw [cel_length, hl]; exact (Nat.min_eq_left hq).symm) (fun h0 => ?_) (by rw [cel_length, cel_length, hl]; exact hfit) (cel_one ys) B1 w0 hb hBg ?_
  · rw [cel_length, hl] at h0
    obtain ⟨b, off, rfl, _, hc⟩ := hy.at_ h0
    refine ⟨hdp h0, _, rfl, fun j v hv => ?_⟩
    have hj : j < q := by
      have := (List.getElem?_eq_some_iff.1 hv).1
      rwa [cel_length, hl] at this
    rw [plain_add, hc j hj, ← cel_get ys j (by omega)]
    exact hv
  · intro w' h1 h2
    have e : goInt (cel ys).length = .int .i64 q := by rw [cel_length, hl]; rfl
    rw [e]
    rw [splice_cel] at h1
    exact h w' h1 (Lib.hid h2)
end
theorem splice_pad (xs ys : List UInt8) (h : xs.length + ys.length ≤ 64) : splice (pad xs) xs.length ys = pad (xs ++ ys) := by
  unfold splice pad zeros
  rw [List.take_left, List.drop_append, List.drop_eq_nil_of_le (by omega), List.nil_append, List.drop_replicate, List.append_assoc, List.length_append,
    show 64 - xs.length - (xs.length + ys.length - xs.length) = 64 - (xs.length + ys.length) by omega]
theorem flat_step (ls : List (List UInt8)) (j : Nat) (h : j < ls.length) : (ls.take (j + 1)).flatten = (ls.take j).flatten ++ ls.getD j [] := by
  rw [List.take_succ_eq_append_getElem h, getD_of h, List.flatten_append]
  simp only [List.flatten_cons, List.flatten_nil, List.append_nil]
theorem flat_le (ls : List (List UInt8)) (j : Nat) : (ls.take j).flatten.length ≤ ls.flatten.length := by
  have : ls.flatten = (ls.take j).flatten ++ (ls.drop j).flatten := by rw [← List.flatten_append, List.take_append_drop]
  rw [this, List.length_append]
  omega
theorem pad_length (xs : List UInt8) (h : xs.length ≤ 64) : (pad xs).length = 64 := by simp [pad, zeros]; omega
/-- A sector of the call's own: the block made first. -/
def Filled (w : World) (s : List UInt8) (e : Ending) (w' : World) : Prop :=
  e = .returned (.slice (some ⟨w.heap.size, 0, none⟩) 64 64) ∧ w'.heap[w.heap.size]? = some (.cells (cel s).toArray 5 (0, 0)) ∧ Below w.heap.size w w'
set_option maxHeartbeats 1000000 in
theorem filled_any (w : World) (B k c : Nat) (A : Option Addr) (ls : List (List UInt8)) (h : Rows w B A k ls) (hB : B ≤ w.heap.size) (hk : k ≤ 1000000) (ht : ls.flatten.length ≤ 64) :
    Calls Try.prog 25 #[.slice A k c] w (Filled w (pad ls.flatten)) := by
  have hmk : ∀ w : World, (Instr.makeSlice 24 (.int .i64 64) (.int .i64 64)).run Try.prog w = .ok (.slice (some ⟨w.heap.size, 0, none⟩) 64 64) (w.alloc (.cells (cel (zeros 64)).toArray 5)) := fun w => run_make_bytes w 64 (by omega)
  have HR := Lib.hid h
  have HT := Lib.hid ht
  clear h ht
  go_enter Try.func25, Try.ntmps25
  go_wp2
  go_loopw [4, 10] (fun n i wr => ∃ j : Nat, j ≤ k ∧ i = .int .i64 j ∧ n = .int .i64 (ls.take j).flatten.length ∧ wr.heap[w.heap.size]? = some (.cells (cel (pad (ls.take j).flatten)).toArray 5 (0, 0)) ∧ Below w.heap.size w wr) (fun _ i _ => k - (intOf i).toNat)
  case atStart => exact ⟨0, by omega, rfl, rfl, heap_alloc_new w _, alloc_below _ _⟩
  case round =>
    obtain ⟨j, hj, rfl, rfl, hg, hbel⟩ := hrel
    have HG := Lib.hid hg
    have HB := Lib.hid hbel
    clear hg hbel
    by_cases hlt : j < k
    · obtain ⟨b, off, rfl, hb, hc⟩ := HR.out.at_ (by omega)
      obtain ⟨Aj, cj, h1, h2, h3, h4⟩ := hc j hlt
      have hcell : wr.cell? ⟨b, off + j, none⟩ = some (.slice Aj (ls.getD j []).length cj) := (HB.out.cell (p := ⟨b, off + j, none⟩) (by show b < _; omega)).trans h1
      have HY := Lib.hid ((h2.more hB).below HB.out)
      have hjl : j < ls.length := by rw [HR.out.len]; exact hlt
      have HS := Lib.hid (flat_step ls j hjl)
      have hle := flat_le ls (j + 1)
      have HF := Lib.hid HT.out
      have hxy : (ls.take j).flatten.length + (ls.getD j []).length ≤ 64 := by
        rw [HS.out, List.length_append] at hle
        have := HF.out
        omega
      clear hle h1 h2 hc
      have h4' : cj ≤ 9223372036854775807 := h4
      clear h4
      generalize ls.getD j [] = ys at *
      generalize (ls.take j).flatten = xs at *
      have HP := Lib.hid (splice_pad xs ys hxy)
      have HPL := Lib.hid (pad_length xs (by omega))
      have HXL : Hid (((ls.take (j + 1)).flatten.length : Int) = (xs.length : Int) + (ys.length : Int)) := Lib.hid (by rw [HS.out, List.length_append]; simp)
      obtain ⟨p, hp⟩ : ∃ p, xs.length = p := ⟨_, rfl⟩
      obtain ⟨q, hq⟩ : ∃ q, ys.length = q := ⟨_, rfl⟩
      rw [hp] at hxy HP HXL
      rw [hq] at hxy hcell HY h3 HXL
      rw [hp]
      clear hp hq
      have hp64 : p ≤ 64 := by omega
      have hs1 := fun v => run_from v (some ⟨w.heap.size, 0, none⟩) 64 64 p hp64
      have HD : Hid (0 < q → (if 64 = p then some ⟨w.heap.size, 0, none⟩ else (some (⟨w.heap.size, 0, none⟩ : Addr)).map (·.add p)) = some ⟨w.heap.size, p, none⟩) := Lib.hid (fun h0 => by
        rw [if_neg (by omega), Option.map_some, plain_add, Nat.zero_add])
      generalize (if 64 = p then some ⟨w.heap.size, 0, none⟩ else (some (⟨w.heap.size, 0, none⟩ : Addr)).map (·.add p)) = A2 at *
      go_wp2_with (with_reducible refine wpList_copy_to _ rfl (.tmp 17) (.tmp 18) rfl w.heap.size p (pad xs) ys A2 Aj (64 - p) (64 - p) q cj w.heap.size rfl rfl HY.out (by omega) HD.out HG.out (by have := HPL.out; omega) w w.heap.size HB.out (Nat.le_refl _) ?_; intro w1 hg1 hb1)
      go_roundw
      case rel => exact ⟨j + 1, by omega, by go_num, by rw [HXL.out], by rw [HS.out, ← HP.out]; exact hg1.out, hb1.out⟩
      case measure => simp [intOf]; omega
    · obtain rfl : j = k := by omega
      go_wp2
      go_ret
      have h := HG.out
      rw [List.take_of_length_le (by rw [HR.out.len]; omega)] at h
      exact ⟨rfl, h, HB.out⟩
end Go.Proofs.Ytpbojepliddflaa.Frm
