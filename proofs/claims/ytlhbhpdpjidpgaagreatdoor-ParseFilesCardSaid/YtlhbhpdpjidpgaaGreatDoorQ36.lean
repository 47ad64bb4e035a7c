/-
  A function that the document's parser builds, cell by cell. Condition: the reader is known.
-/
import Derived.Test.YtlhbhpdpjidpgaaGreatDoorQ26
import Derived.Test.YtlhbhpdpjidpgaaGreatDoorQ28
import Derived.Test.YtlhbhpdpjidpgaaGreatDoorQ29
import Derived.Test.YtlhbhpdpjidpgaaGreatDoorQ30
import Derived.Test.YtlhbhpdpjidpgaaGreatDoorQ35
import Derived.Deep.DeepCutAuto
import Derived.Deep.CutBlock
namespace Go.Proofs.YtlhbhpdpjidpgaaGreatDoor.Prs
open Go.RowKit Tre Prg
open Lex (Wd wdC wdV bs str Turn)
set_option maxRecDepth 100000
set_option linter.unusedSimpArgs false
variable {lo : Nat}
theorem typeMust_eq (r : PS) : typeMust r = ⟨(typeR r).l, (typeR r).bad || typeN r == 0, (typeR r).big⟩ := by
  unfold typeMust badR
  cases h : typeN r == 0 with
  | true => simp
  | false => simp
/-- The reader turns bad, or stays as it is. -/
theorem RdM.bads {w : World} {g : Nat} {r : PS} (h : RdM lo w g r) (B : Bool) : RdM lo (w.setCell ⟨g, 1, none⟩ (.bool B)) g ⟨r.l, B, r.big⟩ := by
  obtain ⟨a, c, h1, h2, h3, h4⟩ := h.at_
  exact RdM.set h1 h ⟨r.l, B, r.big⟩ a c 1 _ rfl h2 h3 h4 (Nat.le_refl _) (fun x hx => hx)
def EvF (lo : Nat) (w : World) (g : Nat) (q : Tf × PS) (e : Ending) (w' : World) : Prop := ∃ f : Tre.Fn, e = .returned (fnV f) ∧ coreF f = q.1 ∧ FnIn w' f ∧ NewF w.heap.size f ∧ RdM lo w' g q.2 ∧ Turn [g] w w'
/-- The function in block fb. -/
structure FD (lo : Nat) (w W : World) (g fb : Nat) (r : PS) (S : ByteArray) (pa : Option Addr) (pc : Nat) (xs : List Tp) (T : Int) (ba : Option Addr) (bc : Nat) (b : List St) : Prop where
  rd : RdM lo W g r
  at_ : W.heap[fb]? = some (.cells #[.string S, .slice pa xs.length pc, .int .u8 T, .slice ba b.length bc] 51 (0, 0))
  res : W.heap[w.heap.size]? = some (.cells #[.string ⟨#[]⟩, .slice none 0 0, .int .u8 0, .slice none 0 0] 51 (0, 0))
  own : OwnG 2 parCT 67 W (fb + 1) (.slice pa xs.length pc) xs
  ptxt : ∀ x ∈ xs, x.s.length ≤ 1000000
  brow : Row 9 stC W ba b
  blen : b.length ≤ most
  bnew : ∀ ad, ba = some ad → fb + 1 ≤ ad.block
  bin : ∀ s ∈ b, StIn W s
  bn : ∀ s ∈ b, NewS (fb + 1) s
  turn : Turn [g] w W
  hs : S.size ≤ maxLen
  hi : w.heap.size < fb
  g : g < w.heap.size
  lo : lo ≤ w.heap.size
section
variable {w W : World} {g fb : Nat} {r : PS} {S : ByteArray} {pa : Option Addr} {pc : Nat} {xs : List Tp} {T : Int} {ba : Option Addr} {bc : Nat} {b : List St}
theorem FD.keep {W' : World} {L : List Nat} (h : FD lo w W g fb r S pa pc xs T ba bc b) (ht : Turn L W W') (hL : ∀ k ∈ L, k < fb + 1) : OwnG 2 parCT 67 W' (fb + 1) (.slice pa xs.length pc) xs ∧ Row 9 stC W' ba b ∧ ∀ s ∈ b, StIn W' s :=
  ⟨h.own.keep fun k hk => ht.block k (h.own.lt k hk).2 (fun hm => by have := (h.own.lt k hk).1; have := hL _ hm; omega), Row.kept h.brow ht.size (fun k o e hlt => ht.block k hlt (fun hm => by have := h.bnew _ e; have := hL _ hm; simp at *; omega)), fun s hs => StIn.off (h.bin s hs) (NewS.off (h.bn s hs) hL) ht⟩
theorem FD.turned {W' : World} {r' : PS} (h : FD lo w W g fb r S pa pc xs T ba bc b) (ht : Turn [g] W W') (hr : RdM lo W' g r') : FD lo w W' g fb r' S pa pc xs T ba bc b := by
  have hg := h.g
  have hh := h.hi
  obtain ⟨k1, k2, k3⟩ := h.keep ht (fun k hk => by simp at hk; omega)
  exact ⟨hr, (ht.block _ (lt_of_heap h.at_) (by simp; omega)).trans h.at_, (ht.block _ (lt_of_heap h.res) (by simp; omega)).trans h.res, k1, h.ptxt, k2, h.blen, h.bnew, k3, h.bn, h.turn.trans ht, h.hs, hh, hg, h.lo⟩
theorem FD.below {W' : World} (h : FD lo w W g fb r S pa pc xs T ba bc b) (hb : Below W.heap.size W W') : FD lo w W' g fb r S pa pc xs T ba bc b := h.turned ((Turn.refl [g] W).below hb) (h.rd.below hb)
theorem FD.setT {T' : Int} (h : FD lo w W g fb r S pa pc xs T ba bc b) : FD lo w (W.setCell ⟨fb, 2, none⟩ (.int .u8 T')) g fb r S pa pc xs T' ba bc b := by
  have hg := h.g
  have hh := h.hi
  have ht := turn1 W fb 2 (.int .u8 T')
  obtain ⟨k1, k2, k3⟩ := h.keep ht (fun k hk => by simp at hk; omega)
  exact ⟨h.rd.but ht (by have := h.lo; omega), set_at h.at_ 2 (.int .u8 T'), (ht.block _ (lt_of_heap h.res) (by simp; omega)).trans h.res, k1, h.ptxt, k2, h.blen, h.bnew, k3, h.bn, h.turn.then_ ht (fun k hk => by simp at hk; subst hk; exact .inr (by omega)), h.hs, hh, hg, h.lo⟩
theorem FD.setB {W2 : World} {r' : PS} {B : Option Addr} {d : Nat} {l : List St} (h : FD lo w W g fb r S pa pc xs T ba bc b) (hrow : Row 9 stC W2 B l) (hlen : l.length ≤ most) (hnew : ∀ ad, B = some ad → W.heap.size ≤ ad.block) (hin : ∀ s ∈ l, StIn W2 s) (hn : ∀ s ∈ l, NewS W.heap.size s) (hr : RdM lo W2 g r') (ht : Turn [g] W W2) :
    FD lo w (W2.setCell ⟨fb, 3, none⟩ (.slice B l.length d)) g fb r' S pa pc xs T B d l := by
  have hg := h.g
  have hh := h.hi
  have hsz := lt_of_heap h.at_
  have h2 := h.turned ht hr
  have t1 := turn1 W2 fb 3 (.slice B l.length d)
  obtain ⟨k1, _, _⟩ := h2.keep t1 (fun k hk => by simp at hk; omega)
  exact ⟨h2.rd.but t1 (by have := h.lo; omega), set_at h2.at_ 3 (.slice B l.length d), (t1.block _ (lt_of_heap h2.res) (by simp; omega)).trans h2.res, k1, h.ptxt, Row.kept hrow t1.size (fun k o e hlt => t1.block k hlt (by have := hnew _ e; simp at this ⊢; omega)), hlen, fun ad e => by have := hnew _ e; omega, fun s hs => StIn.off (hin s hs) (NewS.off (hn s hs) (fun k hk => by simp at hk; omega)) t1, fun s hs => (hn s hs).mono (by omega), h2.turn.then_ t1 (fun k hk => by simp at hk; subst hk; exact .inr (by omega)), h.hs, hh, hg, h.lo⟩
/-- One parameter more. -/
theorem FD.push {y : Tp} (h : FD lo w W g fb r S pa pc xs 0 none 0 []) (hy : y.s.length ≤ 1000000) (hl : xs.length ≤ 1000000) :
    ∃ A2 c2 u2, (∀ ty, (Builtin.append_ #[48, 48] ty #[.slice pa xs.length pc, .slice (some ⟨W.heap.size, 0, none⟩) 1 1]).run Tryz.prog (W.alloc (.cells #[.string (bs y.s), .int .u8 y.t] 67)) = .ok (.slice A2 (xs ++ [y]).length c2) u2) ∧
      u2.heap[fb]? = some (.cells #[.string S, .slice pa xs.length pc, .int .u8 0, .slice none 0 0] 51 (0, 0)) ∧ FD lo w (u2.setCell ⟨fb, 1, none⟩ (.slice A2 (xs ++ [y]).length c2)) g fb r S A2 c2 (xs ++ [y]) 0 none 0 [] := by
  have hb3 := ball_new W #[.string (bs y.s), .int .u8 y.t] 67
  have hn3 := new_at W #[.string (bs y.s), .int .u8 y.t] 67
  have h3 := h.below hb3
  have hsz := lt_of_heap h3.at_
  obtain ⟨vv, u2, hap, how, hgr, hbo⟩ := app_par _ (fb + 1) (.slice pa xs.length pc) xs y W.heap.size h3.own hn3 hl (by omega)
  obtain ⟨A2, c2, rfl, -⟩ := how.form
  have T2 : Turn (Value.slice pa xs.length pc).ownBlock.toList (W.alloc (.cells #[.string (bs y.s), .int .u8 y.t] 67)) u2 := (Turn.refl _ _).grown hgr (fun k hk => .inl (by simp [hk]))
  have hlo2 : ∀ b ∈ (Value.slice pa xs.length pc).ownBlock.toList, fb + 1 ≤ b := fun b hb => (h3.own.lt b (by simpa using hb)).1
  have ha := (T2.block _ (lt_of_heap h3.at_) (fun hm => by have := hlo2 _ hm; omega)).trans h3.at_
  have hg := h.g
  have hh := h.hi
  have hlo := h.lo
  have hr := (T2.block _ (lt_of_heap h3.res) (fun hm => by have := hlo2 _ hm; omega)).trans h3.res
  have t1 := turn1 u2 fb 1 (.slice A2 (xs ++ [y]).length c2)
  refine ⟨A2, c2, u2, hap, ha, (h3.rd.buts T2 (fun b hb => by have := hlo2 b hb; omega)).but t1 (by omega), set_at ha 1 _, (t1.block _ (lt_of_heap hr) (by simp; omega)).trans hr, how.keep fun b hb => t1.block b (how.lt b hb).2 (by have := (how.lt b hb).1; simp; omega), fun s hs => ?_, Row.nil _ _ _ _, by simp [most], (fun ad e => by cases e), (fun s hs => by simp at hs), (fun s hs => by simp at hs), (h3.turn.then_ T2 (fun k hk => .inr (by have := hlo2 k hk; omega))).then_ t1 (fun k hk => by simp at hk; subst hk; exact .inr (by omega)), h.hs, hh, hg, hlo⟩
  rcases List.mem_append.1 hs with hs | hs
  · exact h.ptxt s hs
  · obtain rfl : s = y := by simpa using hs
    exact hy
theorem FD.done {W' : World} {q : Tf × PS} (h : FD lo w W g fb r S pa pc xs T ba bc b) (hl : xs.length ≤ 100001) (ht : Turn [w.heap.size] W W') (hq : q = (⟨S.data.toList, xs, T, b.map coreS⟩, r)) : EvF lo w g q (.returned (.agg #[.string S, .slice pa xs.length pc, .int .u8 T, .slice ba b.length bc])) W' := by
  subst hq
  have hh := h.hi
  obtain ⟨k1, k2, k3⟩ := h.keep ht (fun k hk => by simp at hk; omega)
  refine ⟨⟨S, pa, pc, xs.map toPar, T, ba, bc, b⟩, by simp [fnV], ?_, ⟨row_par (k1.row parCT_len), k2, k3, by rw [List.length_map]; unfold most; omega, h.blen, h.hs, fun p hp => ?_⟩, ⟨fun ad e => ?_, fun ad e => by have := h.bnew ad e; omega, fun s hs => (h.bn s hs).mono (by omega)⟩, h.rd.but ht h.lo, h.turn.then_ ht (fun k hk => by simp at hk; subst hk; exact .inr (Nat.le_refl _))⟩
  · unfold coreF
    rw [core_par]
  · obtain ⟨t, ht, rfl⟩ := List.mem_map.1 hp
    show (bs t.s).size ≤ maxLen
    rw [Lex.bs_size]
    have := h.ptxt t ht
    unfold maxLen
    omega
  · dsimp only at e
    subst e
    have := (h.own.lt ad.block rfl).1
    omega
end
structure FnAt (lo : Nat) (w wr : World) (g fb : Nat) (S : ByteArray) (r0 r' : PS) (pa : Option Addr) (pc : Nat) (xs : List Tp) : Prop where
  b : FD lo w wr g fb r' S pa pc xs 0 none 0 []
  told : tellP [] r0 = tellP xs r'
  len : xs.length + lenR r' ≤ 100000
structure FnEnd (lo : Nat) (w wr : World) (g fb : Nat) (S : ByteArray) (r0 r' : PS) (pa : Option Addr) (pc : Nat) (xs : List Tp) : Prop where
  b : FD lo w wr g fb r' S pa pc xs 0 none 0 []
  told : tellP [] r0 = (xs, mustW r' [41])
  len : xs.length ≤ 100001
theorem par_end {r0 r' : PS} {xs : List Tp} (h : tellP [] r0 = tellP xs r') (hb : (r'.bad || isW r' [41]) = true) : tellP [] r0 = (xs, mustW r' [41]) := by
  rw [h, tellP_eq, if_pos hb]
theorem par_last {r0 r' : PS} {xs : List Tp} (h : tellP [] r0 = tellP xs r') (hb : r'.bad = false) (hi : isW r' [41] = false) (hc : isW (typeMust (wordR r' 1 false)) [44] = false) : tellP [] r0 = (xs ++ [⟨wordS r' 1 false, typeN (wordR r' 1 false)⟩], mustW (typeMust (wordR r' 1 false)) [41]) := by
  rw [h, tellP_eq, if_neg (by simp [hb, hi]), if_neg (by simp [hc])]
theorem par_bad {r0 r' : PS} {xs : List Tp} (h : tellP [] r0 = tellP xs r') (hb : r'.bad = false) (hi : isW r' [41] = false) (hc : isW (typeMust (wordR r' 1 false)) [44] = true) (hd : isW (tl (typeMust (wordR r' 1 false))) [41] = true) : tellP [] r0 = tellP (xs ++ [⟨wordS r' 1 false, typeN (wordR r' 1 false)⟩]) (badR (tl (typeMust (wordR r' 1 false)))) := by
  rw [h, tellP_eq, if_neg (by simp [hb, hi]), if_pos hc, if_pos hd]
  conv => rhs; rw [tellP_eq]
  rw [if_pos (by simp [badR])]
theorem par_more {r0 r' : PS} {xs : List Tp} (h : tellP [] r0 = tellP xs r') (hb : r'.bad = false) (hi : isW r' [41] = false) (hc : isW (typeMust (wordR r' 1 false)) [44] = true) (hd : isW (tl (typeMust (wordR r' 1 false))) [41] = false) : tellP [] r0 = tellP (xs ++ [⟨wordS r' 1 false, typeN (wordR r' 1 false)⟩]) (tl (typeMust (wordR r' 1 false))) := by
  rw [h, tellP_eq, if_neg (by simp [hb, hi]), if_pos hc, if_neg (by simp [hd])]
theorem typeMust_len (r : PS) : lenR (typeMust (wordR r 1 false)) ≤ lenR r := Nat.le_trans (typeMust_lenR _) (lenR_wordR _ _ _)
end Go.Proofs.YtlhbhpdpjidpgaaGreatDoor.Prs
/- The document's functions. Condition: the reader is known. -/
namespace Go.Proofs.YtlhbhpdpjidpgaaGreatDoor.Prs
open Go.RowKit Tre Prg
open Lex (Wd wdC wdV bs str Turn)
set_option maxRecDepth 100000
set_option linter.unusedSimpArgs false
variable {lo : Nat}
set_option maxHeartbeats 16000000 in
theorem fn_any (w : World) (g : Nat) (r : PS) (h : RdM lo w g r) : Calls Tryz.prog 25 #[.pointer (some ⟨g, 0, none⟩)] w (EvF lo w g (fnD r)) := by
  have HG := Lib.hid h.lt
  have HLO := Lib.hid h.wlo
  have HLR := Lib.hid (lenR_le h)
  have HB := Lib.hid (ball_new w #[.string ⟨#[]⟩, .slice none 0 0, .int .u8 0, .slice none 0 0] 51)
  have CW := Lib.hid (word_any _ g r 1 false (by decide) (h.below HB.out))
  have HSZ := Lib.hid (wordS_size h 1 false)
  have HSD : Hid ((bs (wordS r 1 false)).data.toList = wordS r 1 false) := Lib.hid (Lex.bs_data _)
  have HQ : Hid (fnD r = (⟨wordS r 1 false, (tellP [] (mustW (wordR r 1 false) [40])).1, typeN (tellP [] (mustW (wordR r 1 false) [40])).2, (tellS .block (typeR (tellP [] (mustW (wordR r 1 false) [40])).2)).1⟩,
    ⟨(tellS .block (typeR (tellP [] (mustW (wordR r 1 false) [40])).2)).2.l, (tellS .block (typeR (tellP [] (mustW (wordR r 1 false) [40])).2)).2.bad, (tellS .block (typeR (tellP [] (mustW (wordR r 1 false) [40])).2)).2.big || decide (4 < (tellP [] (mustW (wordR r 1 false) [40])).1.length)⟩)) := Lib.hid rfl
  have HL1 := Lib.hid (Nat.le_trans (lenR_mustW (wordR r 1 false) [40]) (lenR_wordR r 1 false))
  clear h
  generalize fnD r = q at *
  generalize wordR r 1 false = r1 at *
  generalize wordS r 1 false = ss at *
  generalize bs ss = S at *
  go_enter Tryz.func25, Tryz.ntmps25
  go_wp2_with fail
  refine CW.out.mono ?_
  rintro e w1 ⟨rfl, h1, h2⟩
  have HR1 := Lib.hid (res_keep9 HG.out h2)
  have HBN := Lib.hid (ball_new w1 #[.string S, .slice none 0 0, .int .u8 0, .slice none 0 0] 51)
  have B0 : Hid (FD lo w (w1.alloc (.cells #[.string S, .slice none 0 0, .int .u8 0, .slice none 0 0] 51)) g w1.heap.size r1 S none 0 [] 0 none 0 []) := Lib.hid ⟨h1.below HBN.out, new_at w1 _ _, (HBN.out.block _ (lt_of_heap HR1.out)).trans HR1.out, OwnG.nil _ _, (fun x hx => by simp at hx), Row.nil _ _ _ _, by simp [most], (fun ad e => by cases e), (fun s hs => by simp at hs), (fun s hs => by simp at hs), (((Turn.refl [g] w).below HB.out).trans h2).below HBN.out, HSZ.out, lt_of_heap HR1.out, HG.out, HLO.out⟩
  clear h1 h2 CW HR1 HBN HB HSZ
  have CM := Lib.hid (must_any _ g r1 [40] B0.out.rd)
  go_wp2_with fail
  generalize w1.heap.size = fb at *
  refine CM.out.mono ?_
  rintro e w2 ⟨rfl, h1, h2⟩
  have B1 := Lib.hid (B0.out.turned h2 h1)
  clear h1 h2 CM B0
  generalize mustW r1 [40] = r2 at *
  have START : Hid (FnAt lo w w2 g fb S r2 r2 none 0 []) := Lib.hid ⟨B1.out, rfl, by have := HLR.out; have := HL1.out; simp; omega⟩
  clear B1 HL1 HLR
  go_upto_block 0 with fail
  go_cut [] (fun wx => ∃ (r5 : PS) (pa : Option Addr) (pc : Nat) (xs : List Tp), Hid (FnEnd lo w wx g fb S r2 r5 pa pc xs))
  case first =>
    clear HQ
    go_wp2_with fail
    go_loopw [] (fun wr => ∃ (r' : PS) (pa : Option Addr) (pc : Nat) (xs : List Tp), Hid (FnAt lo w wr g fb S r2 r' pa pc xs)) (fun wr => remW wr g)
    case atStart => exact ⟨r2, none, 0, [], START⟩
    case round =>
      clear START
      obtain ⟨r', pa, pc, xs, HC⟩ := hrel
      have HM : Hid (remW wr g = lenR r') := Lib.hid HC.out.b.rd.rem
      obtain ⟨a, cc, hrd, -⟩ := HC.out.b.rd.at_
      have b1 := cell_at hrd 1
      simp only [List.getElem?_toArray, List.getElem?_cons_succ, List.getElem?_cons_zero] at b1
      clear hrd
      rcases Bool.eq_false_or_eq_true r'.bad with hbad | hbad
      · rw [hbad] at b1
        have HO : Hid (FnEnd lo w wr g fb S r2 r' pa pc xs) := Lib.hid ⟨HC.out.b, par_end HC.out.told (by simp [hbad]), by have := HC.out.len; omega⟩
        clear hbad
        go_wp2_with fail
        go_meet
        exact ⟨r', pa, pc, xs, HO⟩
      · rw [hbad] at b1
        rcases Bool.eq_false_or_eq_true (isW r' [41]) with hi | hi
        · have HT := Lib.hid (par_end HC.out.told (by simp [hi]))
          have CI := fun w' (h' : RdM lo w' g r') => (by have := is_any w' g r' [41] h'; rw [hi] at this; exact Lib.hid this : Hid (Calls Tryz.prog 51 #[.pointer (some ⟨g, 0, none⟩), .string (bs [41])] w' (EndsB (.bool true) w')))
          have CI := CI _ HC.out.b.rd
          clear hbad hi
          go_wp2_with fail
          refine CI.out.mono ?_
          rintro e v1 ⟨rfl, hb1⟩
          have HO : Hid (FnEnd lo w v1 g fb S r2 r' pa pc xs) := Lib.hid ⟨HC.out.b.below hb1, HT.out, by have := HC.out.len; omega⟩
          clear hb1
          go_wp2_with fail
          go_meet
          exact ⟨r', pa, pc, xs, HO⟩
        · have CI := fun w' (h' : RdM lo w' g r') => (by have := is_any w' g r' [41] h'; rw [hi] at this; exact Lib.hid this : Hid (Calls Tryz.prog 51 #[.pointer (some ⟨g, 0, none⟩), .string (bs [41])] w' (EndsB (.bool false) w')))
          have CI := CI _ HC.out.b.rd
          have T1 := Lib.hid (par_last HC.out.told hbad hi)
          have T2 := Lib.hid (par_bad HC.out.told hbad hi)
          have T3 := Lib.hid (par_more HC.out.told hbad hi)
          have HLN := Lib.hid HC.out.len
          have HL2 := Lib.hid (typeMust_len r')
          have HTX := Lib.hid (wordS_len HC.out.b.rd 1 false)
          clear hbad hi
          go_wp2_with fail
          refine CI.out.mono ?_
          rintro e v1 ⟨rfl, hb1⟩
          have B1 := Lib.hid (HC.out.b.below hb1)
          have CW := Lib.hid (word_any v1 g r' 1 false (by decide) B1.out.rd)
          clear hb1 CI HC b1
          rw [typeMust_eq] at T1 T2 T3 HL2
          generalize wordR r' 1 false = rw1 at *
          generalize wordS r' 1 false = ys at *
          go_wp2_with fail
          refine CW.out.mono ?_
          rintro e v2 ⟨rfl, h1, h2⟩
          have B2 := Lib.hid (B1.out.turned h2 h1)
          have CK : Hid (Calls Tryz.prog 52 #[.pointer (some ⟨g, 0, none⟩)] v2 (Lv lo v2 g (.int .u8 (typeN rw1)) (typeR rw1))) := Lib.hid (kind_any v2 g rw1 h1)
          clear h1 h2 CW B1
          generalize typeR rw1 = r4 at *
          generalize typeN rw1 = ty at *
          obtain ⟨Y, hY⟩ : ∃ Y, bs ys = Y := ⟨_, rfl⟩
          rw [hY]
          go_wp2_with fail
          refine CK.out.mono ?_
          rintro e v3 ⟨rfl, h1, h2⟩
          have B3 := Lib.hid (B2.out.turned h2 h1)
          clear h1 h2 CK B2
          have HBP := Lib.hid (ball_new v3 #[.string Y, .int .u8 ty] 67)
          have HNP := Lib.hid (new_at v3 #[.string Y, .int .u8 ty] 67)
          have B4 := Lib.hid (B3.out.below HBP.out)
          have HPG : Hid (g ≠ v3.heap.size) := Lib.hid (by have := B3.out.rd.lt; omega)
          obtain ⟨p0, p1⟩ : (v3.alloc (.cells #[.string Y, .int .u8 ty] 67)).cell? ⟨v3.heap.size, 0, none⟩ = some (.string Y) ∧ (v3.alloc (.cells #[.string Y, .int .u8 ty] 67)).cell? ⟨v3.heap.size, 1, none⟩ = some (.int .u8 ty) := ⟨cell_at HNP.out 0, cell_at HNP.out 1⟩
          obtain ⟨a, cc, hrd, -⟩ := B4.out.rd.at_
          have b1 := cell_at hrd 1
          simp only [List.getElem?_toArray, List.getElem?_cons_succ, List.getElem?_cons_zero] at b1
          have fb1 := free_at hrd 1
          clear hrd
          obtain ⟨B, hB⟩ : ∃ B, (r4.bad || ty == 0) = B := ⟨_, rfl⟩
          rw [hB] at T1 T2 T3 HL2
          have HB1 : Hid (r4.bad = true → B = true) := Lib.hid (fun h => by rw [← hB, h]; rfl)
          have HB2 : Hid (r4.bad = false → B = (ty == 0)) := Lib.hid (fun h => by rw [← hB, h]; rfl)
          clear hB
          obtain ⟨W5, hW5⟩ : ∃ W, (v3.alloc (.cells #[.string Y, .int .u8 ty] 67)).setCell ⟨g, 1, none⟩ (.bool B) = W := ⟨_, rfl⟩
          have B5 : Hid (FD lo w W5 g fb ⟨r4.l, B, r4.big⟩ S pa pc xs 0 none 0 []) := Lib.hid (by rw [← hW5]; exact B4.out.turned (turn1 _ g 1 _) (B4.out.rd.bads B))
          obtain ⟨p5, q5⟩ : W5.cell? ⟨v3.heap.size, 0, none⟩ = some (.string Y) ∧ W5.cell? ⟨v3.heap.size, 1, none⟩ = some (.int .u8 ty) := by
            have : W5.heap[v3.heap.size]? = some (.cells #[.string Y, .int .u8 ty] 67 (0, 0)) := by
              rw [← hW5]
              exact ((turn1 _ g 1 _).block _ (lt_of_heap HNP.out) (by have := HPG.out; simp; omega)).trans HNP.out
            exact ⟨cell_at this 0, cell_at this 1⟩
          obtain ⟨z0, z1, z2, z3⟩ := Tre.four_at B5.out.at_
          simp only [List.length_nil] at z3
          obtain ⟨A2, c2, u2, hap, hat, hb⟩ := B5.out.push (y := ⟨ys, ty⟩) HTX.out (by have := HLN.out; omega)
          dsimp only at hap
          rw [hY] at hap
          have HAP := Lib.hid hap
          have f1 := free_at hat 1
          obtain ⟨t0, t1, t2, t3⟩ := Tre.four_at hat

          obtain ⟨zs, hzs⟩ : ∃ zs, xs ++ [(⟨ys, ty⟩ : Tp)] = zs := ⟨_, rfl⟩
          have HZL : Hid (zs.length = xs.length + 1) := Lib.hid (by rw [← hzs, List.length_append]; rfl)
          rw [hzs] at HAP hb T1 T2 T3
          obtain ⟨n2, hn2⟩ : ∃ n, zs.length = n := ⟨_, rfl⟩
          rw [hn2] at HAP hb
          obtain ⟨U, hU⟩ : ∃ W, u2.setCell ⟨fb, 1, none⟩ (.slice A2 n2 c2) = W := ⟨_, rfl⟩
          rw [hU] at hb
          have B6 := Lib.hid hb
          clear hap hat hb HBP HNP B4 B3 hY hzs B5
          generalize (⟨r4.l, B, r4.big⟩ : PS) = r5 at *
          rcases Bool.eq_false_or_eq_true (isW r5 [44]) with hc | hc
          · have CK := Lib.hid (skip_yes U g r5 [44] B6.out.rd hc)
            have HC4 := Lib.hid (lenR_pos hc)
            have HTL := Lib.hid (lenR_tl r5)
            have T2 := Lib.hid (T2.out hc)
            have T3 := Lib.hid (T3.out hc)
            rcases Bool.eq_false_or_eq_true (isW (tl r5) [41]) with hd | hd
            · have CI := fun w' (h' : RdM lo w' g (tl r5)) => (by have := is_any w' g (tl r5) [41] h'; rw [hd] at this; exact Lib.hid this : Hid (Calls Tryz.prog 51 #[.pointer (some ⟨g, 0, none⟩), .string (bs [41])] w' (EndsB (.bool true) w')))
              have T2 := Lib.hid (T2.out hd)
              clear hc hd T1 T3
              rcases Bool.eq_false_or_eq_true r4.bad with hb | hb
              · rw [hb] at b1
                rw [HB1.out hb] at hW5
                clear hb HB1 HB2
                go_wp2_with (at_builtin; refine wpList_appG 48 rfl (.tmp 38) (.tmp 40) rfl (.slice pa xs.length pc) (.slice (some ⟨W5.heap.size, 0, none⟩) 1 1) _ rfl rfl HAP.out ?_)
                refine CK.out.mono ?_
                rintro e v5 ⟨rfl, h1, h2⟩
                have B7 := Lib.hid (B6.out.turned h2 h1)
                clear h1 h2 CK HAP B6 b1 fb1 p0 p1 p5 q5 z0 z1 z2 z3 f1 t0 t1 t2 t3 hU hW5
                have CI5 := CI _ B7.out.rd
                clear CI
                go_wp2_with fail
                refine CI5.out.mono ?_
                rintro e v6 ⟨rfl, hb6⟩
                have B8 := Lib.hid (B7.out.below hb6)
                clear hb6 CI5 B7
                obtain ⟨a6, c6, hrd6, -⟩ := B8.out.rd.at_
                have b6 := cell_at hrd6 1
                have fb6 := free_at hrd6 1
                clear hrd6
                have HN : Hid (FnAt lo w (v6.setCell ⟨g, 1, none⟩ (.bool true)) g fb S r2 (badR (tl r5)) A2 c2 zs) := Lib.hid ⟨B8.out.turned (turn1 _ g 1 _) (B8.out.rd.bads true), T2.out, by
                  have := HLN.out
                  have := HL2.out
                  have := HC4.out
                  have := HZL.out
                  rw [lenR_badR]
                  omega⟩
                go_wp2_with fail
                go_roundw
                case rel => exact ⟨_, A2, c2, zs, HN⟩
                case measure =>
                  rw [HN.out.b.rd.rem, HM.out, lenR_badR]
                  have := HL2.out
                  have := HC4.out
                  omega
              · rw [hb] at b1
                rw [HB2.out hb] at hW5
                clear hb HB1 HB2
                go_wp2_with (at_builtin; refine wpList_appG 48 rfl (.tmp 38) (.tmp 40) rfl (.slice pa xs.length pc) (.slice (some ⟨W5.heap.size, 0, none⟩) 1 1) _ rfl rfl HAP.out ?_)
                refine CK.out.mono ?_
                rintro e v5 ⟨rfl, h1, h2⟩
                have B7 := Lib.hid (B6.out.turned h2 h1)
                clear h1 h2 CK HAP B6 b1 fb1 p0 p1 p5 q5 z0 z1 z2 z3 f1 t0 t1 t2 t3 hU hW5
                have CI5 := CI _ B7.out.rd
                clear CI
                go_wp2_with fail
                refine CI5.out.mono ?_
                rintro e v6 ⟨rfl, hb6⟩
                have B8 := Lib.hid (B7.out.below hb6)
                clear hb6 CI5 B7
                obtain ⟨a6, c6, hrd6, -⟩ := B8.out.rd.at_
                have b6 := cell_at hrd6 1
                have fb6 := free_at hrd6 1
                clear hrd6
                have HN : Hid (FnAt lo w (v6.setCell ⟨g, 1, none⟩ (.bool true)) g fb S r2 (badR (tl r5)) A2 c2 zs) := Lib.hid ⟨B8.out.turned (turn1 _ g 1 _) (B8.out.rd.bads true), T2.out, by
                  have := HLN.out
                  have := HL2.out
                  have := HC4.out
                  have := HZL.out
                  rw [lenR_badR]
                  omega⟩
                go_wp2_with fail
                go_roundw
                case rel => exact ⟨_, A2, c2, zs, HN⟩
                case measure =>
                  rw [HN.out.b.rd.rem, HM.out, lenR_badR]
                  have := HL2.out
                  have := HC4.out
                  omega
            · have CI := fun w' (h' : RdM lo w' g (tl r5)) => (by have := is_any w' g (tl r5) [41] h'; rw [hd] at this; exact Lib.hid this : Hid (Calls Tryz.prog 51 #[.pointer (some ⟨g, 0, none⟩), .string (bs [41])] w' (EndsB (.bool false) w')))
              have T3 := Lib.hid (T3.out hd)
              clear hc hd T1 T2
              rcases Bool.eq_false_or_eq_true r4.bad with hb | hb
              · rw [hb] at b1
                rw [HB1.out hb] at hW5
                clear hb HB1 HB2
                go_wp2_with (at_builtin; refine wpList_appG 48 rfl (.tmp 38) (.tmp 40) rfl (.slice pa xs.length pc) (.slice (some ⟨W5.heap.size, 0, none⟩) 1 1) _ rfl rfl HAP.out ?_)
                refine CK.out.mono ?_
                rintro e v5 ⟨rfl, h1, h2⟩
                have B7 := Lib.hid (B6.out.turned h2 h1)
                clear h1 h2 CK HAP B6 b1 fb1 p0 p1 p5 q5 z0 z1 z2 z3 f1 t0 t1 t2 t3 hU hW5
                have CI5 := CI _ B7.out.rd
                clear CI
                go_wp2_with fail
                refine CI5.out.mono ?_
                rintro e v6 ⟨rfl, hb6⟩
                have HN : Hid (FnAt lo w v6 g fb S r2 (tl r5) A2 c2 zs) := Lib.hid ⟨B7.out.below hb6, T3.out, by
                  have := HLN.out
                  have := HL2.out
                  have := HC4.out
                  have := HZL.out
                  have := HTL.out
                  omega⟩
                clear hb6 CI5 B7
                go_wp2_with fail
                go_roundw
                case rel => exact ⟨_, A2, c2, zs, HN⟩
                case measure =>
                  rw [HN.out.b.rd.rem, HM.out]
                  have := HL2.out
                  have := HC4.out
                  have := HTL.out
                  omega
              · rw [hb] at b1
                rw [HB2.out hb] at hW5
                clear hb HB1 HB2
                go_wp2_with (at_builtin; refine wpList_appG 48 rfl (.tmp 38) (.tmp 40) rfl (.slice pa xs.length pc) (.slice (some ⟨W5.heap.size, 0, none⟩) 1 1) _ rfl rfl HAP.out ?_)
                refine CK.out.mono ?_
                rintro e v5 ⟨rfl, h1, h2⟩
                have B7 := Lib.hid (B6.out.turned h2 h1)
                clear h1 h2 CK HAP B6 b1 fb1 p0 p1 p5 q5 z0 z1 z2 z3 f1 t0 t1 t2 t3 hU hW5
                have CI5 := CI _ B7.out.rd
                clear CI
                go_wp2_with fail
                refine CI5.out.mono ?_
                rintro e v6 ⟨rfl, hb6⟩
                have HN : Hid (FnAt lo w v6 g fb S r2 (tl r5) A2 c2 zs) := Lib.hid ⟨B7.out.below hb6, T3.out, by
                  have := HLN.out
                  have := HL2.out
                  have := HC4.out
                  have := HZL.out
                  have := HTL.out
                  omega⟩
                clear hb6 CI5 B7
                go_wp2_with fail
                go_roundw
                case rel => exact ⟨_, A2, c2, zs, HN⟩
                case measure =>
                  rw [HN.out.b.rd.rem, HM.out]
                  have := HL2.out
                  have := HC4.out
                  have := HTL.out
                  omega
          · have CK := Lib.hid (skip_no U g r5 [44] B6.out.rd hc)
            have T1 := Lib.hid (T1.out hc)
            clear hc T2 T3
            rcases Bool.eq_false_or_eq_true r4.bad with hb | hb
            · rw [hb] at b1
              rw [HB1.out hb] at hW5
              clear hb HB1 HB2
              go_wp2_with (at_builtin; refine wpList_appG 48 rfl (.tmp 38) (.tmp 40) rfl (.slice pa xs.length pc) (.slice (some ⟨W5.heap.size, 0, none⟩) 1 1) _ rfl rfl HAP.out ?_)
              refine CK.out.mono ?_
              rintro e v5 ⟨rfl, h1, h2⟩
              have B7 := Lib.hid (B6.out.turned h2 h1)
              clear h1 h2 CK HAP B6 b1 fb1 p0 p1 p5 q5 z0 z1 z2 z3 f1 t0 t1 t2 t3 hU hW5
              have HO : Hid (FnEnd lo w v5 g fb S r2 r5 A2 c2 zs) := Lib.hid ⟨B7.out, T1.out, by have := HLN.out; have := HZL.out; omega⟩
              go_wp2_with fail
              go_meet
              exact ⟨r5, A2, c2, zs, HO⟩
            · rw [hb] at b1
              rw [HB2.out hb] at hW5
              clear hb HB1 HB2
              go_wp2_with (at_builtin; refine wpList_appG 48 rfl (.tmp 38) (.tmp 40) rfl (.slice pa xs.length pc) (.slice (some ⟨W5.heap.size, 0, none⟩) 1 1) _ rfl rfl HAP.out ?_)
              refine CK.out.mono ?_
              rintro e v5 ⟨rfl, h1, h2⟩
              have B7 := Lib.hid (B6.out.turned h2 h1)
              clear h1 h2 CK HAP B6 b1 fb1 p0 p1 p5 q5 z0 z1 z2 z3 f1 t0 t1 t2 t3 hU hW5
              have HO : Hid (FnEnd lo w v5 g fb S r2 r5 A2 c2 zs) := Lib.hid ⟨B7.out, T1.out, by have := HLN.out; have := HZL.out; omega⟩
              go_wp2_with fail
              go_meet
              exact ⟨r5, A2, c2, zs, HO⟩
  case rest =>
    obtain ⟨r5, pa, pc, xs, HE⟩ := hcut
    clear START
    rw [HE.out.told] at HQ
    dsimp only at HQ
    have HLX := Lib.hid HE.out.len
    have CM := Lib.hid (must_any _ g r5 [41] HE.out.b.rd)
    have BE := Lib.hid HE.out.b
    clear HE
    generalize mustW r5 [41] = r6 at *
    go_wp2_with fail
    refine CM.out.mono ?_
    rintro e v1 ⟨rfl, h1, h2⟩
    have B1 := Lib.hid (BE.out.turned h2 h1)
    have CK : Hid (Calls Tryz.prog 52 #[.pointer (some ⟨g, 0, none⟩)] v1 (Lv lo v1 g (.int .u8 (typeN r6)) (typeR r6))) := Lib.hid (kind_any v1 g r6 h1)
    clear h1 h2 CM BE
    generalize typeR r6 = r7 at *
    generalize typeN r6 = ty at *
    go_wp2_with fail
    refine CK.out.mono ?_
    rintro e v2 ⟨rfl, h1, h2⟩
    have B2 := Lib.hid (B1.out.turned h2 h1)
    have B3 := Lib.hid (B2.out.setT (T' := ty))
    clear h1 h2 CK B1
    have e2 := free_at B2.out.at_ 2
    obtain ⟨z0, z1, z2, z3⟩ := Tre.four_at B2.out.at_
    simp only [List.length_nil] at z3
    obtain ⟨W3, hW3⟩ : ∃ W, v2.setCell ⟨fb, 2, none⟩ (.int .u8 ty) = W := ⟨_, rfl⟩
    rw [hW3] at B3
    have CB := Lib.hid (blockD W3 g r7 B3.out.rd)
    go_wp2_with fail
    clear e2 z0 z1 z2 z3 B2 hW3
    generalize tellS .block r7 = p at *
    refine CB.out.mono ?_
    rintro e v8 ⟨ba, bc, l, rfl, ha, hrow, hlen, hnew, hin, hnn, hr, ht⟩
    have HA := Lib.hid ha
    have B9 := Lib.hid (B3.out.turned ht hr)
    have B10 := Lib.hid (B3.out.setB (d := bc) hrow hlen hnew hin hnn hr ht)
    clear ha hrow hlen hnew hin hnn hr ht CB B3
    have e3 := free_at B9.out.at_ 3
    obtain ⟨z0, z1, z2, z3⟩ := Tre.four_at B9.out.at_
    simp only [List.length_nil] at z3
    obtain ⟨W4, hW4⟩ : ∃ W, v8.setCell ⟨fb, 3, none⟩ (.slice ba l.length bc) = W := ⟨_, rfl⟩
    rw [hW4] at B10
    obtain ⟨x0, x1, x2, x3⟩ := Tre.four_at B10.out.at_
    obtain ⟨a6, c6, hrd6, -⟩ := B10.out.rd.at_
    have b2 := cell_at hrd6 2
    have fb2 := free_at hrd6 2
    simp only [List.getElem?_toArray, List.getElem?_cons_succ, List.getElem?_cons_zero] at b2
    clear hrd6 B9
    have B11 := fun B => Lib.hid (B10.out.turned (turn1 _ g 2 (.bool B)) (B10.out.rd.bigged B))
    rcases Bool.eq_false_or_eq_true p.2.big with hbig | hbig
    · rw [hbig] at b2 HQ
      have B12 := B11 true
      obtain ⟨y0, y1, y2, y3⟩ := Tre.four_at B12.out.at_
      obtain ⟨v0, v1, v2, v3⟩ := Tre.four_at B12.out.res
      have f0 := free_at B12.out.res 0
      have f1 := free_at B12.out.res 1
      have f2 := free_at B12.out.res 2
      have f3 := free_at B12.out.res 3
      go_wp2_with fail
      have HT := Lib.hid (turn4 (W4.setCell ⟨g, 2, none⟩ (.bool (true))) w.heap.size (.string S) (.slice pa xs.length pc) (.int .u8 ty) (.slice ba l.length bc))
      refine bodyPost_ret (results_fn rfl _ _ w.heap.size _ _ _ _ rfl (set4 B12.out.res)) rfl ?_
      exact B12.out.done HLX.out HT.out (by rw [HQ.out, HSD.out, HA.out, Bool.true_or])
    · rw [hbig] at b2 HQ
      have B12 := B11 (decide ((4 : Int) < (xs.length : Int)))
      obtain ⟨y0, y1, y2, y3⟩ := Tre.four_at B12.out.at_
      obtain ⟨v0, v1, v2, v3⟩ := Tre.four_at B12.out.res
      have f0 := free_at B12.out.res 0
      have f1 := free_at B12.out.res 1
      have f2 := free_at B12.out.res 2
      have f3 := free_at B12.out.res 3
      go_wp2_with fail
      have HT := Lib.hid (turn4 (W4.setCell ⟨g, 2, none⟩ (.bool (decide ((4 : Int) < (xs.length : Int))))) w.heap.size (.string S) (.slice pa xs.length pc) (.int .u8 ty) (.slice ba l.length bc))
      refine bodyPost_ret (results_fn rfl _ _ w.heap.size _ _ _ _ rfl (set4 B12.out.res)) rfl ?_
      exact B12.out.done HLX.out HT.out (by rw [HQ.out, HSD.out, HA.out]; congr 2; exact Bool.eq_iff_iff.2 (by simp only [Bool.false_or, decide_eq_true_eq]; omega))
end Go.Proofs.YtlhbhpdpjidpgaaGreatDoor.Prs
/- Show: a word as it is written. Conditions: sizes; the number is an int64; the library's table of powers lies as it is laid. -/
namespace Go.Proofs.YtlhbhpdpjidpgaaGreatDoor.Lex
open Go.RowKit
open Num (EndsW)
set_option maxRecDepth 100000
theorem cat_bs (a b : List UInt8) : bs a ++ bs b = bs (a ++ b) := by
  apply ByteArray.ext
  simp [bs]
def newW (w : World) (k : Int) (S : ByteArray) (n : Int) : World := w.alloc (.cells #[.int .i64 k, .string S, .int .i64 n] 73)
theorem new_below (w : World) (k : Int) (S : ByteArray) (n : Int) : Below w.heap.size w (newW w k S n) := (Below.refl _ w).alloc (Nat.le_refl _) _
theorem new_at (w : World) (k : Int) (S : ByteArray) (n : Int) : (newW w k S n).heap[w.heap.size]? = some (.cells #[.int .i64 k, .string S, .int .i64 n] 73 (0, 0)) := heap_alloc_new _ _
theorem endsb_str {a b : List UInt8} {w w1 w' : World} (hab : a = b) (h1 : Below w.heap.size w w1) (h2 : Below w1.heap.size w1 w') : EndsB (str b) w (.returned (.string (bs a))) w' := by subst hab; exact ⟨rfl, h1.trans (h2.mono h1.size)⟩
end Go.Proofs.YtlhbhpdpjidpgaaGreatDoor.Lex
/- What the document's Digits answers: the decimal numeral. -/
namespace Go.Proofs.YtlhbhpdpjidpgaaGreatDoor.Num
open Go.RowKit
set_option maxRecDepth 100000
/-- A text of one byte, made of a slice of one. -/
theorem conv_one (w : World) (x : Int) : (convert 151 9 (.slice (some ⟨w.heap.size, 0, none⟩) 1 1)).run Tryz.prog (w.alloc (.cells #[.int .u8 x] 5)) = .ok (.string (strOfNums [x])) (w.alloc (.cells #[.int .u8 x] 5)) :=
  run_convert_bytes_arg (P := Tryz.prog) (w.alloc (.cells #[.int .u8 x] 5)) 151 5 Tryz.underlying151 Tryz.underlying5 w.heap.size 0 1 1 [x] rfl (fun i hi => by
    obtain rfl : i = 0 := by omega
    simp [go_sem]) 9 Tryz.underlying9
theorem cat (a b : List UInt8) : (⟨a.toArray⟩ : ByteArray) ++ ⟨b.toArray⟩ = ⟨(a ++ b).toArray⟩ := by
  apply ByteArray.ext
  simp
theorem itoa_split (n : Int) (h : 10 ≤ n) : Lib.itoa (n / 10) ++ Lib.itoa (n % 10) = Lib.itoa n := by
  unfold Lib.itoa
  rw [if_neg (by omega), if_neg (by omega), if_neg (by omega), decDigits_ge (u := n.toNat) (by omega), decDigits_lt (u := (n % 10).toNat) (by omega)]
  rw [show (n / 10).toNat = n.toNat / 10 by omega, show (n % 10).toNat = n.toNat % 10 by omega]
theorem tdiv_neg (n : Int) (h : n < 0) : n.tdiv 10 = -((-n) / 10) := by
  rw [show n = -(-n) by omega, Int.neg_tdiv, Int.tdiv_eq_ediv_of_nonneg (by omega), Int.neg_neg]
theorem tmod_neg (n : Int) (h : n < 0) : n.tmod 10 = -((-n) % 10) := by
  rw [show n = -(-n) by omega, Int.neg_tmod, Int.tmod_eq_emod_of_nonneg (by omega), Int.neg_neg]
theorem itoa_splitn (n : Int) (h : n < -9) : Lib.itoa (n.tdiv 10) ++ Lib.itoa (-n.tmod 10) = Lib.itoa n := by
  rw [tdiv_neg n (by omega), tmod_neg n (by omega), Int.neg_neg]
  unfold Lib.itoa
  rw [if_pos (by omega), if_neg (by omega), if_pos (by omega), decDigits_ge (u := n.natAbs) (by omega), decDigits_lt (u := (-n % 10).toNat) (by omega)]
  rw [show (-(-n / 10)).natAbs = n.natAbs / 10 by omega, show (-n % 10).toNat = n.natAbs % 10 by omega]
  rfl
end Go.Proofs.YtlhbhpdpjidpgaaGreatDoor.Num
