/-
  The program's parameters. Condition: the reader is known.
-/
import Derived.Test.YtlhbhpdpjidpgaaGreatDoorZ26
import Derived.Test.YtlhbhpdpjidpgaaGreatDoorZ33
import Derived.Test.YtlhbhpdpjidpgaaGreatDoorZ34
namespace Go.Proofs.YtlhbhpdpjidpgaaGreatDoor.Prg
open Go.RowKit Tre Prs
open Lex (Wd wdC wdV bs str Turn)
set_option maxRecDepth 100000
set_option linter.unusedSimpArgs false
variable {lo : Nat}
def parCT (t : Tp) : List Value := [.string (bs t.s), .int .u8 t.t]
theorem parCT_len (t : Tp) : (parCT t).length = 2 := rfl
theorem parCT_one (t : Tp) : ∀ u ∈ parCT t, u.oneCell' = true := fun u hu => by
  simp only [parCT, List.mem_cons, List.not_mem_nil, or_false] at hu
  rcases hu with rfl | rfl <;> rfl
theorem infoP : (Tryz.prog.info? 67).map (fun i => (i.zero, i.size, i.bytes)) = some (some (.agg #[.string ⟨#[]⟩, .int .u8 0]), 2, 24) := by kernel_rfl
theorem app_par (w : World) (b0 : Nat) (v : Value) (l : List Tp) (x : Tp) (eb : Nat) (h : OwnG 2 parCT 67 w b0 v l) (he : w.heap[eb]? = some (.cells #[.string (bs x.s), .int .u8 x.t] 67 (0, 0))) (hl : l.length ≤ 1000000) (hlo : b0 ≤ w.heap.size) :
    ∃ v2 w2, (∀ ty, (Builtin.append_ #[48, 48] ty #[v, .slice (some ⟨eb, 0, none⟩) 1 1]).run Tryz.prog w = .ok v2 w2) ∧ OwnG 2 parCT 67 w2 b0 v2 (l ++ [x]) ∧ w.grownBy w2 v.ownBlock ∧ (v2.ownBlock = v.ownBlock ∨ v2.ownBlock = some w.heap.size) := by
  obtain ⟨i0, hi0, hz0, hz1, hz2⟩ := Lex.info_of infoP
  exact OwnG.app Tryz.underlying48 hi0 hz0 hz1 hz2 rfl (by decide) parCT_len parCT_one w v l x eb h he hl (by decide) hlo
theorem results_par {fn : Func} {p : Tmp} (h : fn.results = #[.cell p 67]) (tmps : Array Value) (w : World) (g : Nat) (v0 v1 : Value) (hv : tmps.getD p undef = .pointer (some ⟨g, 0, none⟩)) (hc : w.heap[g]? = some (.cells #[v0, v1] 67 (0, 0))) :
    (results fn tmps).run Tryz.prog w = .ok (.agg #[v0, v1]) w := by
  have a4 := Tryz.isAgg67
  have z4 := Tryz.sizeOf67
  have c0 := cell_at hc 0
  have c1 := cell_at hc 1
  simp only [List.getElem?_toArray, List.getElem?_cons_succ, List.getElem?_cons_zero] at c0 c1
  simp only [Array.getD_eq_getD_getElem?] at hv
  unfold results
  rw [h]
  go_simp
set_option maxHeartbeats 4000000 in
theorem param_any (w : World) (g : Nat) (r : PS) (h : RdG lo w g r) : Calls Tryz.prog 83 #[.pointer (some ⟨g, 0, none⟩)] w (Lg lo w g (.agg #[.string (bs (parT r).s), .int .u8 (parT r).t]) (parR r)) := by
  have HG := Lib.hid h.lt
  have HLO := Lib.hid h.wlo
  have HB := Lib.hid (ball_new w #[.string ⟨#[]⟩, .int .u8 0] 67)
  have HN := Lib.hid (new_at w #[.string ⟨#[]⟩, .int .u8 0] 67)
  have CN := Lib.hid (name_any _ g r (h.below HB.out))
  unfold parT parR
  clear h
  go_enter Tryz.func83, Tryz.ntmps83
  go_wp2_with fail
  refine CN.out.mono ?_
  rintro e w1 ⟨rfl, h1, h2⟩
  have CT := Lib.hid (typed_any w1 g _ h1)
  have H2 := Lib.hid h2
  clear h1 h2 CN
  go_wp2_with fail
  refine CT.out.mono ?_
  rintro e w2 ⟨rfl, h1, h3⟩
  have H1 := Lib.hid h1
  have H3 := Lib.hid (H2.out.trans h3)
  have HR := Lib.hid (res_keep HG.out H3.out)
  have f0 := free_at HR.out 0
  have f1 := free_at HR.out 1
  have y0 := cell_at HR.out 0
  have y1 := cell_at HR.out 1
  simp only [List.getElem?_toArray, List.getElem?_cons_succ, List.getElem?_cons_zero] at y0 y1
  clear h1 h3 CT
  generalize bs (takeW r [1]).s = S at *
  generalize typN (takeR r [1]) = T at *
  go_wp2_with fail
  have HS : Hid (((w2.setCell ⟨w.heap.size, 0, none⟩ (.string S)).setCell ⟨w.heap.size, 1, none⟩ (.int .u8 T)).heap[w.heap.size]? = some (.cells #[.string S, .int .u8 T] 67 (0, 0))) := Lib.hid (set_at (set_at HR.out 0 (.string S)) 1 (.int .u8 T))
  have HT : Hid (Turn [w.heap.size] w2 ((w2.setCell ⟨w.heap.size, 0, none⟩ (.string S)).setCell ⟨w.heap.size, 1, none⟩ (.int .u8 T))) := Lib.hid (((Turn.refl _ w2).setCell (.inl (by simp)) _).setCell (.inl (by simp)) _)
  refine bodyPost_ret (results_par rfl _ _ w.heap.size _ _ rfl HS.out) rfl ?_
  exact ⟨rfl, H1.out.but HT.out HLO.out, (((Turn.refl [g] w).below HB.out).then_ H3.out (fun k hk => .inl hk)).then_ HT.out (fun k hk => by simp at hk; subst hk; exact .inr (Nat.le_refl _))⟩
/-- The list's own memory. -/
structure HeldP (w wr : World) (g : Nat) (xs : List Tp) (A : Option Addr) (c : Nat) : Prop where
  own : OwnG 2 parCT 67 wr w.heap.size (.slice A xs.length c) xs
  turn : Turn [g] w wr
  g : g < w.heap.size
  txt : ∀ x ∈ xs, x.s.length ≤ 1000000
theorem HeldP.turned {w wr wr' : World} {g : Nat} {xs : List Tp} {A : Option Addr} {c : Nat} (h : HeldP w wr g xs A c) (ht : Turn [g] wr wr') : HeldP w wr' g xs A c := by
  have hg := h.g
  exact ⟨h.own.keep fun b hb => ht.block b (h.own.lt b hb).2 (by have := (h.own.lt b hb).1; simp; omega), h.turn.trans ht, hg, h.txt⟩
theorem HeldP.push {w v2 : World} {g c : Nat} {xs : List Tp} {A : Option Addr} {y : Tp} {r' : PS} (hh : HeldP w v2 g xs A c) (hy : y.s.length ≤ 1000000) (hl : xs.length ≤ 1000000) (hlo : lo ≤ w.heap.size) (hr : RdG lo v2 g r') :
    ∃ A2 c2 u2, (∀ ty, (Builtin.append_ #[48, 48] ty #[.slice A xs.length c, .slice (some ⟨v2.heap.size, 0, none⟩) 1 1]).run Tryz.prog (v2.alloc (.cells #[.string (bs y.s), .int .u8 y.t] 67)) = .ok (.slice A2 (xs ++ [y]).length c2) u2) ∧ HeldP w u2 g (xs ++ [y]) A2 c2 ∧ RdG lo u2 g r' := by
  have hb3 := ball_new v2 #[.string (bs y.s), .int .u8 y.t] 67
  have hn3 := new_at v2 #[.string (bs y.s), .int .u8 y.t] 67
  have hh3 := hh.turned ((Turn.refl [g] v2).below hb3)
  obtain ⟨vv, u2, hap, how, hgr, hbo⟩ := app_par _ w.heap.size (.slice A xs.length c) xs y v2.heap.size hh3.own hn3 hl hh3.turn.size
  obtain ⟨A2, c2, rfl, -⟩ := how.form
  have T2 : Turn (Value.slice A xs.length c).ownBlock.toList (v2.alloc (.cells #[.string (bs y.s), .int .u8 y.t] 67)) u2 := (Turn.refl _ _).grown hgr (fun k hk => .inl (by simp [hk]))
  have hlo2 : ∀ b ∈ (Value.slice A xs.length c).ownBlock.toList, w.heap.size ≤ b := fun b hb => (hh3.own.lt b (by simpa using hb)).1
  exact ⟨A2, c2, u2, hap, ⟨how, hh3.turn.then_ T2 (fun k hk => .inr (hlo2 k hk)), hh.g, fun x hx => by
    rcases List.mem_append.1 hx with hx | hx
    · exact hh.txt x hx
    · obtain rfl : x = y := by simpa using hx
      exact hy⟩, (hr.below hb3).buts T2 (fun b hb => by have := hlo2 b hb; omega)⟩
def EvLP (lo : Nat) (w : World) (g : Nat) (r : PS) (e : Ending) (w' : World) : Prop := ∃ (A : Option Addr) (c : Nat) (xs : List Tp) (r' : PS), e = .returned (.slice A xs.length c) ∧ AgLP r xs r' ∧ Row 2 parCT w' A xs ∧ xs.length ≤ 200000 ∧ (∀ ad, A = some ad → w.heap.size ≤ ad.block) ∧ (∀ x ∈ xs, x.s.length ≤ 1000000) ∧ RdG lo w' g r' ∧ Turn [g] w w'
theorem lp_out {w w7 : World} {g : Nat} {xs : List Tp} {A : Option Addr} {c : Nat} {r r' : PS} (h : HeldP w w7 g xs A c) (hr : RdG lo w7 g r') (hx : xs.length ≤ 200000) (hp : AgLP r xs r') : EvLP lo w g r (.returned (.slice A xs.length c)) w7 := by
  refine ⟨A, c, xs, r', rfl, hp, h.own.row parCT_len, hx, fun ad e => ?_, h.txt, hr, h.turn⟩
  subst e
  exact (h.own.lt ad.block rfl).1
structure LipAt (lo : Nat) (w wr : World) (g : Nat) (r r' : PS) (xs : List Tp) (A : Option Addr) (c : Nat) : Prop where
  rd : RdG lo wr g r'
  held : HeldP w wr g xs A c
  told : AgIP r xs r'
  len : xs.length + lenB r' ≤ 100002
theorem lenB_par (r : PS) : lenB (parR r) ≤ lenB r := by
  unfold parR typR
  have h1 := lenB_take r [1]
  split
  · have := lenB_tl_le (takeR r [1]); omega
  · have := lenB_must (takeR r [1]) [98, 111, 111, 108]; omega
theorem parT_txt {w : World} {g : Nat} {r : PS} (h : RdG lo w g r) : (parT r).s.length ≤ 1000000 := (takeS_size h [1]).2
set_option maxHeartbeats 8000000 in
theorem listp_any (w : World) (g : Nat) (r : PS) (h : RdG lo w g r) :
    Calls Tryz.prog 82 #[.pointer (some ⟨g, 0, none⟩), .func (.func 83) #[.pointer (some ⟨g, 0, none⟩)] #[]] w (EvLP lo w g r) := by
  have HG := Lib.hid h.lt
  have HLO := Lib.hid h.wlo
  have C0 := Lib.hid (must_any w g r [40] h)
  have HLM := Lib.hid (lenB_must r [40])
  have HLB := Lib.hid (lenB_le h)
  clear h
  go_enter Tryz.func82, Tryz.ntmps82
  go_wp2_with fail
  refine C0.out.mono ?_
  rintro e w1 ⟨rfl, h1, h2⟩
  have H1 := Lib.hid h1
  have HH1 : Hid (HeldP w w1 g [] none 0) := Lib.hid (HeldP.turned ⟨OwnG.nil _ _, Turn.refl [g] w, HG.out, fun x hx => by simp at hx⟩ h2)
  clear h1 h2 C0
  rcases Bool.eq_false_or_eq_true (isW (mustP r [40]) [41]) with hi | hi
  · have CH := Lib.hid (has_yes w1 g _ [41] H1.out hi)
    have HO := Lib.hid (agp_none hi)
    clear hi
    go_wp2_with fail
    refine CH.out.mono ?_
    rintro e w2 ⟨rfl, h1, h2⟩
    have H3 := Lib.hid h1
    have HH2 := Lib.hid (HH1.out.turned h2)
    clear h1 h2
    go_wp2_with fail
    go_ret
    exact lp_out HH2.out H3.out (by simp) HO.out
  · have CH := Lib.hid (has_no w1 g _ [41] H1.out hi)
    have HNO := Lib.hid (agp_one hi)
    clear hi
    go_wp2_with fail
    refine CH.out.mono ?_
    rintro e w2 ⟨rfl, h1, h2⟩
    have HH2 := Lib.hid (HH1.out.turned h2)
    have HTX := Lib.hid (parT_txt h1)
    have HLP := Lib.hid (lenB_par (mustP r [40]))
    have CX := Lib.hid (param_any w2 g _ h1)
    clear h1 h2 CH
    generalize parR (mustP r [40]) = r3 at *
    generalize parT (mustP r [40]) = y at *
    go_wp2_with fail
    refine CX.out.mono ?_
    rintro e v2 ⟨rfl, h1, h2⟩
    obtain ⟨A2, c2, u2, hap, hh, hin⟩ := HeldP.push (HH2.out.turned h2) HTX.out (by simp) HLO.out h1
    have HAP := Lib.hid hap
    have START : Hid (LipAt lo w u2 g r r3 ([] ++ [y]) A2 c2) := Lib.hid ⟨hin, hh, HNO.out, by
      have := HLP.out
      have := HLM.out
      have := HLB.out
      simp
      omega⟩
    clear h1 h2 hap hh hin CX HH1 HH2 H1 HNO HLM HLP
    simp only [List.nil_append, List.length_cons, List.length_nil] at HAP START
    obtain ⟨ys, hys⟩ : ∃ ys, [y] = ys := ⟨_, rfl⟩
    have HYL : Hid (ys.length = 1) := Lib.hid (by rw [← hys]; rfl)
    rw [hys] at START
    clear hys
    generalize bs y.s = S at *
    go_wp2_with (at_builtin; refine wpList_appG 48 rfl (.tmp 11) (.tmp 14) rfl (.slice none 0 0) (.slice (some ⟨v2.heap.size, 0, none⟩) 1 1) _ rfl rfl HAP.out ?_)
    clear HAP
    go_loopw [5] (fun l wr => ∃ (r' : PS) (xs : List Tp) (A : Option Addr) (c : Nat), l = .slice A xs.length c ∧ Hid (LipAt lo w wr g r r' xs A c)) (fun _ wr => remG wr g)
    case atStart => exact ⟨r3, ys, A2, c2, by rw [HYL.out], START⟩
    case round =>
      clear START HYL HTX
      obtain ⟨r', xs, A, c, rfl, HC⟩ := hrel
      have HM : Hid (remG wr g = lenB r') := Lib.hid HC.out.rd.rem
      rcases Bool.eq_false_or_eq_true (isW r' [44]) with hi | hi
      · have CH := Lib.hid (has_yes wr g r' [44] HC.out.rd hi)
        have HN4' := Lib.hid (agp_more HC.out.told hi)
        have HLT := Lib.hid (lenB_tl hi)
        clear hi
        go_wp2_with fail
        refine CH.out.mono ?_
        rintro e v1 ⟨rfl, h1, h2⟩
        have HH2 := Lib.hid (HC.out.held.turned h2)
        have HTX := Lib.hid (parT_txt h1)
        have HLP := Lib.hid (lenB_par (tl r'))
        have CX := Lib.hid (param_any v1 g _ h1)
        clear h1 h2 CH
        generalize parR (tl r') = r4 at *
        generalize parT (tl r') = z at *
        go_wp2_with fail
        refine CX.out.mono ?_
        rintro e v2 ⟨rfl, h1, h2⟩
        obtain ⟨A4, c4, u4, hap, hh, hin⟩ := HeldP.push (HH2.out.turned h2) HTX.out (by have := HC.out.len; omega) HLO.out h1
        have HAP := Lib.hid hap
        have HN4 : Hid (LipAt lo w u4 g r r4 (xs ++ [z]) A4 c4) := Lib.hid ⟨hin, hh, HN4'.out, by
          have := HLP.out
          have := HLT.out
          have := HC.out.len
          rw [List.length_append]
          simp
          omega⟩
        obtain ⟨n4, hn4⟩ : ∃ n, (xs ++ [z]).length = n := ⟨_, rfl⟩
        have HNL := Lib.hid hn4
        rw [hn4] at HAP
        clear h1 h2 hap hh hin CX HH2 hn4 HN4'
        generalize bs z.s = SZ at *
        go_wp2_with (at_builtin; refine wpList_appG 48 rfl (.tmp 18) (.tmp 21) rfl (.slice A xs.length c) (.slice (some ⟨v2.heap.size, 0, none⟩) 1 1) _ rfl rfl HAP.out ?_)
        go_roundw
        case rel => exact ⟨r4, xs ++ [z], A4, c4, by rw [HNL.out], HN4⟩
        case measure =>
          rw [HN4.out.rd.rem, HM.out]
          have := HLP.out
          have := HLT.out
          omega
      · have CH := Lib.hid (has_no wr g r' [44] HC.out.rd hi)
        have HO := Lib.hid (agp_end HC.out.told hi)
        clear hi
        go_wp2_with fail
        refine CH.out.mono ?_
        rintro e v1 ⟨rfl, h1, h2⟩
        have HH2 := Lib.hid (HC.out.held.turned h2)
        have CM := Lib.hid (must_any v1 g r' [41] h1)
        clear h1 h2 CH
        go_wp2_with fail
        refine CM.out.mono ?_
        rintro e v2 ⟨rfl, h1, h2⟩
        have H3 := Lib.hid h1
        have HH3 := Lib.hid (HH2.out.turned h2)
        clear h1 h2
        go_wp2_with fail
        go_ret
        exact lp_out HH3.out H3.out (by have := HC.out.len; omega) HO.out
end Go.Proofs.YtlhbhpdpjidpgaaGreatDoor.Prg
/- A function that the program's parser builds, cell by cell. Condition: the reader is known. -/
namespace Go.Proofs.YtlhbhpdpjidpgaaGreatDoor.Prg
open Go.RowKit Tre Prs
open Lex (Wd wdC wdV bs str Turn)
set_option maxRecDepth 100000
set_option linter.unusedSimpArgs false
variable {lo : Nat}
def toPar (t : Tp) : Par := ⟨bs t.s, t.t⟩
theorem row_par {w : World} {A : Option Addr} {xs : List Tp} (h : Row 2 parCT w A xs) : Row 2 parC w A (xs.map toPar) := fun h0 => by
  obtain ⟨b, o, e, hlt, hc⟩ := h (by simpa using h0)
  refine ⟨b, o, e, hlt, fun j x hx r u hu => ?_⟩
  rw [List.getElem?_map] at hx
  obtain ⟨t, ht, rfl⟩ := Option.map_eq_some_iff.1 hx
  exact hc j t ht r u hu
theorem core_par (xs : List Tp) : (xs.map toPar).map coreP = xs := by
  rw [List.map_map]
  conv => rhs; rw [← List.map_id xs]
  refine List.map_congr_left fun t _ => ?_
  show (⟨(bs t.s).data.toList, t.t⟩ : Tp) = t
  rw [Lex.bs_data]
/-- All of the function's rows lie from block n on. -/
def NewF (n : Nat) (f : Tre.Fn) : Prop := (∀ ad, f.pa = some ad → n ≤ ad.block) ∧ (∀ ad, f.ba = some ad → n ≤ ad.block) ∧ ∀ s ∈ f.b, NewS n s
theorem NewF.mono {n m : Nat} {f : Tre.Fn} (h : NewF n f) (hm : m ≤ n) : NewF m f := ⟨fun ad e => Nat.le_trans hm (h.1 ad e), fun ad e => Nat.le_trans hm (h.2.1 ad e), fun s hs => (h.2.2 s hs).mono hm⟩
def EvGF (lo : Nat) (w : World) (g : Nat) (q : Tf × PS) (e : Ending) (w' : World) : Prop := ∃ (f : Tre.Fn) (r' : PS), e = .returned (fnV f) ∧ Ag q (coreF f) r' ∧ FnIn w' f ∧ NewF w.heap.size f ∧ RdG lo w' g r' ∧ Turn [g] w w'
/-- The function in the block behind the result's. -/
structure FB (lo : Nat) (w W : World) (g : Nat) (r : PS) (S : ByteArray) (pa : Option Addr) (pc : Nat) (xs : List Tp) (T : Int) (ba : Option Addr) (bc : Nat) (b : List St) : Prop where
  rd : InG lo W g r
  at_ : W.heap[w.heap.size + 1]? = some (.cells #[.string S, .slice pa xs.length pc, .int .u8 T, .slice ba b.length bc] 51 (0, 0))
  res : W.heap[w.heap.size]? = some (.cells #[.string ⟨#[]⟩, .slice none 0 0, .int .u8 0, .slice none 0 0] 51 (0, 0))
  prow : Row 2 parCT W pa xs
  plen : xs.length ≤ 200000
  pnew : ∀ ad, pa = some ad → w.heap.size + 2 ≤ ad.block
  ptxt : ∀ x ∈ xs, x.s.length ≤ 1000000
  brow : Row 9 stC W ba b
  blen : b.length ≤ 200000
  bnew : ∀ ad, ba = some ad → w.heap.size + 2 ≤ ad.block
  bin : ∀ s ∈ b, StIn W s
  bn : ∀ s ∈ b, NewS (w.heap.size + 2) s
  turn : Turn [g] w W
  hs : S.size ≤ maxLen
  g : g < w.heap.size
  lo : lo ≤ w.heap.size
section
variable {w W : World} {g : Nat} {r : PS} {S : ByteArray} {pa : Option Addr} {pc : Nat} {xs : List Tp} {T : Int} {ba : Option Addr} {bc : Nat} {b : List St}
theorem FB.keep {W' : World} {L : List Nat} (h : FB lo w W g r S pa pc xs T ba bc b) (ht : Turn L W W') (hL : ∀ k ∈ L, k < w.heap.size + 2) : Row 2 parCT W' pa xs ∧ Row 9 stC W' ba b ∧ ∀ s ∈ b, StIn W' s :=
  ⟨Row.kept h.prow ht.size (fun k o e hlt => ht.block k hlt (fun hm => by have := h.pnew _ e; have := hL _ hm; simp at *; omega)), Row.kept h.brow ht.size (fun k o e hlt => ht.block k hlt (fun hm => by have := h.bnew _ e; have := hL _ hm; simp at *; omega)), fun s hs => StIn.off (h.bin s hs) (NewS.off (h.bn s hs) hL) ht⟩
theorem FB.turned {W' : World} {r' : PS} (h : FB lo w W g r S pa pc xs T ba bc b) (ht : Turn [g] W W') (hr : RdG lo W' g r') : FB lo w W' g r' S pa pc xs T ba bc b := by
  have hg := h.g
  obtain ⟨k1, k2, k3⟩ := h.keep ht (fun k hk => by simp at hk; omega)
  exact ⟨h.rd.step ht hr, (ht.block _ (lt_of_heap h.at_) (by simp; omega)).trans h.at_, (ht.block _ (lt_of_heap h.res) (by simp; omega)).trans h.res, k1, h.plen, h.pnew, h.ptxt, k2, h.blen, h.bnew, k3, h.bn, h.turn.trans ht, h.hs, hg, h.lo⟩
theorem FB.below {W' : World} (h : FB lo w W g r S pa pc xs T ba bc b) (hb : Below W.heap.size W W') : FB lo w W' g r S pa pc xs T ba bc b := h.turned ((Turn.refl [g] W).below hb) (h.rd.rd.below hb)
theorem turn1 (W : World) (k i : Nat) (v : Value) : Turn [k] W (W.setCell ⟨k, i, none⟩ v) := (Turn.refl _ W).setCell (.inl (by simp)) _
theorem FB.setS {S' : ByteArray} (h : FB lo w W g r S pa pc xs T ba bc b) (hs : S'.size ≤ maxLen) : FB lo w (W.setCell ⟨w.heap.size + 1, 0, none⟩ (.string S')) g r S' pa pc xs T ba bc b := by
  have hg := h.g
  have ht := turn1 W (w.heap.size + 1) 0 (.string S')
  obtain ⟨k1, k2, k3⟩ := h.keep ht (fun k hk => by simp at hk; omega)
  exact ⟨h.rd.but ht (by have := h.lo; omega), set_at h.at_ 0 (.string S'), (ht.block _ (lt_of_heap h.res) (by simp)).trans h.res, k1, h.plen, h.pnew, h.ptxt, k2, h.blen, h.bnew, k3, h.bn, h.turn.then_ ht (fun k hk => by simp at hk; subst hk; exact .inr (by omega)), hs, hg, h.lo⟩
theorem FB.setT {T' : Int} (h : FB lo w W g r S pa pc xs T ba bc b) : FB lo w (W.setCell ⟨w.heap.size + 1, 2, none⟩ (.int .u8 T')) g r S pa pc xs T' ba bc b := by
  have hg := h.g
  have ht := turn1 W (w.heap.size + 1) 2 (.int .u8 T')
  obtain ⟨k1, k2, k3⟩ := h.keep ht (fun k hk => by simp at hk; omega)
  exact ⟨h.rd.but ht (by have := h.lo; omega), set_at h.at_ 2 (.int .u8 T'), (ht.block _ (lt_of_heap h.res) (by simp)).trans h.res, k1, h.plen, h.pnew, h.ptxt, k2, h.blen, h.bnew, k3, h.bn, h.turn.then_ ht (fun k hk => by simp at hk; subst hk; exact .inr (by omega)), h.hs, hg, h.lo⟩
theorem FB.setP {W2 : World} {r' : PS} {B : Option Addr} {d : Nat} {ys : List Tp} (h : FB lo w W g r S pa pc xs T ba bc b) (hrow : Row 2 parCT W2 B ys) (hlen : ys.length ≤ 200000) (hnew : ∀ ad, B = some ad → W.heap.size ≤ ad.block) (htxt : ∀ x ∈ ys, x.s.length ≤ 1000000) (hr : RdG lo W2 g r') (ht : Turn [g] W W2) :
    FB lo w (W2.setCell ⟨w.heap.size + 1, 1, none⟩ (.slice B ys.length d)) g r' S B d ys T ba bc b := by
  have hg := h.g
  have hsz := lt_of_heap h.at_
  have h2 := h.turned ht hr
  have t1 := turn1 W2 (w.heap.size + 1) 1 (.slice B ys.length d)
  obtain ⟨_, k2, k3⟩ := h2.keep t1 (fun k hk => by simp at hk; omega)
  exact ⟨h2.rd.but t1 (by have := h.lo; omega), set_at h2.at_ 1 (.slice B ys.length d), (t1.block _ (lt_of_heap h2.res) (by simp)).trans h2.res, Row.kept hrow t1.size (fun k o e hlt => t1.block k hlt (by have := hnew _ e; simp at this ⊢; omega)), hlen, fun ad e => by have := hnew _ e; omega, htxt, k2, h.blen, h.bnew, k3, h.bn, h2.turn.then_ t1 (fun k hk => by simp at hk; subst hk; exact .inr (by omega)), h.hs, hg, h.lo⟩
theorem FB.setB {W2 : World} {r' : PS} {B : Option Addr} {d : Nat} {l : List St} (h : FB lo w W g r S pa pc xs T ba bc b) (hrow : Row 9 stC W2 B l) (hlen : l.length ≤ 200000) (hnew : ∀ ad, B = some ad → W.heap.size ≤ ad.block) (hin : ∀ s ∈ l, StIn W2 s) (hn : ∀ s ∈ l, NewS W.heap.size s) (hr : RdG lo W2 g r') (ht : Turn [g] W W2) :
    FB lo w (W2.setCell ⟨w.heap.size + 1, 3, none⟩ (.slice B l.length d)) g r' S pa pc xs T B d l := by
  have hg := h.g
  have hsz := lt_of_heap h.at_
  have h2 := h.turned ht hr
  have t1 := turn1 W2 (w.heap.size + 1) 3 (.slice B l.length d)
  obtain ⟨k1, _, _⟩ := h2.keep t1 (fun k hk => by simp at hk; omega)
  exact ⟨h2.rd.but t1 (by have := h.lo; omega), set_at h2.at_ 3 (.slice B l.length d), (t1.block _ (lt_of_heap h2.res) (by simp)).trans h2.res, k1, h.plen, h.pnew, h.ptxt, Row.kept hrow t1.size (fun k o e hlt => t1.block k hlt (by have := hnew _ e; simp at this ⊢; omega)), hlen, fun ad e => by have := hnew _ e; omega, fun s hs => StIn.off (hin s hs) (NewS.off (hn s hs) (fun k hk => by simp at hk; omega)) t1, fun s hs => (hn s hs).mono (by omega), h2.turn.then_ t1 (fun k hk => by simp at hk; subst hk; exact .inr (by omega)), h.hs, hg, h.lo⟩
theorem FB.done {W' : World} {q : Tf × PS} (h : FB lo w W g r S pa pc xs T ba bc b) (ht : Turn [w.heap.size] W W') (hq : Ag q ⟨S.data.toList, xs, T, b.map coreS⟩ r) : EvGF lo w g q (.returned (.agg #[.string S, .slice pa xs.length pc, .int .u8 T, .slice ba b.length bc])) W' := by
  obtain ⟨k1, k2, k3⟩ := h.keep ht (fun k hk => by simp at hk; omega)
  refine ⟨⟨S, pa, pc, xs.map toPar, T, ba, bc, b⟩, r, by simp [fnV], ?_, ⟨row_par k1, k2, k3, by rw [List.length_map]; have := h.plen; unfold most; omega, by have := h.blen; show b.length ≤ most; unfold most; omega, h.hs, fun p hp => ?_⟩, ⟨fun ad e => by have := h.pnew ad e; omega, fun ad e => by have := h.bnew ad e; omega, fun s hs => (h.bn s hs).mono (by omega)⟩, h.rd.rd.but ht h.lo, h.turn.then_ ht (fun k hk => by simp at hk; subst hk; exact .inr (Nat.le_refl _))⟩
  · unfold coreF
    rw [core_par]
    exact hq
  · obtain ⟨t, ht, rfl⟩ := List.mem_map.1 hp
    show (bs t.s).size ≤ maxLen
    rw [Lex.bs_size]
    have := h.ptxt t ht
    unfold maxLen
    omega
end
theorem results_fn {fn : Func} {p : Tmp} (h : fn.results = #[.cell p 51]) (tmps : Array Value) (w : World) (g : Nat) (v0 v1 v2 v3 : Value) (hv : tmps.getD p undef = .pointer (some ⟨g, 0, none⟩)) (hc : w.heap[g]? = some (.cells #[v0, v1, v2, v3] 51 (0, 0))) :
    (results fn tmps).run Tryz.prog w = .ok (.agg #[v0, v1, v2, v3]) w := by
  have a4 := Tryz.isAgg51
  have z4 := Tryz.sizeOf51
  have c0 := cell_at hc 0
  have c1 := cell_at hc 1
  have c2 := cell_at hc 2
  have c3 := cell_at hc 3
  simp only [List.getElem?_toArray, List.getElem?_cons_succ, List.getElem?_cons_zero] at c0 c1 c2 c3
  simp only [Array.getD_eq_getD_getElem?] at hv
  unfold results
  rw [h]
  go_simp
theorem four_at {w : World} {b : Nat} {v0 v1 v2 v3 : Value} {T : TypeId} (h : w.heap[b]? = some (.cells #[v0, v1, v2, v3] T (0, 0))) : w.cell? ⟨b, 0, none⟩ = some v0 ∧ w.cell? ⟨b, 1, none⟩ = some v1 ∧ w.cell? ⟨b, 2, none⟩ = some v2 ∧ w.cell? ⟨b, 3, none⟩ = some v3 := ⟨cell_at h 0, cell_at h 1, cell_at h 2, cell_at h 3⟩
theorem set4 {w : World} {b : Nat} {a0 a1 a2 a3 v0 v1 v2 v3 : Value} {T : TypeId} (h : w.heap[b]? = some (.cells #[a0, a1, a2, a3] T (0, 0))) : ((((w.setCell ⟨b, 0, none⟩ v0).setCell ⟨b, 1, none⟩ v1).setCell ⟨b, 2, none⟩ v2).setCell ⟨b, 3, none⟩ v3).heap[b]? = some (.cells #[v0, v1, v2, v3] T (0, 0)) := set_at (set_at (set_at (set_at h 0 v0) 1 v1) 2 v2) 3 v3
theorem turn4 (w : World) (b : Nat) (v0 v1 v2 v3 : Value) : Turn [b] w ((((w.setCell ⟨b, 0, none⟩ v0).setCell ⟨b, 1, none⟩ v1).setCell ⟨b, 2, none⟩ v2).setCell ⟨b, 3, none⟩ v3) := ((((Turn.refl [b] w).setCell (.inl (by simp)) v0).setCell (.inl (by simp)) v1).setCell (.inl (by simp)) v2).setCell (.inl (by simp)) v3
theorem typR_res {r : PS} (h : isW r [123] = false) : resR r = typR r ∧ resN r = typN r := by unfold resR resN; simp [h]
theorem typR_brace {r : PS} (h : isW r [123] = true) : resR r = r ∧ resN r = 0 := by unfold resR resN; simp [h]
end Go.Proofs.YtlhbhpdpjidpgaaGreatDoor.Prg
/- The program's functions, walked. Condition: the reader is known. -/
namespace Go.Proofs.YtlhbhpdpjidpgaaGreatDoor.Prg
open Go.RowKit Tre Prs
open Lex (Wd wdC wdV bs str Turn)
set_option maxRecDepth 100000
set_option linter.unusedSimpArgs false
variable {lo : Nat}
set_option maxHeartbeats 16000000 in
theorem function_any (w : World) (g : Nat) (r : PS) (h : InG lo w g r) :
    Calls Tryz.prog 47 #[.pointer (some ⟨g, 0, none⟩)] w (EvGF lo w g (fnD (mustP r wFunc))) := by
  have HG := Lib.hid h.rd.lt
  have HLO := Lib.hid h.rd.wlo
  have HB2 := Lib.hid (two_below w #[.string ⟨#[]⟩, .slice none 0 0, .int .u8 0, .slice none 0 0] #[.string ⟨#[]⟩, .slice none 0 0, .int .u8 0, .slice none 0 0] 51 51)
  have HN2 := Lib.hid (two_new_at w #[.string ⟨#[]⟩, .slice none 0 0, .int .u8 0, .slice none 0 0] #[.string ⟨#[]⟩, .slice none 0 0, .int .u8 0, .slice none 0 0] 51 51)
  have HI := Lib.hid (h.below HB2.out)
  have B0 : Hid (FB lo w ((w.alloc (.cells #[.string ⟨#[]⟩, .slice none 0 0, .int .u8 0, .slice none 0 0] 51)).alloc (.cells #[.string ⟨#[]⟩, .slice none 0 0, .int .u8 0, .slice none 0 0] 51)) g r ⟨#[]⟩ none 0 [] 0 none 0 []) := Lib.hid ⟨HI.out, HN2.out.2, HN2.out.1, Row.nil _ _ _ _, by simp, fun ad e => (by cases e), fun x hx => by simp at hx, Row.nil _ _ _ _, by simp, fun ad e => (by cases e), fun s hs => by simp at hs, fun s hs => by simp at hs, (Turn.refl [g] w).below HB2.out, nil_max, HG.out, HLO.out⟩
  have CM := Lib.hid (must_any _ g r [102, 117, 110, 99] HI.out.rd)
  obtain ⟨r1, hr1⟩ : ∃ r1, mustP r [102, 117, 110, 99] = r1 := ⟨_, rfl⟩
  rw [show mustP r wFunc = r1 from hr1]
  rw [hr1] at CM
  clear h HB2 HN2 HI hr1
  go_enter Tryz.func47, Tryz.ntmps47
  go_wp2_with fail
  refine CM.out.mono ?_
  rintro e w1 ⟨rfl, h1, h2⟩
  have B1 := Lib.hid (B0.out.turned h2 h1)
  clear h1 h2 CM B0
  have CN := Lib.hid (name_any w1 g r1 B1.out.rd.rd)
  have HSZ := Lib.hid (takeS_size B1.out.rd.rd [1]).1
  have HSD : Hid ((bs (takeW r1 [1]).s).data.toList = (takeW r1 [1]).s) := Lib.hid (Lex.bs_data _)
  obtain ⟨S, hS⟩ : ∃ S, bs (takeW r1 [1]).s = S := ⟨_, rfl⟩
  rw [hS] at CN HSZ HSD
  clear hS
  go_wp2_with fail
  refine CN.out.mono ?_
  rintro e w2 ⟨rfl, h1, h2⟩
  have B2 := Lib.hid (B1.out.turned h2 h1)
  have B3 := Lib.hid (B2.out.setS HSZ.out)
  clear h1 h2 CN B1
  have fe0 := free_at B2.out.at_ 0
  obtain ⟨z0, z1, z2, z3⟩ := four_at B2.out.at_
  try simp only [List.length_nil] at z1 z3
  obtain ⟨W3, hW3⟩ : ∃ W, w2.setCell ⟨w.heap.size + 1, 0, none⟩ (.string S) = W := ⟨_, rfl⟩
  rw [hW3] at B3
  have CL := Lib.hid (listp_any W3 g _ B3.out.rd.rd)
  go_wp2_with fail
  clear fe0 z0 z1 z2 z3 B2 hW3
  refine CL.out.mono ?_
  rintro e w4 ⟨pa, pc, xs, r4, rfl, ha, hrow, hlen, hnew, htxt, hr4, ht4⟩
  have HA := Lib.hid ha
  have HLEN := Lib.hid hlen
  have B4 := Lib.hid (B3.out.turned ht4 hr4)
  have B5 := Lib.hid (B3.out.setP (d := pc) hrow hlen hnew htxt hr4 ht4)
  clear ha hrow hnew htxt hr4 ht4 CL B3
  have fe1 := free_at B4.out.at_ 1
  obtain ⟨z0, z1, z2, z3⟩ := four_at B4.out.at_
  try simp only [List.length_nil] at z1 z3
  obtain ⟨W5, hW5⟩ : ∃ W, w4.setCell ⟨w.heap.size + 1, 1, none⟩ (.slice pa xs.length pc) = W := ⟨_, rfl⟩
  rw [hW5] at B5
  have CB := Lib.hid (bound_any W5 g r4 xs.length 4 4 rfl B5.out.rd.rd)
  obtain ⟨x0, x1, x2, x3⟩ := four_at B5.out.at_
  try simp only [List.length_nil] at x1 x3
  go_wp2_with fail
  clear fe1 z0 z1 z2 z3 x0 x1 x2 x3 B4 hW5
  refine CB.out.mono ?_
  rintro e w6 ⟨rfl, h1, h2⟩
  have B6 := Lib.hid (B5.out.turned h2 h1)
  clear h1 h2 CB B5
  have HQ := Lib.hid (fun (b : List Ts) (r6 : PS) (h' : Ag (tellS .block (resR (boundR r4 xs.length 4))) b r6) => ag_fn HA.out h')
  obtain ⟨r6, hr6⟩ : ∃ r6, boundR r4 xs.length 4 = r6 := ⟨_, rfl⟩
  rw [hr6] at B6 HQ
  clear hr6
  rcases Bool.eq_false_or_eq_true (isW r6 [123]) with hi | hi
  · have CA := Lib.hid (at_yes B6.out.rd.rd hi)
    rw [(typR_brace hi).1, (typR_brace hi).2] at HQ
    clear hi
    go_wp2_with fail
    refine CA.out.mono ?_
    rintro e v7 ⟨rfl, hb7⟩
    have B7 := Lib.hid (B6.out.below hb7)
    clear hb7 CA B6
    have CK := Lib.hid (blockG _ g _ B7.out.rd)
    go_wp2_with fail
    refine CK.out.mono ?_
    rintro e v8 ⟨ba, bc, l, r8, rfl, ha, hrow, hlen, hnew, hin, hnn, hr, ht⟩
    have HA8 := Lib.hid (HQ.out _ _ ha)
    have B9 := Lib.hid (B7.out.turned ht hr)
    have B10 := Lib.hid (B7.out.setB (d := bc) hrow hlen hnew hin hnn hr ht)
    clear ha hrow hlen hnew hin hnn hr ht CK B7
    have fe3 := free_at B9.out.at_ 3
    obtain ⟨z0, z1, z2, z3⟩ := four_at B9.out.at_
    try simp only [List.length_nil] at z1 z3
    obtain ⟨x0, x1, x2, x3⟩ := four_at B10.out.at_
    obtain ⟨y0, y1, y2, y3⟩ := four_at B9.out.res
    have f0 := free_at B9.out.res 0
    have f1 := free_at B9.out.res 1
    have f2 := free_at B9.out.res 2
    have f3 := free_at B9.out.res 3
    go_wp2_with fail
    have HT := Lib.hid (turn4 (v8.setCell ⟨w.heap.size + 1, 3, none⟩ (.slice ba l.length bc)) w.heap.size (.string S) (.slice pa xs.length pc) (.int .u8 0) (.slice ba l.length bc))
    refine bodyPost_ret (results_fn rfl _ _ w.heap.size _ _ _ _ rfl (set4 B10.out.res)) rfl ?_
    exact B10.out.done HT.out (by rw [HSD.out]; exact HA8.out)
  · have CA := Lib.hid (at_no B6.out.rd.rd hi)
    rw [(typR_res hi).1, (typR_res hi).2] at HQ
    clear hi
    go_wp2_with fail
    refine CA.out.mono ?_
    rintro e v6 ⟨rfl, hb7⟩
    have B7' := Lib.hid (B6.out.below hb7)
    clear hb7 CA B6
    have CT := Lib.hid (typed_any v6 g r6 B7'.out.rd.rd)
    go_wp2_with fail
    refine CT.out.mono ?_
    rintro e v5 ⟨rfl, h1, h2⟩
    have B7o := Lib.hid (B7'.out.turned h2 h1)
    have B7 := Lib.hid (B7o.out.setT (T' := typN r6))
    clear h1 h2 CT B7'
    have fe2 := free_at B7o.out.at_ 2
    obtain ⟨z0, z1, z2, z3⟩ := four_at B7o.out.at_
    try simp only [List.length_nil] at z1 z3
    obtain ⟨v7, hv7⟩ : ∃ W, v5.setCell ⟨w.heap.size + 1, 2, none⟩ (.int .u8 (typN r6)) = W := ⟨_, rfl⟩
    rw [hv7] at B7
    generalize typN r6 = T at *
    have CK := Lib.hid (blockG _ g _ B7.out.rd)
    go_wp2_with fail
    refine CK.out.mono ?_
    rintro e v8 ⟨ba, bc, l, r8, rfl, ha, hrow, hlen, hnew, hin, hnn, hr, ht⟩
    have HA8 := Lib.hid (HQ.out _ _ ha)
    have B9 := Lib.hid (B7.out.turned ht hr)
    have B10 := Lib.hid (B7.out.setB (d := bc) hrow hlen hnew hin hnn hr ht)
    clear ha hrow hlen hnew hin hnn hr ht CK B7
    have fe3 := free_at B9.out.at_ 3
    obtain ⟨z0, z1, z2, z3⟩ := four_at B9.out.at_
    try simp only [List.length_nil] at z1 z3
    obtain ⟨x0, x1, x2, x3⟩ := four_at B10.out.at_
    obtain ⟨y0, y1, y2, y3⟩ := four_at B9.out.res
    have f0 := free_at B9.out.res 0
    have f1 := free_at B9.out.res 1
    have f2 := free_at B9.out.res 2
    have f3 := free_at B9.out.res 3
    go_wp2_with fail
    have HT := Lib.hid (turn4 (v8.setCell ⟨w.heap.size + 1, 3, none⟩ (.slice ba l.length bc)) w.heap.size (.string S) (.slice pa xs.length pc) (.int .u8 T) (.slice ba l.length bc))
    refine bodyPost_ret (results_fn rfl _ _ w.heap.size _ _ _ _ rfl (set4 B10.out.res)) rfl ?_
    exact B10.out.done HT.out (by rw [HSD.out]; exact HA8.out)
end Go.Proofs.YtlhbhpdpjidpgaaGreatDoor.Prg
