/-
  The program's block; its statements, whole. Conditions: the reader is known; a statement tells what the plain grammar says.
-/
import Derived.Test.YtmihlmlojmdhjaaGreatDoorQ01
import Derived.Test.YtmihlmlojmdhjaaGreatDoorQ06
import Derived.Test.YtmihlmlojmdhjaaGreatDoorQ21
namespace Go.Proofs.YtmihlmlojmdhjaaGreatDoor.Prg
open Go.RowKit Tre Prs
open Lex (Wd wdC wdV bs str Turn)
set_option maxRecDepth 100000
set_option linter.unusedSimpArgs false
variable {lo : Nat}
/-- A statement that was told behind others, appended. -/
theorem HeldB.push {w v1 v2 : World} {g c : Nat} {xs : List St} {A : Option Addr} {y : St} {r' : PS} (hh : HeldB w v1 g xs A c) (hy2 : StIn v2 y) (hy3 : NewS v1.heap.size y) (ht : Turn [g] v1 v2) (hl : xs.length ≤ 1000000) (hlo : lo ≤ w.heap.size) (hr : InG lo v2 g r') :
    ∃ A2 c2 u2, (∀ ty, (Builtin.append_ #[34, 34] ty #[.slice A xs.length c, .slice (some ⟨v2.heap.size, 0, none⟩) 1 1]).run Tryz.prog (v2.alloc (.cells (stC y).toArray 47)) = .ok (.slice A2 (xs ++ [y]).length c2) u2) ∧ HeldB w u2 g (xs ++ [y]) A2 c2 ∧ InG lo u2 g r' := by
  have hb3 := ball_new v2 (stC y).toArray 47
  have hn3 := new_at v2 (stC y).toArray 47
  have hh2 := hh.turned ht
  have hh3 := hh2.below hb3
  obtain ⟨vv, u2, hap, how, hgr, hbo⟩ := app_st _ w.heap.size (.slice A xs.length c) xs y v2.heap.size hh3.own hn3 hl hh3.turn.size
  obtain ⟨A2, c2, rfl, -⟩ := how.form
  have T2 : Turn (Value.slice A xs.length c).ownBlock.toList (v2.alloc (.cells (stC y).toArray 47)) u2 := (Turn.refl _ _).grown hgr (fun k hk => .inl (by simp [hk]))
  exact ⟨A2, c2, u2, hap, hh3.more (Tre.StIn.below hy2 hb3) hy3 (fun b hb => (hh.own.lt b hb).2) hh.turn.size how hgr hbo, (hr.below hb3).buts T2 (fun b hb => by have := (hh3.own.lt b (by simpa using hb)).1; omega)⟩
/-- What the loop knows. -/
structure BlkG (lo : Nat) (w wr : World) (g : Nat) (r r' : PS) (xs : List St) (A : Option Addr) (c : Nat) : Prop where
  rd : InG lo wr g r'
  held : HeldB w wr g xs A c
  told : AgB r (xs.map coreS) r'
  len : xs.length + lenB r' ≤ 100002
  lt : r'.bad = false → lenB r' < lenB r
theorem must_ltB {r : PS} {s : List UInt8} (h : (mustP r s).bad = false) : lenB (mustP r s) < lenB r := by
  refine lenB_must_lt ?_ s
  cases hb : r.bad with
  | false => rfl
  | true =>
    unfold mustP at h
    rw [isW_bad hb] at h
    cases h
theorem blk_outG {w w7 : World} {g : Nat} {xs : List St} {A : Option Addr} {c : Nat} {q : List Ts × PS} {r' : PS} (h : HeldB w w7 g xs A c) (hr : RdG lo w7 g r') (hx : xs.length ≤ 200000) (hp : Ag q (xs.map coreS) r') : EvGB lo w g q (.returned (.slice A xs.length c)) w7 := by
  refine ⟨A, c, xs, r', rfl, hp, h.own.row stC_len, hx, fun ad e => ?_, h.ein, h.new, hr, h.turn⟩
  subst e
  exact (h.own.lt ad.block rfl).1
set_option maxHeartbeats 8000000 in
theorem block_any (w : World) (g : Nat) (r : PS) (h : InG lo w g r) (CS : ∀ w' r', InG lo w' g r' → lenB r' < lenB r → Hid (Calls Tryz.prog 129 #[.pointer (some ⟨g, 0, none⟩)] w' (EvGS lo w' g (tellS .stmt r')))) :
    Calls Tryz.prog 119 #[.pointer (some ⟨g, 0, none⟩)] w (EvGB lo w g (tellS .block r)) := by
  have HG := Lib.hid h.rd.lt
  have HLO := Lib.hid h.rd.wlo
  have HCS := Lib.hid CS
  have C0 := Lib.hid (must_any w g r [123] h.rd)
  have HI := Lib.hid h
  have HLL : Hid (lenB (mustP r [123]) ≤ 100001) := Lib.hid (by have := lenB_must r [123]; have := lenB_le h.rd; omega)
  clear h CS
  go_enter Tryz.func119, Tryz.ntmps119
  go_wp2_with fail
  refine C0.out.mono ?_
  rintro e w2 ⟨rfl, h1, h2⟩
  have START : Hid (BlkG lo w w2 g r (mustP r [123]) [] none 0) := Lib.hid ⟨HI.out.step h2 h1, HeldB.turned ⟨OwnG.nil _ _, fun x hx => by simp at hx, fun x hx => by simp at hx, fun x hx => by simp at hx, Turn.refl [g] w, HG.out⟩ h2, agb_start r, by have := HLL.out; simp; omega, must_ltB⟩
  clear h1 h2 HLL C0 HI
  generalize mustP r [123] = r1 at *
  go_wp2_with fail
  go_loopw [3] (fun l wr => ∃ (r' : PS) (xs : List St) (A : Option Addr) (c : Nat), l = .slice A xs.length c ∧ Hid (BlkG lo w wr g r r' xs A c)) (fun _ wr => remG wr g)
  case atStart => exact ⟨r1, [], none, 0, rfl, START⟩
  case round =>
    clear START
    obtain ⟨r', xs, A, c, rfl, HC⟩ := hrel
    have HM : Hid (remG wr g = lenB r') := Lib.hid HC.out.rd.rd.rem
    obtain ⟨a, cc, hrd, -⟩ := HC.out.rd.rd.at_
    have b1 := cell_at hrd 1
    simp only [List.getElem?_toArray, List.getElem?_cons_succ, List.getElem?_cons_zero] at b1
    clear hrd
    rcases Bool.eq_false_or_eq_true r'.bad with hbad | hbad
    · rw [hbad] at b1
      have HO := Lib.hid (agb_bad HC.out.told hbad)
      clear hbad
      go_wp2_with fail
      go_ret
      exact blk_outG HC.out.held HC.out.rd.rd (by have := HC.out.len; omega) HO.out
    · rw [hbad] at b1
      rcases Bool.eq_false_or_eq_true (isW r' [125]) with hi | hi
      · have HO := Lib.hid (agb_end HC.out.told hi)
        have CI := Lib.hid (has_yes wr g r' [125] HC.out.rd.rd hi)
        clear hbad hi
        go_wp2_with fail
        refine CI.out.mono ?_
        rintro e v1 ⟨rfl, h1, h2⟩
        have HH := Lib.hid (HC.out.held.turned h2)
        have H1 := Lib.hid h1
        clear h1 h2 b1 CI
        go_wp2_with fail
        go_ret
        exact blk_outG HH.out H1.out (by have := HC.out.len; omega) HO.out
      · have HBA := Lib.hid hbad
        have HI := Lib.hid hi
        have CI := Lib.hid (has_no wr g r' [125] HC.out.rd.rd hi)
        have HLT := Lib.hid (HC.out.lt hbad)
        clear hbad hi
        go_wp2_with fail
        refine CI.out.mono ?_
        rintro e v1 ⟨rfl, h1, h2⟩
        have HH1 := Lib.hid (HC.out.held.turned h2)
        have HI1 := Lib.hid (HC.out.rd.step h2 h1)
        have CY := HCS.out v1 r' HI1.out HLT.out
        clear h1 h2 b1 CI
        go_wp2_with fail
        refine CY.out.mono ?_
        rintro e v2 ⟨y, r2, rfl, hy1, hy2, hy3, hy4, hy5⟩
        have HI2 := HI1.out.step hy5 hy4
        obtain ⟨A2, c2, u2, hap, hh, hin⟩ := HeldB.push HH1.out hy2 hy3 hy5 (by have := HC.out.len; omega) HLO.out HI2
        have HIN := Lib.hid hin
        have HH2 := Lib.hid hh
        have HAG := Lib.hid (agb_more HC.out.told HBA.out HI.out hy1)
        have HL2 := Lib.hid (ag_stmt_lt HBA.out hy1)
        obtain ⟨zs, hzs⟩ : ∃ zs, xs ++ [y] = zs := ⟨_, rfl⟩
        have HZ : Hid (zs.map coreS = xs.map coreS ++ [coreS y]) := Lib.hid (by rw [← hzs, List.map_append, List.map_cons, List.map_nil])
        have HZL : Hid (zs.length = xs.length + 1) := Lib.hid (by rw [← hzs, List.length_append]; rfl)
        rw [hzs] at hap HH2
        rw [← HZ.out] at HAG
        obtain ⟨n4, hn4⟩ : ∃ n, zs.length = n := ⟨_, rfl⟩
        have HNL := Lib.hid hn4
        rw [hn4] at hap
        obtain ⟨o, s, ⟨eo, en, es, eq, ea, ec, ex⟩, ya, yc, yb, ya2, yc2, yb2⟩ := y
        simp only [stC] at hap
        have HAP := Lib.hid hap
        unfold stV
        clear hy1 hy2 hy3 hy4 hy5 hap hh hin CY HH1 HI1 HI2 hzs hn4 HZ
        rcases Bool.eq_false_or_eq_true (isW r2 [125]) with hc | hc
        · rw [if_pos hc] at HAG
          have CK := Lib.hid (at_yes HIN.out.rd hc)
          clear hc
          go_wp2_with (at_builtin; refine wpList_appG 34 rfl (.tmp 16) (.tmp 19) rfl (.slice A xs.length c) (.slice (some ⟨v2.heap.size, 0, none⟩) 1 1) _ rfl rfl HAP.out ?_)
          refine CK.out.mono ?_
          rintro e v5 ⟨rfl, hb5⟩
          have HN6 : Hid (BlkG lo w v5 g r r2 zs A2 c2) := Lib.hid ⟨HIN.out.below hb5, HH2.out.below hb5, HAG.out, by
            have := HC.out.len
            have := HL2.out
            have := HZL.out
            omega, fun _ => by
            have := HL2.out
            have := HLT.out
            omega⟩
          clear hb5 CK HAP HH2 HIN
          go_wp2_with fail
          go_roundw
          case rel => exact ⟨_, zs, A2, c2, by rw [HNL.out], HN6⟩
          case measure =>
            rw [HN6.out.rd.rd.rem, HM.out]
            exact HL2.out
        · rw [if_neg (by simp [hc])] at HAG
          have CK := Lib.hid (at_no HIN.out.rd hc)
          clear hc
          go_wp2_with (at_builtin; refine wpList_appG 34 rfl (.tmp 16) (.tmp 19) rfl (.slice A xs.length c) (.slice (some ⟨v2.heap.size, 0, none⟩) 1 1) _ rfl rfl HAP.out ?_)
          refine CK.out.mono ?_
          rintro e v5 ⟨rfl, hb5⟩
          have HH5 := Lib.hid (HH2.out.below hb5)
          have HIN5 := Lib.hid (HIN.out.below hb5)
          have CM := Lib.hid (must_any v5 g r2 [59] HIN5.out.rd)
          clear hb5 CK HAP HH2 HIN
          go_wp2_with fail
          refine CM.out.mono ?_
          rintro e v6 ⟨rfl, h1, h2⟩
          have HLM := Lib.hid (lenB_must r2 [59])
          have HN6 : Hid (BlkG lo w v6 g r (mustP r2 [59]) zs A2 c2) := Lib.hid ⟨HIN5.out.step h2 h1, HH5.out.turned h2, HAG.out, by
            have := HC.out.len
            have := HL2.out
            have := HZL.out
            have := HLM.out
            omega, fun _ => by
            have := HL2.out
            have := HLT.out
            have := HLM.out
            omega⟩
          clear h1 h2 CM
          go_wp2_with fail
          go_roundw
          case rel => exact ⟨_, zs, A2, c2, by rw [HNL.out], HN6⟩
          case measure =>
            rw [HN6.out.rd.rd.rem, HM.out]
            have := HL2.out
            have := HLM.out
            omega
/-- Statements, as far as N steps are enough. -/
theorem st_upto (g : Nat) : ∀ (N : Nat),
    (∀ (r : PS) (w : World), 8 * lenB r + 1 ≤ N → InG lo w g r → Calls Tryz.prog 129 #[.pointer (some ⟨g, 0, none⟩)] w (EvGS lo w g (tellS .stmt r))) ∧
    (∀ (r : PS) (w : World), 8 * lenB r + 1 ≤ N → InG lo w g r → Calls Tryz.prog 119 #[.pointer (some ⟨g, 0, none⟩)] w (EvGB lo w g (tellS .block r))) ∧
    (∀ (r : PS) (w : World), 8 * lenB r + 3 ≤ N → InG lo w g r → Calls Tryz.prog 140 #[.pointer (some ⟨g, 0, none⟩)] w (EvGS lo w g (tellS .when r)))
  | 0 => ⟨fun r w h _ => by omega, fun r w h _ => by omega, fun r w h _ => by omega⟩
  | N + 1 => by
    obtain ⟨IS, IB, IW⟩ := st_upto g N
    refine ⟨fun r w h hr => ?_, fun r w h hr => ?_, fun r w h hr => ?_⟩
    · rcases Bool.eq_false_or_eq_true (isW r [105, 102]) with n0 | n0
      · have h2 := lenB_tl n0
        exact stmt_if w g r hr n0 fun w' hr' => Lib.hid ((IW (tl r) w' (by omega) hr').mono fun e w2 ⟨s, r', h1, h3, h4⟩ => ⟨s, r', h1, ag_sif n0 h3, h4⟩)
      rcases Bool.eq_false_or_eq_true (isW r [102, 111, 114]) with n1 | n1
      · have h2 := lenB_tl n1
        refine stmt_for w g r hr n0 n1 fun w' hr' => Lib.hid ?_
        have CB : ∀ w2 r1, InG lo w2 g r1 → lenB r1 ≤ lenB (tl r) → Hid (Calls Tryz.prog 119 #[.pointer (some ⟨g, 0, none⟩)] w2 (EvGB lo w2 g (tellS .block r1))) := fun w2 r1 h1 hl => Lib.hid (IB r1 w2 (by omega) h1)
        rcases Bool.eq_false_or_eq_true (isW (tl r) [123]) with i1 | i1
        · exact loop_none w' g (tl r) _ hr' i1 CB fun x r1 b r2 h3 h4 => ag_for n0 n1 h3 h4
        · exact loop_expr w' g (tl r) _ hr' i1 CB fun x r1 b r2 h3 h4 => ag_for n0 n1 h3 h4
      rcases Bool.eq_false_or_eq_true (isW r [114, 101, 116, 117, 114, 110]) with n2 | n2
      · refine stmt_return w g r hr n0 n1 n2 fun w' hr' => Lib.hid ?_
        rcases Bool.eq_false_or_eq_true (isW (tl r) [59]) with i1 | i1
        · exact back_semi w' g (tl r) _ hr' i1 (ag_retn ⟨n0, n1, n2⟩ (.inl i1))
        rcases Bool.eq_false_or_eq_true (isW (tl r) [125]) with i2 | i2
        · exact back_brace w' g (tl r) _ hr' i1 i2 (ag_retn ⟨n0, n1, n2⟩ (.inr i2))
        · exact back_expr w' g (tl r) _ hr' i1 i2 fun x r1 h3 => ag_ret ⟨n0, n1, n2⟩ i1 i2 h3
      rcases Bool.eq_false_or_eq_true (isW r [112, 114, 105, 110, 116]) with n3 | n3
      · exact stmt_print w g r hr n0 n1 n2 n3
      rcases Bool.eq_false_or_eq_true (isW r [98, 114, 101, 97, 107]) with n4 | n4
      · exact stmt_break w g r hr n0 n1 n2 n3 n4
      rcases Bool.eq_false_or_eq_true (isW r [99, 111, 110, 116, 105, 110, 117, 101]) with n5 | n5
      · exact stmt_next w g r hr n0 n1 n2 n3 n4 n5
      · exact stmt_named w g r hr n0 n1 n2 n3 n4 n5 fun w' hr' => Lib.hid (named_any w' g r hr' ⟨n0, n1, n2, n3, n4, n5⟩)
    · exact block_any w g r hr fun w' r' h' hl => Lib.hid (IS r' w' (by omega) h')
    · exact choice_any w g r hr (fun w' r1 h' hl => Lib.hid (IB r1 w' (by omega) h')) (fun w' r1 h' hl => Lib.hid (IW r1 w' (by omega) h'))
/-- The program's blocks. -/
theorem blockG (w : World) (g : Nat) (r : PS) (h : InG lo w g r) : Calls Tryz.prog 119 #[.pointer (some ⟨g, 0, none⟩)] w (EvGB lo w g (tellS .block r)) := (st_upto g _).2.1 r w (Nat.le_refl _) h
end Go.Proofs.YtmihlmlojmdhjaaGreatDoor.Prg
/- The grammar of functions and files as plain mathematics: what the document's own parser tells. No condition. -/
namespace Go.Proofs.YtmihlmlojmdhjaaGreatDoor.Prs
open Tre
set_option maxRecDepth 100000
def wPackage : List UInt8 := [112, 97, 99, 107, 97, 103, 101]
def wImport : List UInt8 := [105, 109, 112, 111, 114, 116]
def wFunc : List UInt8 := [102, 117, 110, 99]
def wInt : List UInt8 := [105, 110, 116]
def wBool : List UInt8 := [98, 111, 111, 108]
/-- The type that is next, if one is: 1, 2; 0: none. -/
def typeN (r : PS) : Int := if isW r wInt then 1 else if isW r wBool then 2 else 0
def typeR (r : PS) : PS := if isW r wInt || isW r wBool then tl r else r
/-- A parameter's reader: one without a type is bad. -/
def typeMust (r : PS) : PS := if typeN r == 0 then badR (typeR r) else typeR r
/-- Parameters, behind (. -/
def runP : Nat → List Tp → PS → List Tp × PS
  | 0, xs, r => (xs, r)
  | n + 1, xs, r =>
    if r.bad || isW r [41] then (xs, mustW r [41])
    else if isW (typeMust (wordR r 1 false)) [44] then
      (if isW (tl (typeMust (wordR r 1 false))) [41] then (xs ++ [⟨wordS r 1 false, typeN (wordR r 1 false)⟩], mustW (badR (tl (typeMust (wordR r 1 false)))) [41])
       else runP n (xs ++ [⟨wordS r 1 false, typeN (wordR r 1 false)⟩]) (tl (typeMust (wordR r 1 false))))
    else (xs ++ [⟨wordS r 1 false, typeN (wordR r 1 false)⟩], mustW (typeMust (wordR r 1 false)) [41])
theorem typeR_lenR (r : PS) : lenR (typeR r) ≤ lenR r := by
  unfold typeR
  split
  · rw [lenR_tl]; omega
  · exact Nat.le_refl _
theorem typeMust_lenR (r : PS) : lenR (typeMust r) ≤ lenR r := by
  unfold typeMust
  split
  · rw [lenR_badR]; omega
  · exact typeR_lenR r
theorem runP_lenR : ∀ (n : Nat) (xs : List Tp) (r : PS), lenR (runP n xs r).2 ≤ lenR r
  | 0, _, _ => Nat.le_refl _
  | n + 1, xs, r => by
    have h1 := lenR_wordR r 1 false
    have h2 := typeMust_lenR (wordR r 1 false)
    have h3 := lenR_tl (typeMust (wordR r 1 false))
    unfold runP
    split
    · exact lenR_mustW _ _
    split
    · split
      · have := lenR_mustW (badR (tl (typeMust (wordR r 1 false)))) [41]
        rw [lenR_badR] at this
        show lenR (mustW (badR (tl (typeMust (wordR r 1 false)))) [41]) ≤ _
        omega
      · exact Nat.le_trans (runP_lenR n _ _) (by omega)
    · have := lenR_mustW (typeMust (wordR r 1 false)) [41]
      show lenR (mustW (typeMust (wordR r 1 false)) [41]) ≤ _
      omega
theorem runP_same : ∀ (n n' : Nat) (xs : List Tp) (r : PS), lenR r < n → lenR r < n' → runP n xs r = runP n' xs r
  | 0, _, _, _, h, _ => by omega
  | _ + 1, 0, _, _, _, h => by omega
  | n + 1, n' + 1, xs, r, h, h' => by
    unfold runP
    split
    · rfl
    split
    · next hc =>
      split
      · rfl
      · have h1 := lenR_wordR r 1 false
        have h2 := typeMust_lenR (wordR r 1 false)
        have h3 := lenR_tl (typeMust (wordR r 1 false))
        have h4 := lenR_pos hc
        exact runP_same n n' _ _ (by omega) (by omega)
    · rfl
def tellP (xs : List Tp) (r : PS) : List Tp × PS := runP (lenR r + 1) xs r
theorem tellP_lenR (xs : List Tp) (r : PS) : lenR (tellP xs r).2 ≤ lenR r := runP_lenR _ _ _
theorem tellP_eq (xs : List Tp) (r : PS) : tellP xs r =
    if r.bad || isW r [41] then (xs, mustW r [41])
    else if isW (typeMust (wordR r 1 false)) [44] then
      (if isW (tl (typeMust (wordR r 1 false))) [41] then (xs ++ [⟨wordS r 1 false, typeN (wordR r 1 false)⟩], mustW (badR (tl (typeMust (wordR r 1 false)))) [41])
       else tellP (xs ++ [⟨wordS r 1 false, typeN (wordR r 1 false)⟩]) (tl (typeMust (wordR r 1 false))))
    else (xs ++ [⟨wordS r 1 false, typeN (wordR r 1 false)⟩], mustW (typeMust (wordR r 1 false)) [41]) := by
  conv => lhs; unfold tellP runP
  split
  · rfl
  split
  · next hc =>
    split
    · rfl
    · have h1 := lenR_wordR r 1 false
      have h2 := typeMust_lenR (wordR r 1 false)
      have h3 := lenR_tl (typeMust (wordR r 1 false))
      have h4 := lenR_pos hc
      exact runP_same _ _ _ _ (by omega) (by omega)
  · rfl
/-- A function, behind func. -/
def fnD (r : PS) : Tf × PS :=
  (⟨wordS r 1 false, (tellP [] (mustW (wordR r 1 false) [40])).1, typeN (tellP [] (mustW (wordR r 1 false) [40])).2, (tellS .block (typeR (tellP [] (mustW (wordR r 1 false) [40])).2)).1⟩,
   ⟨(tellS .block (typeR (tellP [] (mustW (wordR r 1 false) [40])).2)).2.l, (tellS .block (typeR (tellP [] (mustW (wordR r 1 false) [40])).2)).2.bad, (tellS .block (typeR (tellP [] (mustW (wordR r 1 false) [40])).2)).2.big || decide (4 < (tellP [] (mustW (wordR r 1 false) [40])).1.length)⟩)
theorem fnD_lenR (r : PS) : lenR (fnD r).2 ≤ lenR r := by
  have h1 := lenR_wordR r 1 false
  have h2 := lenR_mustW (wordR r 1 false) [40]
  have h3 := tellP_lenR [] (mustW (wordR r 1 false) [40])
  have h4 := typeR_lenR (tellP [] (mustW (wordR r 1 false) [40])).2
  have h5 := tellS_lenR .block (typeR (tellP [] (mustW (wordR r 1 false) [40])).2)
  show lenR (tellS .block (typeR (tellP [] (mustW (wordR r 1 false) [40])).2)).2 ≤ _
  omega
/-- Imports, one behind the other. -/
def runI : Nat → List (List UInt8) → PS → List (List UInt8) × PS
  | 0, xs, r => (xs, r)
  | n + 1, xs, r => if isW r wImport then runI n (xs ++ [wordS (tl r) 3 false]) (mustW (wordR (tl r) 3 false) [59]) else (xs, r)
theorem runI_same : ∀ (n n' : Nat) (xs : List (List UInt8)) (r : PS), lenR r < n → lenR r < n' → runI n xs r = runI n' xs r
  | 0, _, _, _, h, _ => by omega
  | _ + 1, 0, _, _, _, h => by omega
  | n + 1, n' + 1, xs, r, h, h' => by
    unfold runI
    split
    · next hc =>
      have h1 := lenR_pos hc
      have h2 := lenR_tl r
      have h3 := lenR_wordR (tl r) 3 false
      have h4 := lenR_mustW (wordR (tl r) 3 false) [59]
      exact runI_same n n' _ _ (by omega) (by omega)
    · rfl
def tellI (xs : List (List UInt8)) (r : PS) : List (List UInt8) × PS := runI (lenR r + 1) xs r
theorem tellI_eq (xs : List (List UInt8)) (r : PS) : tellI xs r = if isW r wImport then tellI (xs ++ [wordS (tl r) 3 false]) (mustW (wordR (tl r) 3 false) [59]) else (xs, r) := by
  conv => lhs; unfold tellI runI
  split
  · next hc =>
    have h1 := lenR_pos hc
    have h2 := lenR_tl r
    have h3 := lenR_wordR (tl r) 3 false
    have h4 := lenR_mustW (wordR (tl r) 3 false) [59]
    exact runI_same _ _ _ _ (by omega) (by omega)
  · rfl
/-- Functions, one behind the other. -/
def runF : Nat → List Tf → PS → List Tf × PS
  | 0, xs, r => (xs, r)
  | n + 1, xs, r => if isW r wFunc then runF n (xs ++ [(fnD (tl r)).1]) (mustW (fnD (tl r)).2 [59]) else (xs, r)
theorem runF_same : ∀ (n n' : Nat) (xs : List Tf) (r : PS), lenR r < n → lenR r < n' → runF n xs r = runF n' xs r
  | 0, _, _, _, h, _ => by omega
  | _ + 1, 0, _, _, _, h => by omega
  | n + 1, n' + 1, xs, r, h, h' => by
    unfold runF
    split
    · next hc =>
      have h1 := lenR_pos hc
      have h2 := lenR_tl r
      have h3 := fnD_lenR (tl r)
      have h4 := lenR_mustW (fnD (tl r)).2 [59]
      exact runF_same n n' _ _ (by omega) (by omega)
    · rfl
def tellF (xs : List Tf) (r : PS) : List Tf × PS := runF (lenR r + 1) xs r
theorem tellF_eq (xs : List Tf) (r : PS) : tellF xs r = if isW r wFunc then tellF (xs ++ [(fnD (tl r)).1]) (mustW (fnD (tl r)).2 [59]) else (xs, r) := by
  conv => lhs; unfold tellF runF
  split
  · next hc =>
    have h1 := lenR_pos hc
    have h2 := lenR_tl r
    have h3 := fnD_lenR (tl r)
    have h4 := lenR_mustW (fnD (tl r)).2 [59]
    exact runF_same _ _ _ _ (by omega) (by omega)
  · rfl
/-- A file's head: its name, and what is behind it. -/
def headS (r : PS) : List UInt8 := wordS (mustW r wPackage) 1 true
def headR (r : PS) : PS := mustW (wordR (mustW r wPackage) 1 true) [59]
/-- A file's words. -/
def fileD (r : PS) : Tl × PS :=
  (⟨headS r, (tellI [] (headR r)).1, (tellF [] (tellI [] (headR r)).2).1⟩,
   ⟨(tellF [] (tellI [] (headR r)).2).2.l, (tellF [] (tellI [] (headR r)).2).2.bad, (tellF [] (tellI [] (headR r)).2).2.big || (decide (8 < (tellI [] (headR r)).1.length) || decide (32 < (tellF [] (tellI [] (headR r)).2).1.length))⟩)
/-- The error behind all words. -/
def endE (r : PS) : Int := if r.bad || decide (0 < r.l.length) then 7 else if r.big then 11 else 0
/-- How deep words are in brackets. -/
def nestS (p : Nat × Nat) (x : Lex.Wd) : Nat × Nat :=
  if x.k == 5 then (if x.s == [40] || x.s == [123] then (p.1 + 1, max p.2 (p.1 + 1)) else if x.s == [41] || x.s == [125] then (p.1 - 1, max p.2 (p.1 - 1)) else (p.1, max p.2 p.1)) else p
def nestD (l : List Lex.Wd) : Nat := (l.foldl nestS (0, 0)).2
def zeroL : Tl := ⟨[], [], []⟩
/-- What a text tells: a file, or an error's number. -/
def fileT (t : List UInt8) : Tl × Int :=
  if (Lex.words t).2 ≠ 0 then (zeroL, (Lex.words t).2)
  else if 24 < nestD (Lex.words t).1 then (zeroL, 11)
  else if endE (fileD ⟨(Lex.words t).1, false, false⟩).2 ≠ 0 then (zeroL, endE (fileD ⟨(Lex.words t).1, false, false⟩).2)
  else ((fileD ⟨(Lex.words t).1, false, false⟩).1, 0)
/-- An expression's words. -/
def exprD (r : PS) : Tx × PS := ((tell (.row 0) r).1, skipW (tell (.row 0) r).2 [59])
def exprT (t : List UInt8) : Tx × Int :=
  if (Lex.words t).2 ≠ 0 then (nilT, (Lex.words t).2)
  else if 24 < nestD (Lex.words t).1 then (nilT, 11)
  else if endE (exprD ⟨(Lex.words t).1, false, false⟩).2 ≠ 0 then (nilT, endE (exprD ⟨(Lex.words t).1, false, false⟩).2)
  else ((exprD ⟨(Lex.words t).1, false, false⟩).1, 0)
end Go.Proofs.YtmihlmlojmdhjaaGreatDoor.Prs
