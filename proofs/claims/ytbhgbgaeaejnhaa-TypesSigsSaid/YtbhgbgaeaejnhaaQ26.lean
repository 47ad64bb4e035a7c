/-
  The program's Look. Conditions: what is looked through lies in memory; sizes.
-/
import Derived.Test.YtbhgbgaeaejnhaaQ03
import Derived.Test.YtbhgbgaeaejnhaaQ25
namespace Go.Proofs.Ytbhgbgaeaejnhaa.Typ
open Go.RowKit Tre
set_option maxRecDepth 100000
set_option linter.unusedSimpArgs false
set_option maxHeartbeats 4000000 in
theorem lk1_any (g : Sg) (bs : Nat) (s : ByteArray) (w : World) (hc : w.cell? ⟨bs, 0, none⟩ = some (.string s)) :
    Calls Try.prog 36 #[sgV g, .pointer (some ⟨bs, 0, none⟩)] w (EndsB (.bool (isG s g)) w) := by
  have b0 := ball_new w #[.string g.s, .slice g.a g.p.length g.c, .int .u8 g.r] 33
  have n0 := new_at w #[.string g.s, .slice g.a g.p.length g.c, .int .u8 g.r] 33
  rw [sgV_eq]
  have hlt : bs < w.heap.size := World.block_lt_of_cell? _ _ hc
  have hc' := (World.cell?_of_block (a := ⟨bs, 0, none⟩) (b0.block bs hlt)).trans hc
  obtain ⟨W0, hW0⟩ : ∃ W0, w.alloc (.cells #[.string g.s, .slice g.a g.p.length g.c, .int .u8 g.r] 33) = W0 := ⟨_, rfl⟩
  rw [hW0] at b0 n0 hc'
  have z0 := cell_at n0 0
  simp only [List.getElem?_toArray, List.getElem?_cons_zero] at z0
  have HB := Lib.hid b0
  have HG : Hid (isG s g = (g.s.toList == s.toList)) := Lib.hid rfl
  generalize g.p.length = pl at *
  clear b0 n0 hc
  go_enter Try.func36, Try.ntmps36
  go_wp2_with fail
  go_ret
  exact EndsB.of (by rw [HG.out]; rfl) HB.out
/-- What IndexFunc tells. -/
def IdxQ (x : List Sg) (s : ByteArray) (w : World) (e : Ending) (w' : World) : Prop :=
  Below w.heap.size w w' ∧ ((∃ (k : Nat) (g : Sg), e = .returned (.int .i64 k) ∧ x[k]? = some g ∧ x.find? (isG s) = some g) ∨ (e = .returned (.int .i64 (-1)) ∧ x.find? (isG s) = none))
set_option maxHeartbeats 8000000 in
theorem index_any (x : List Sg) (A : Option Addr) (c bs : Nat) (s : ByteArray) (w : World) (hx : Row 3 sgC w A x) (hl : x.length ≤ most) (hc : w.cell? ⟨bs, 0, none⟩ = some (.string s)) :
    Calls Try.prog 35 #[.slice A x.length c, .func (.func 36) #[] #[.pointer (some ⟨bs, 0, none⟩)]] w (IdxQ x s w) := by
  unfold most at hl
  have HX := Lib.hid hx
  have hlt0 : bs < w.heap.size := World.block_lt_of_cell? _ _ hc
  have HC : Hid (∀ W, Below w.heap.size w W → W.cell? ⟨bs, 0, none⟩ = some (.string s)) := Lib.hid (fun W hW => (World.cell?_of_block (a := ⟨bs, 0, none⟩) (hW.block bs hlt0)).trans hc)
  obtain ⟨n, hn⟩ : ∃ n, x.length = n := ⟨_, rfl⟩
  rw [hn] at hl ⊢
  have HN := Lib.hid hn
  clear hn hx hc
  go_enter Try.func35, Try.ntmps35
  go_wp2_with fail
  go_loopw [8] (fun i wr => ∃ k : Nat, k ≤ n ∧ i = .int .i64 k ∧ Hid (Below w.heap.size w wr) ∧ Hid (∀ (j : Nat) (a : Sg), j < k → x[j]? = some a → isG s a = false)) (fun i _ => n - (intOf i).toNat)
  case atStart => exact ⟨0, Nat.zero_le _, rfl, Lib.hid (Below.refl _ _), Lib.hid (fun j a h => by omega)⟩
  case round =>
    obtain ⟨k, hk, rfl, HB, HS⟩ := hrel
    by_cases hlt : k < n
    · obtain ⟨a, ha⟩ : ∃ a, x[k]? = some a := ⟨_, List.getElem?_eq_getElem (by rw [HN.out]; exact hlt)⟩
      obtain ⟨b1, o1, rfl, hc1⟩ := HX.out.at_ HB.out ha
      obtain ⟨p0, p1, p2⟩ := sgC_at hc1
      have C1 := Lib.hid (lk1_any a bs s wr (HC.out wr HB.out))
      rw [sgV_eq] at C1
      have HA := Lib.hid ha
      clear hc1 ha
      obtain ⟨t1, ht1⟩ : ∃ t, isG s a = t := ⟨_, rfl⟩
      rw [ht1] at C1
      have HG := Lib.hid ht1
      clear ht1
      cases t1 with
      | false =>
        go_wp2_with fail
        refine C1.out.mono ?_
        rintro e w1 ⟨rfl, hb⟩
        have HB1 := Lib.hid (HB.out.trans (hb.mono HB.out.size))
        clear hb
        go_wp2_with fail
        go_roundw
        case rel => exact ⟨k + 1, by omega, by go_num, HB1, Lib.hid (fun j b hj e => by
          rcases Nat.lt_or_ge j k with h | h
          · exact HS.out j b h e
          · obtain rfl : j = k := by omega
            have := HA.out.symm.trans e
            injection this with this
            rw [← this]
            exact HG.out)⟩
        case measure => simp [intOf]; omega
      | true =>
        go_wp2_with fail
        refine C1.out.mono ?_
        rintro e w1 ⟨rfl, hb⟩
        have HB1 := Lib.hid (HB.out.trans (hb.mono HB.out.size))
        clear hb
        go_wp2_with fail
        go_ret
        exact ⟨HB1.out, .inl ⟨k, a, rfl, HA.out, find_hit x k a HA.out HG.out HS.out⟩⟩
    · obtain rfl : k = n := by omega
      go_wp2_with fail
      go_ret
      exact ⟨HB.out, .inr ⟨rfl, find_miss x (by rw [HN.out]; exact HS.out)⟩⟩
theorem put3 {w W : World} {b : Nat} {cs : Array Value} (h : W.heap[b + 1]? = some (.cells cs 33 (0, 0))) (hl : Below b w W) (v0 v1 v2 : Value) (hcs : cs.size = 3 := by rfl) :
    (((W.setCell ⟨b + 1, 0, none⟩ v0).setCell ⟨b + 1, 1, none⟩ v1).setCell ⟨b + 1, 2, none⟩ v2).heap[b + 1]? = some (.cells #[v0, v1, v2] 33 (0, 0)) ∧
    Below b w (((W.setCell ⟨b + 1, 0, none⟩ v0).setCell ⟨b + 1, 1, none⟩ v1).setCell ⟨b + 1, 2, none⟩ v2) := by
  refine ⟨(setc_at (setc_at (setc_at h _) _) _).trans ?_, ((hl.setCell (p := ⟨b + 1, 0, none⟩) (by simp) _).setCell (p := ⟨b + 1, 1, none⟩) (by simp) _).setCell (p := ⟨b + 1, 2, none⟩) (by simp) _⟩
  obtain ⟨l⟩ := cs
  match l, hcs with
  | [a, b, c], _ => rfl
set_option maxHeartbeats 8000000 in
theorem plook_any (x : List Sg) (A : Option Addr) (c : Nat) (s : ByteArray) (w : World) (hx : Row 3 sgC w A x) (hl : x.length ≤ most) (hi : ∀ g ∈ x, SgIn w g ∧ g.s.size ≤ 281474976710656 ∧ g.p.length ≤ 1000000) :
    Calls Try.prog 10 #[.slice A x.length c, .string s] w (fun e w' => Below w.heap.size w w' ∧ ((∃ g g2, x.find? (isG s) = some g ∧ e = .returned (.tuple #[sgV g2, .bool true]) ∧ coreG g2 = coreG g ∧ SgIn w' g2) ∨ (x.find? (isG s) = none ∧ e = .returned (.tuple #[sgV nilG, .bool false])))) := by
  have HX := Lib.hid hx
  have HI := Lib.hid hi
  have H0 : Hid (((w.alloc (.cells #[.string s] 9)).alloc (.cells #[.string ⟨#[]⟩, .slice none 0 0, .int .u8 0] 33)).heap[w.heap.size]? = some (.cells #[.string s] 9 (0, 0)) ∧ ((w.alloc (.cells #[.string s] 9)).alloc (.cells #[.string ⟨#[]⟩, .slice none 0 0, .int .u8 0] 33)).heap[w.heap.size + 1]? = some (.cells #[.string ⟨#[]⟩, .slice none 0 0, .int .u8 0] 33 (0, 0)) ∧ Below w.heap.size w ((w.alloc (.cells #[.string s] 9)).alloc (.cells #[.string ⟨#[]⟩, .slice none 0 0, .int .u8 0] 33)) ∧ ((w.alloc (.cells #[.string s] 9)).alloc (.cells #[.string ⟨#[]⟩, .slice none 0 0, .int .u8 0] 33)).heap.size = w.heap.size + 2) := Lib.hid (by
    have a1 := ball_new w #[.string s] 9
    have n1 := new_at w #[.string s] 9
    have z1 : (w.alloc (.cells #[.string s] 9)).heap.size = w.heap.size + 1 := World.size_alloc _ _
    generalize w.alloc (.cells #[.string s] 9) = X1 at *
    have n2 := new_at X1 #[.string ⟨#[]⟩, .slice none 0 0, .int .u8 0] 33
    rw [z1] at n2
    exact ⟨(Below.heap_alloc X1 _ _ (lt_of_heap n1)).trans n1, n2, a1.trans ((ball_new X1 _ _).mono a1.size), by rw [World.size_alloc, z1]⟩)
  have hl2 := hl
  unfold most at hl2
  obtain ⟨n, hn⟩ : ∃ n, x.length = n := ⟨_, rfl⟩
  have CI := Lib.hid (index_any x A c w.heap.size s _ (hx.below H0.out.2.2.1) hl (cell_at H0.out.1 0))
  rw [hn] at CI hl2 ⊢
  have HN := Lib.hid hn
  clear hx hi hn hl
  go_enter Try.func10, Try.ntmps10
  go_wp2_with fail
  generalize (w.alloc (.cells #[.string s] 9)).alloc (.cells #[.string ⟨#[]⟩, .slice none 0 0, .int .u8 0] 33) = X at *
  refine CI.out.mono ?_
  rintro e w1 ⟨hb, ⟨k, g, rfl, hk, hf⟩ | ⟨rfl, hf⟩⟩
  · have HB := Lib.hid hb
    have hb1 := H0.out.2.2.1.trans (hb.mono (by have := H0.out.2.2.2; omega))
    have HB1 := Lib.hid hb1
    have hlt : k < n := by rw [← HN.out]; exact (List.getElem?_eq_some_iff.1 hk).1
    obtain ⟨b1, o1, rfl, hc1⟩ := HX.out.at_ hb1 hk
    obtain ⟨p0, p1, p2⟩ := sgC_at hc1
    have hin := HI.out g (List.mem_of_getElem? hk)
    have CN := Lib.hid (newSig_any g w1 (hin.1.below hb1) hin.2.1 hin.2.2)
    rw [sgV_eq] at CN
    have HF := Lib.hid hf
    have hres := (hb.block _ (lt_of_heap H0.out.2.1)).trans H0.out.2.1
    have HRES := Lib.hid hres
    clear hc1 hk hf hb hb1 hin hres
    go_wp2_with fail
    refine CN.out.mono ?_
    rintro e w2 ⟨g2, rfl, hc2, hs2, hn2, hb2⟩
    have hres2 := (hb2.block _ (lt_of_heap HRES.out)).trans HRES.out
    have c0 := cell_at hres2 0
    have c1 := cell_at hres2 1
    have c2 := cell_at hres2 2
    have f0 : ∀ i, w2.frozen? ⟨w.heap.size + 1, i, none⟩ = false := fun i => by simp [World.frozen?, hres2]
    simp only [List.getElem?_toArray, List.getElem?_cons_zero, List.getElem?_cons_succ] at c0 c1 c2
    have hb3 := HB1.out.trans (hb2.mono HB1.out.size)
    have HP := fun v0 v1 v2 => Lib.hid (put3 hres2 hb3 v0 v1 v2)
    have HS2 := Lib.hid hs2
    have HN2 := Lib.hid hn2
    have HZ2 := Lib.hid (lt_of_heap HRES.out)
    have HC2 := Lib.hid hc2
    clear hb3 hres2 hs2 hc2 hb2 hn2
    rw [sgV_eq]
    go_wp2_with fail
    have hp := (HP (.string g2.s) (.slice g2.a g2.p.length g2.c) (.int .u8 g2.r)).out
    refine bodyPost_ret (results_sig2 rfl _ _ (w.heap.size + 1) _ _ _ (.bool true) rfl rfl hp.1) rfl ⟨hp.2, .inl ⟨g, g2, HF.out, by rw [sgV_eq], HC2.out, ?_⟩⟩
    refine ⟨fun h0 => ?_, HS2.out.len, HS2.out.s⟩
    obtain ⟨b, o, e, hlt2, hcc⟩ := HS2.out.row h0
    have hb := HN2.out b o e
    have hz := HZ2.out
    have hne : b ≠ w.heap.size + 1 := by omega
    refine ⟨b, o, e, by simpa using hlt2, fun j y hy r u hu => ?_⟩
    rw [World.cell?_of_block (Below.heap_setCell _ _ _ _ hne), World.cell?_of_block (Below.heap_setCell _ _ _ _ hne), World.cell?_of_block (Below.heap_setCell _ _ _ _ hne)]
    exact hcc j y hy r u hu
  · have hres := (hb.block _ (lt_of_heap H0.out.2.1)).trans H0.out.2.1
    have c0 := cell_at hres 0
    have c1 := cell_at hres 1
    have c2 := cell_at hres 2
    have f0 : ∀ i, w1.frozen? ⟨w.heap.size + 1, i, none⟩ = false := fun i => by simp [World.frozen?, hres]
    simp only [List.getElem?_toArray, List.getElem?_cons_zero, List.getElem?_cons_succ] at c0 c1 c2
    have HF := Lib.hid hf
    have HRES := Lib.hid hres
    have HB1 := Lib.hid (H0.out.2.2.1.trans (hb.mono (by have := H0.out.2.2.2; omega)))
    clear hf hb hres
    go_wp2_with fail
    have hp := put3 HRES.out HB1.out (.string ⟨#[]⟩) (.slice none 0 0) (.int .u8 0)
    exact bodyPost_ret (results_sig2 rfl _ _ (w.heap.size + 1) _ _ _ (.bool false) rfl rfl hp.1) rfl ⟨hp.2, .inr ⟨HF.out, rfl⟩⟩
end Go.Proofs.Ytbhgbgaeaejnhaa.Typ
/- The program's Takes and Same of signatures. Conditions: what is compared lies in memory. -/
namespace Go.Proofs.Ytbhgbgaeaejnhaa.Typ
open Go.RowKit Tre
set_option maxRecDepth 100000
set_option linter.unusedSimpArgs false
set_option maxHeartbeats 4000000 in
theorem equalTy_any (x y : List Int) (A B : Option Addr) (c d : Nat) (w : World) (hx : Row 1 tyC w A x) (hy : Row 1 tyC w B y) (hl : x.length ≤ most) :
    Calls Try.prog 41 #[.slice A x.length c, .slice B y.length d] w (EndsQ (.bool (sameP x y)) w) := by
  unfold most at *
  unfold sameP
  by_cases hne : x.length = y.length
  · have HX := Lib.hid hx
    have HY := Lib.hid hy
    clear hx hy
    rw [← hne]
    have HNE := Lib.hid hne
    clear hne
    obtain ⟨n, hn⟩ : ∃ n, x.length = n := ⟨_, rfl⟩
    rw [hn] at hl ⊢
    have HN := Lib.hid hn
    clear hn
    go_enter Try.func41, Try.ntmps41
    go_wp2
    go_loopw [13] (fun i wr => ∃ k m : Nat, k ≤ n ∧ i = .int .i64 k ∧ wr = w.drewN m ∧ Hid (∀ (j : Nat) (a b : Int), j < k → x[j]? = some a → y[j]? = some b → sameI a b = true)) (fun i _ => n - (intOf i).toNat)
    case atStart => exact ⟨0, 0, Nat.zero_le _, rfl, rfl, Lib.hid (fun j a b h => by omega)⟩
    case round =>
      obtain ⟨k, m, hk, rfl, rfl, hs⟩ := hrel
      by_cases hlt : k < n
      · obtain ⟨a, ha⟩ : ∃ a, x[k]? = some a := ⟨_, List.getElem?_eq_getElem (by rw [HN.out]; exact hlt)⟩
        obtain ⟨b, hb2⟩ : ∃ b, y[k]? = some b := ⟨_, List.getElem?_eq_getElem (by rw [← HNE.out, HN.out]; exact hlt)⟩
        obtain ⟨b1, o1, rfl, hc1⟩ := HX.out.at_ (Below.refl _ _) ha
        obtain ⟨b2, o2, rfl, hc2⟩ := HY.out.at_ (Below.refl _ _) hb2
        have p0 := hc1 0 _ rfl
        have q0 := hc2 0 _ rfl
        simp only [Nat.add_zero, Nat.mul_one] at p0 q0
        have HA := Lib.hid ha
        have HB := Lib.hid hb2
        have HS := hs
        clear hc1 hc2 ha hb2 hs
        rcases Bool.eq_false_or_eq_true (a == b) with ht | ht
        case' inr =>
          have HT : Hid (sameI a b = false) := Lib.hid ht
          have ht2 : (a != b) = true := by rw [bne, ht]; rfl
        case' inl =>
          have HT : Hid (sameI a b = true) := Lib.hid ht
          have ht2 : (a != b) = false := by rw [bne, ht]; rfl
        case inr =>
          go_wp2
          go_quiet (fail)
          go_wp2
          go_ret
          exact ends_q2 (allTwo_no k _ _ HA.out HB.out HT.out).symm
        case inl =>
          go_wp2
          go_quiet (fail)
          go_wp2
          go_roundw
          case rel => exact ⟨k + 1, m + nq, by omega, by go_num, rfl, Lib.hid (two_more HS.out HA.out HB.out HT.out)⟩
          case measure => simp [intOf]; omega
      · obtain rfl : k = n := by omega
        go_wp2_with fail
        go_ret
        exact ends_q (all_two HNE.out HN.out hs.out).symm
  · have HN := Lib.hid (allTwo_len (p := sameI) hne)
    generalize allTwo sameI x y = t at *
    have hne' : ((x.length : Int) == (y.length : Int)) = false := by rw [beq_eq_false_iff_ne]; omega
    generalize x.length = n at *
    generalize y.length = n' at *
    clear hx hy hne
    go_enter Try.func41, Try.ntmps41
    go_wp2_with fail
    go_ret
    exact ends_q (m := 0) HN.out.symm
set_option maxHeartbeats 4000000 in
/-- The program's Takes. -/
theorem ptakes_any (g : Sg) (y : List Int) (B : Option Addr) (d : Nat) (w : World) (hg : SgIn w g) (hy : Row 1 tyC w B y) :
    Calls Try.prog 15 #[sgV g, .slice B y.length d] w (EndsB (.bool (sameP g.p y)) w) := by
  have hb0 := ball_new w #[.string g.s, .slice g.a g.p.length g.c, .int .u8 g.r] 33
  have n0 := new_at w #[.string g.s, .slice g.a g.p.length g.c, .int .u8 g.r] 33
  have CT := equalTy_any g.p y g.a B g.c d _ (hg.below hb0).row (hy.below hb0) hg.len
  rw [sgV_eq]
  obtain ⟨W0, hW0⟩ : ∃ W0, w.alloc (.cells #[.string g.s, .slice g.a g.p.length g.c, .int .u8 g.r] 33) = W0 := ⟨_, rfl⟩
  rw [hW0] at hb0 n0 CT
  have CT := Lib.hid CT
  have HB := Lib.hid hb0
  have z1 : W0.cell? ⟨w.heap.size, 1, none⟩ = some (.slice g.a g.p.length g.c) := cell_at n0 1
  generalize sameP g.p y = t at *
  generalize g.p.length = pl at *
  generalize y.length = yl at *
  clear hb0 n0 hg hy
  go_enter Try.func15, Try.ntmps15
  go_wp2_with fail
  refine CT.out.mono ?_
  rintro e1 w1 ⟨rfl, m, rfl⟩
  go_wp2_with fail
  go_ret
  exact EndsB.of rfl (HB.out.trans ((below_drewN W0 m).mono HB.out.size))
set_option maxHeartbeats 8000000 in
theorem psameSig_any (a b : Sg) (w : World) (ha : SgIn w a) (hb : SgIn w b) :
    Calls Try.prog 44 #[sgV a, sgV b] w (EndsB (.bool (sameG a b)) w) := by
  have b1 := ball_new w #[.string a.s, .slice a.a a.p.length a.c, .int .u8 a.r] 33
  have n1 := new_at w #[.string a.s, .slice a.a a.p.length a.c, .int .u8 a.r] 33
  rw [sgV_eq, sgV_eq]
  obtain ⟨W0, hW0⟩ : ∃ W0, w.alloc (.cells #[.string a.s, .slice a.a a.p.length a.c, .int .u8 a.r] 33) = W0 := ⟨_, rfl⟩
  have hz0 : W0.heap.size = w.heap.size + 1 := by rw [← hW0]; exact World.size_alloc _ _
  rw [hW0] at b1 n1
  have b2 := ball_new W0 #[.string b.s, .slice b.a b.p.length b.c, .int .u8 b.r] 33
  have n2 := new_at W0 #[.string b.s, .slice b.a b.p.length b.c, .int .u8 b.r] 33
  obtain ⟨W1, hW1⟩ : ∃ W1, W0.alloc (.cells #[.string b.s, .slice b.a b.p.length b.c, .int .u8 b.r] 33) = W1 := ⟨_, rfl⟩
  rw [hW1] at b2 n2
  have n1' := (b2.block _ (lt_of_heap n1)).trans n1
  have hbb := b1.trans (b2.mono b1.size)
  have CT := ptakes_any a b.p b.a b.c W1 (ha.below hbb) (hb.below hbb).row
  rw [sgV_eq] at CT
  have HC := Lib.hid CT
  have HB := Lib.hid hbb
  have z0 := cell_at n1' 0
  have z1 := cell_at n1' 1
  have z2 := cell_at n1' 2
  have y0 := cell_at n2 0
  have y1 := cell_at n2 1
  have y2 := cell_at n2 2
  have HN1 := Lib.hid n1'
  have HN2 := Lib.hid n2
  rw [hz0] at y0 y1 y2
  simp only [List.getElem?_toArray, List.getElem?_cons_zero, List.getElem?_cons_succ] at z0 z1 z2 y0 y1 y2
  obtain ⟨t3, ht3⟩ : ∃ t, sameP a.p b.p = t := ⟨_, rfl⟩
  rw [ht3] at HC
  obtain ⟨t1, ht1⟩ : ∃ t, (a.s.toList == b.s.toList) = t := ⟨_, rfl⟩
  obtain ⟨t2, ht2⟩ : ∃ t, (a.r == b.r) = t := ⟨_, rfl⟩
  have HG : Hid (sameG a b = (t1 && t2 && t3)) := Lib.hid (by unfold sameG; rw [ht1, ht2, ht3])
  clear ht3 CT ha hb b1 b2 n1 n2 n1' hbb
  generalize a.p.length = pl at *
  generalize b.p.length = ql at *
  cases t1 with
  | false =>
    go_enter Try.func44, Try.ntmps44
    go_wp2_with fail
    go_ret
    exact EndsB.of (by rw [HG.out]; rfl) HB.out
  | true =>
    cases t3 with
    | false =>
      go_enter Try.func44, Try.ntmps44
      go_wp2_with fail
      refine HC.out.mono ?_
      rintro e1 w1 ⟨rfl, hb1⟩
      go_wp2_with fail
      go_ret
      exact EndsB.of (by rw [HG.out]; cases t2 <;> rfl) (HB.out.trans (hb1.mono HB.out.size))
    | true =>
      go_enter Try.func44, Try.ntmps44
      go_wp2_with fail
      refine HC.out.mono ?_
      rintro e1 w1 ⟨rfl, hb1⟩
      have z2 : w1.cell? ⟨w.heap.size, 2, none⟩ = some (.int .u8 a.r) := cell_at ((hb1.block _ (lt_of_heap HN1.out)).trans HN1.out) 2
      have y2 : w1.cell? ⟨w.heap.size + 1, 2, none⟩ = some (.int .u8 b.r) := hz0 ▸ cell_at ((hb1.block _ (lt_of_heap HN2.out)).trans HN2.out) 2
      have HB1 := Lib.hid (HB.out.trans (hb1.mono HB.out.size))
      clear hb1
      go_wp2_with fail
      go_ret
      exact EndsB.of (by rw [HG.out]; cases t2 <;> simp) HB1.out
end Go.Proofs.Ytbhgbgaeaejnhaa.Typ
/- The program's Same of rows of signatures. Conditions: both lie in memory. -/
namespace Go.Proofs.Ytbhgbgaeaejnhaa.Typ
open Go.RowKit Tre
set_option maxRecDepth 100000
set_option linter.unusedSimpArgs false
set_option maxHeartbeats 4000000 in
theorem equalG (x y : List Sg) (A B : Option Addr) (c d : Nat) (w : World) (hx : Row 3 sgC w A x) (hy : Row 3 sgC w B y) (hl : x.length ≤ most)
    (C : ∀ a ∈ x, ∀ b ∈ y, ∀ w', Below w.heap.size w w' → Hid (Calls Try.prog 44 #[sgV a, sgV b] w' (EndsB (.bool (sameG a b)) w'))) :
    Calls Try.prog 43 #[.slice A x.length c, .slice B y.length d, .func (.func 44) #[] #[]] w (EndsB (.bool (sameL x y)) w) := by
  unfold most at *
  rw [show sameL x y = allTwo sameG x y from rfl]
  by_cases hne : x.length = y.length
  · have HX := Lib.hid hx
    have HY := Lib.hid hy
    have HC := Lib.hid C
    clear hx hy C
    rw [← hne]
    have HNE := Lib.hid hne
    clear hne
    obtain ⟨n, hn⟩ : ∃ n, x.length = n := ⟨_, rfl⟩
    rw [hn] at hl ⊢
    have HN := Lib.hid hn
    clear hn
    go_enter Try.func43, Try.ntmps43
    go_wp2
    go_loopw [17] (fun i wr => ∃ k : Nat, k ≤ n ∧ i = .int .i64 k ∧ Below w.heap.size w wr ∧ Hid (∀ (j : Nat) (a b : Sg), j < k → x[j]? = some a → y[j]? = some b → sameG a b = true)) (fun i _ => n - (intOf i).toNat)
    case atStart => exact ⟨0, Nat.zero_le _, rfl, Below.refl _ _, Lib.hid (fun j a b h => by omega)⟩
    case round =>
      obtain ⟨k, hk, rfl, hb, hs⟩ := hrel
      by_cases hlt : k < n
      · obtain ⟨a, ha⟩ : ∃ a, x[k]? = some a := ⟨_, List.getElem?_eq_getElem (by rw [HN.out]; exact hlt)⟩
        obtain ⟨b, hb2⟩ : ∃ b, y[k]? = some b := ⟨_, List.getElem?_eq_getElem (by rw [← HNE.out, HN.out]; exact hlt)⟩
        have CC := HC.out a (List.mem_of_getElem? ha) b (List.mem_of_getElem? hb2)
        obtain ⟨b1, o1, rfl, hc1⟩ := HX.out.at_ hb ha
        obtain ⟨b2, o2, rfl, hc2⟩ := HY.out.at_ (hb.trans ((ball_new wr #[.string a.s, .slice a.a a.p.length a.c, .int .u8 a.r] 33).mono hb.size)) hb2
        have HBL := Lib.hid (hb.trans ((two_new wr #[.string a.s, .slice a.a a.p.length a.c, .int .u8 a.r] #[.string b.s, .slice b.a b.p.length b.c, .int .u8 b.r] 33).mono hb.size))
        obtain ⟨p0, p1, p2⟩ := sgC_at hc1
        obtain ⟨q0, q1, q2⟩ := sgC_at hc2
        have HA := Lib.hid ha
        have HB := Lib.hid hb2
        clear hc1 hc2 ha hb2
        rw [sgV_eq, sgV_eq] at CC
        have C1 := CC _ HBL.out
        have HS := hs
        clear hs CC
        obtain ⟨t, ht0⟩ : ∃ t, sameG a b = t := ⟨_, rfl⟩
        rw [ht0] at C1
        have HT := Lib.hid ht0
        clear ht0
        rcases Bool.eq_false_or_eq_true t with ht | ht
        · subst ht
          go_wp2_with fail
          refine C1.out.mono ?_
          rintro e w1 ⟨rfl, hb1⟩
          have HB1 := Lib.hid (HBL.out.trans (hb1.mono HBL.out.size))
          clear hb1 hb
          go_wp2_with fail
          go_roundw
          case rel => exact ⟨k + 1, by omega, rfl, HB1.out, Lib.hid (two_more HS.out HA.out HB.out HT.out)⟩
          case measure => simp [intOf]; omega
        · subst ht
          go_wp2_with fail
          refine C1.out.mono ?_
          rintro e w1 ⟨rfl, hb1⟩
          have HB1 := Lib.hid (HBL.out.trans (hb1.mono HBL.out.size))
          clear hb1 hb
          go_wp2_with fail
          go_ret
          exact ends_bool (allTwo_no k a b HA.out HB.out HT.out).symm HB1.out
      · obtain rfl : k = n := by omega
        go_wp2_with fail
        go_ret
        exact ends_bool (all_two HNE.out HN.out hs.out).symm hb
  · have HN := Lib.hid (allTwo_len (p := sameG) hne)
    have HB := Lib.hid (Below.refl w.heap.size w)
    generalize allTwo sameG x y = t at *
    have hne' : ((x.length : Int) == (y.length : Int)) = false := by rw [beq_eq_false_iff_ne]; omega
    generalize x.length = n at *
    generalize y.length = n' at *
    clear hx hy C hne
    go_enter Try.func43, Try.ntmps43
    go_wp2_with fail
    go_ret
    exact ends_bool HN.out.symm HB.out
set_option maxHeartbeats 4000000 in
theorem psame_any (x y : List Sg) (A B : Option Addr) (c d : Nat) (w : World) (hx : Row 3 sgC w A x) (hy : Row 3 sgC w B y) (hl : x.length ≤ most) (ix : ∀ g ∈ x, SgIn w g) (iy : ∀ g ∈ y, SgIn w g) :
    Calls Try.prog 18 #[.slice A x.length c, .slice B y.length d] w (EndsB (.bool (sameL x y)) w) := by
  have C := Lib.hid (equalG x y A B c d w hx hy hl (fun a ha b hb w' hw => Lib.hid (psameSig_any a b w' ((ix a ha).below hw) ((iy b hb).below hw))))
  generalize sameL x y = t at *
  generalize x.length = n at *
  generalize y.length = k at *
  clear hx hy ix iy
  go_enter Try.func18, Try.ntmps18
  go_wp2_with fail
  refine C.out.mono ?_
  rintro e1 w1 ⟨rfl, hb⟩
  go_wp2_with fail
  go_ret
  exact EndsB.of rfl hb
end Go.Proofs.Ytbhgbgaeaejnhaa.Typ
