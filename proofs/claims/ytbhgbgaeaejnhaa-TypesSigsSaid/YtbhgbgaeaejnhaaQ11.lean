/-
  The library's stable sort of signatures: whole. Conditions: sizes.
-/
import Derived.Test.YtbhgbgaeaejnhaaQ09
import Derived.Test.YtbhgbgaeaejnhaaQ10
namespace Go.Proofs.Ytbhgbgaeaejnhaa.Typ
open Go.RowKit Tre Go.Sort Go.Shelf
set_option maxRecDepth 100000
set_option linter.unusedSimpArgs false
theorem sym_any {w0 : World} {b n c : Nat} (hn : n ≤ 1000000) : ∀ L, SymP w0 b n c L
  | 0 => fun W p u v s a m e hL h1 => by omega
  | L + 1 => fun W p u v s a m e hL h1 h2 h hu hv hx ha hm he => by
    by_cases hu1 : u.length = 1
    · obtain ⟨x, rfl⟩ : ∃ x, u = [x] := List.length_eq_one_iff.1 hu1
      exact sym_one h hv (hx x (by simp)) ha hm he hn
    · by_cases hv1 : v.length = 1
      · obtain ⟨y, rfl⟩ : ∃ y, v = [y] := List.length_eq_one_iff.1 hv1
        exact sym_last h hu (fun z hz => hx z hz y (by simp)) ha hm he hu1 hn
      · exact sym_gen (sym_any hn L) hL h hu hv hx ha hm he (by omega) (by omega) hn
/-- All of p stood ahead of all of r. -/
def Crs (p r : List El) : Prop := ∀ x ∈ p, ∀ y ∈ r, x.2 < y.2
theorem Crs.perm {p p2 r r2 : List El} (h : Crs p r) (h1 : ∀ x ∈ p2, x ∈ p) (h2 : ∀ x ∈ r2, x ∈ r) : Crs p2 r2 := fun x hx y hy => h x (h1 x hx) y (h2 y hy)
theorem Crs.app_l {p q r : List El} : Crs (p ++ q) r ↔ Crs p r ∧ Crs q r := by
  unfold Crs
  simp only [List.mem_append]
  exact ⟨fun h => ⟨fun x hx => h x (.inl hx), fun x hx => h x (.inr hx)⟩, fun h x hx => hx.elim (h.1 x) (h.2 x)⟩
theorem Crs.app_r {p q r : List El} : Crs p (q ++ r) ↔ Crs p q ∧ Crs p r := by
  unfold Crs
  simp only [List.mem_append]
  exact ⟨fun h => ⟨fun x hx y hy => h x hx y (.inl hy), fun x hx y hy => h x hx y (.inr hy)⟩, fun h x hx y hy => hy.elim (h.1 x hx y) (h.2 x hx y)⟩
/-- Sorted pieces of m, the last one of at most m. -/
inductive Ck (m : Nat) : List El → Prop
  | last {t : List El} : t.length ≤ m → Srt t → Ck m t
  | cons {t l : List El} : t.length = m → Srt t → Crs t l → Ck m l → Ck m (t ++ l)
/-- Pieces of m, whatever stands behind. -/
def Fk (m : Nat) (p : List El) : Prop := ∀ r, Ck m r → Crs p r → Ck m (p ++ r)
theorem Fk.nil (m : Nat) : Fk m [] := fun _ h _ => h
theorem Fk.snoc {m : Nat} {p t : List El} (h : Fk m p) (ht : t.length = m) (hs : Srt t) (hc : Crs p t) : Fk m (p ++ t) := fun _ hr hx => by
  rw [List.append_assoc]
  rw [Crs.app_l] at hx
  exact h _ (.cons ht hs hx.2 hr) (Crs.app_r.2 ⟨hc, hx.1⟩)
theorem Ck.small {m : Nat} {l : List El} (h : Ck m l) (hl : l.length ≤ m) : Srt l := by
  cases h with
  | last _ hs => exact hs
  | @cons t l ht hs _ _ =>
    rw [List.length_append] at hl
    have : l = [] := List.eq_nil_of_length_eq_zero (by omega)
    rw [this, List.append_nil]
    exact hs
theorem Ck.cut {m : Nat} {r : List El} (h : Ck m r) (hl : m < r.length) : ∃ t l, r = t ++ l ∧ t.length = m ∧ Srt t ∧ Crs t l ∧ Ck m l := by
  cases h with
  | last h1 _ => omega
  | @cons t l ht hs hc hk => exact ⟨t, l, rfl, ht, hs, hc, hk⟩
theorem Ck.two {m : Nat} {r : List El} (h : Ck m r) (hm : 0 < m) (hl : m + m ≤ r.length) : ∃ t1 t2 l, r = t1 ++ (t2 ++ l) ∧ t1.length = m ∧ t2.length = m ∧ Srt t1 ∧ Srt t2 ∧ Crs t1 (t2 ++ l) ∧ Crs t2 l ∧ Ck m l := by
  obtain ⟨t1, r2, rfl, h1, h2, h3, h4⟩ := h.cut (by omega)
  rw [List.length_append] at hl
  cases h4 with
  | last h5 h6 => exact ⟨t1, r2, [], by simp, h1, by omega, h2, h6, by simpa using h3, by simp [Crs], .last (by simp) List.Pairwise.nil⟩
  | @cons t2 l h5 h6 h7 h8 => exact ⟨t1, t2, l, rfl, h1, h5, h2, h6, h3, h7, h8⟩
theorem Ups.crs {a b : List El} (h : Ups (a ++ b)) : Ups a ∧ Ups b ∧ Crs a b := List.pairwise_append.1 h
/-- The first loop: pieces of 20. -/
structure St1 (w0 : World) (b n : Nat) (D p r : List El) (wr : World) : Prop where
  sb : SB w0 b n (p ++ r) wr
  fk : Fk 20 p
  ups : Ups r
  crs : Crs p r
  perm : (p ++ r).Perm D
/-- The other loops. -/
structure St2 (w0 : World) (b n m : Nat) (D p r : List El) (wr : World) : Prop where
  sb : SB w0 b n (p ++ r) wr
  fk : Fk (m + m) p
  ck : Ck m r
  crs : Crs p r
  perm : (p ++ r).Perm D
structure St3 (w0 : World) (b n m : Nat) (D l : List El) (wr : World) : Prop where
  sb : SB w0 b n l wr
  ck : Ck m l
  perm : l.Perm D
theorem St1.step {w0 wr w' : World} {b n : Nat} {D p u r t : List El} (h : St1 w0 b n D p (u ++ r) wr) (hu : u.length = 20) (ht : t.Perm u) (hs : Srt t) (hb : SB w0 b n (p ++ (t ++ r)) w') : St1 w0 b n D (p ++ t) r w' := by
  obtain ⟨g1, g2, g3⟩ := h.ups.crs
  have h4 := Crs.app_r.1 h.crs
  refine ⟨by rw [List.append_assoc]; exact hb, h.fk.snoc (by rw [ht.length_eq, hu]) hs (h4.1.perm (fun _ hx => hx) fun _ hx => ht.mem_iff.1 hx), g2, Crs.app_l.2 ⟨h4.2, g3.perm (fun _ hx => ht.mem_iff.1 hx) fun _ hx => hx⟩, ?_⟩
  rw [List.append_assoc]
  exact (List.Perm.append_left _ (List.Perm.append_right _ ht)).trans h.perm
theorem St1.done {w0 wr w' : World} {b n : Nat} {D p r t : List El} (h : St1 w0 b n D p r wr) (hr : r.length ≤ 20) (ht : t.Perm r) (hs : Srt t) (hb : SB w0 b n (p ++ t) w') : St3 w0 b n 20 D (p ++ t) w' :=
  ⟨hb, h.fk _ (.last (by rw [ht.length_eq]; exact hr) hs) (h.crs.perm (fun _ hx => hx) fun _ hx => ht.mem_iff.1 hx), (List.Perm.append_left _ ht).trans h.perm⟩
theorem St2.start {w0 wr : World} {b n m : Nat} {D l : List El} (h : St3 w0 b n m D l wr) : St2 w0 b n m D [] l wr := ⟨h.sb, Fk.nil _, h.ck, by simp [Crs], h.perm⟩
theorem St2.step {w0 wr w' : World} {b n m : Nat} {D p t1 t2 r t : List El} (h : St2 w0 b n m D p (t1 ++ (t2 ++ r)) wr) (h1 : t1.length = m) (h2 : t2.length = m) (hc : Ck m r) (hx : Crs t1 (t2 ++ r)) (hy : Crs t2 r) (ht : t.Perm (t1 ++ t2)) (hs : Srt t) (hb : SB w0 b n (p ++ (t ++ r)) w') : St2 w0 b n m D (p ++ t) r w' := by
  have h4 := Crs.app_r.1 h.crs
  have h5 := Crs.app_r.1 h4.2
  have h6 := Crs.app_r.1 hx
  refine ⟨by rw [List.append_assoc]; exact hb, h.fk.snoc (by rw [ht.length_eq, List.length_append, h1, h2]) hs ?_, hc, Crs.app_l.2 ⟨h5.2, ?_⟩, ?_⟩
  · exact (Crs.app_r.2 ⟨h4.1, h5.1⟩).perm (fun _ hx => hx) fun _ hx => ht.mem_iff.1 hx
  · exact (Crs.app_l.2 ⟨h6.2, hy⟩).perm (fun _ hx => ht.mem_iff.1 hx) fun _ hx => hx
  · rw [List.append_assoc]
    have := List.Perm.append_right r ht
    rw [List.append_assoc t1] at this
    exact (List.Perm.append_left p this).trans h.perm
theorem St2.last {w0 wr w' : World} {b n m : Nat} {D p r t : List El} (h : St2 w0 b n m D p r wr) (hl : r.length ≤ m + m) (ht : t.Perm r) (hs : Srt t) (hb : SB w0 b n (p ++ t) w') : St3 w0 b n (m + m) D (p ++ t) w' :=
  ⟨hb, h.fk _ (.last (by rw [ht.length_eq]; exact hl) hs) (h.crs.perm (fun _ hx => hx) fun _ hx => ht.mem_iff.1 hx), (List.Perm.append_left _ ht).trans h.perm⟩
end Go.Proofs.Ytbhgbgaeaejnhaa.Typ
/- The library's stable sort: its loops. Conditions: sizes. -/
namespace Go.Proofs.Ytbhgbgaeaejnhaa.Typ
open Go.RowKit Tre Go.Sort Go.Shelf
set_option maxRecDepth 100000
set_option linter.unusedSimpArgs false
set_option maxHeartbeats 16000000 in
theorem stable_any {w0 W : World} {b n c : Nat} {D : List El} (h : SB w0 b n D W) (hu : Ups D) (hn : n ≤ 1000000) :
    Calls Try.prog 50 #[.slice (some ⟨b, 0, none⟩) n c, .int .i64 n, .func (.func 33) #[] #[]] W (fun e w' => e = .returned (.tuple #[]) ∧ ∃ t, t.Perm D ∧ Srt t ∧ SB w0 b n t w') := by
  have mixed := mixedT
  have HS := Lib.hid (fun L => sym_any (w0 := w0) (b := b) (c := c) hn L)
  have H0 : Hid (St1 w0 b n D [] D W) := Lib.hid ⟨h, Fk.nil _, hu, by simp [Crs], List.Perm.refl _⟩
  clear h hu
  go_enter Try.func50, Try.ntmps50
  go_wp2_with fail
  go_loopw [7, 8] (fun va vb wr => ∃ a e p r, va = .int .i64 (a : Nat) ∧ vb = .int .i64 (e : Nat) ∧ Hid (a = p.length ∧ e = a + 20 ∧ a + r.length = n) ∧ e ≤ n + 20 ∧ Hid (St1 w0 b n D p r wr)) (fun _ vb _ => n + 21 - (intOf vb).toNat)
  case atStart => exact ⟨0, 20, [], D, rfl, rfl, Lib.hid ⟨rfl, rfl, by have := H0.out.sb.len; simpa using this⟩, by omega, H0⟩
  case round =>
    obtain ⟨a, e, p, r, rfl, rfl, HA, hen, H⟩ := hrel
    clear H0
    by_cases hlt : e ≤ n
    · have C1 : Hid (Calls Try.prog 55 #[.slice (some ⟨b, 0, none⟩) n c, .int .i64 a, .int .i64 e, .func (.func 33) #[] #[]] wr (fun e' w' => e' = .returned (.tuple #[]) ∧ ∃ p2 r2, Hid (e = p2.length ∧ e + r2.length = n) ∧ St1 w0 b n D p2 r2 w')) := Lib.hid (by
        obtain ⟨h1, h2, h3⟩ := HA.out
        have er : r.take 20 ++ r.drop 20 = r := List.take_append_drop _ _
        have hl : (r.take 20).length = 20 := by rw [List.length_take]; omega
        have hd : (r.drop 20).length = r.length - 20 := List.length_drop
        generalize r.take 20 = u at *
        generalize r.drop 20 = r2 at *
        subst er
        refine (ins_any (c := c) (a := a) (e := e) (p := p) (u := u) (s := r2) H.out.sb H.out.ups.crs.1 h1 (by omega) hn).mono ?_
        rintro e2 w2 ⟨rfl, t, ht, hs, hb⟩
        exact ⟨rfl, p ++ t, r2, Lib.hid ⟨by rw [List.length_append, ht.length_eq]; omega, by omega⟩, H.out.step hl ht hs hb⟩)
      clear H HA
      go_wp2_with fail
      refine C1.out.mono ?_
      rintro e2 w2 ⟨rfl, p2, r2, HA, H⟩
      have H := Lib.hid H
      clear C1
      go_wp2_with fail
      go_roundw
      case rel => exact ⟨e, e + 20, p2, r2, rfl, by go_num, Lib.hid ⟨HA.out.1, rfl, HA.out.2⟩, by omega, H⟩
      case measure => simp [intOf]; omega
    · have C1 : Hid (Calls Try.prog 55 #[.slice (some ⟨b, 0, none⟩) n c, .int .i64 a, .int .i64 n, .func (.func 33) #[] #[]] wr (fun e' w' => e' = .returned (.tuple #[]) ∧ ∃ l, St3 w0 b n 20 D l w')) := Lib.hid (by
        obtain ⟨h1, h2, h3⟩ := HA.out
        refine (ins_any (c := c) (a := a) (e := n) (p := p) (u := r) (s := []) (by simpa using H.out.sb) H.out.ups h1 (by omega) hn).mono ?_
        rintro e2 w2 ⟨rfl, t, ht, hs, hb⟩
        exact ⟨rfl, p ++ t, H.out.done (by omega) ht hs (by simpa using hb)⟩)
      clear H HA
      go_wp2_with fail
      refine C1.out.mono ?_
      rintro e2 w2 ⟨rfl, l0, H⟩
      have H0 := Lib.hid H
      clear C1 H
      go_wp2_with fail
      go_loopw [6] (fun vm wr => ∃ m l, vm = .int .i64 (m : Nat) ∧ 0 < m ∧ m ≤ n + n + 20 ∧ Hid (St3 w0 b n m D l wr)) (fun vm _ => n - (intOf vm).toNat)
      case atStart => exact ⟨20, l0, rfl, by omega, by omega, H0⟩
      case round =>
        obtain ⟨m, l, rfl, hm0, hm1, H⟩ := hrel
        clear H0
        by_cases hlm : m < n
        · have H1 : Hid (St2 w0 b n m D [] l wr) := Lib.hid (St2.start H.out)
          have HL : Hid (l.length = n) := Lib.hid H.out.sb.len
          clear H
          go_wp2_with fail
          go_loopw [7, 8] (fun va vb wr => ∃ a e p r, va = .int .i64 (a : Nat) ∧ vb = .int .i64 (e : Nat) ∧ Hid (a = p.length ∧ e = a + (m + m) ∧ a + r.length = n) ∧ a ≤ n ∧ e ≤ n + (m + m) ∧ Hid (St2 w0 b n m D p r wr)) (fun _ vb _ => n + (m + m) + 1 - (intOf vb).toNat)
          case atStart => exact ⟨0, m + m, [], l, rfl, by (first | go_num | (congr 1; omega)), Lib.hid ⟨rfl, by omega, by have := HL.out; omega⟩, by omega, by omega, H1⟩
          case round =>
            obtain ⟨a, e, p, r, rfl, rfl, HA, han, hen, H⟩ := hrel
            clear H1 HL
            obtain ⟨f, hf⟩ : ∃ f, a + m = f := ⟨_, rfl⟩
            have hfi : (a : Int) + (m : Int) = (f : Int) := by omega
            have hfn : f ≤ n + (n + n + 20) := by omega
            have HF := Lib.hid hf
            clear hf
            by_cases hle : e ≤ n
            · have C1 : Hid (Calls Try.prog 56 #[.slice (some ⟨b, 0, none⟩) n c, .int .i64 a, .int .i64 f, .int .i64 e, .func (.func 33) #[] #[]] wr (fun e' w' => e' = .returned (.tuple #[]) ∧ ∃ p2 r2, Hid (e = p2.length ∧ e + r2.length = n) ∧ St2 w0 b n m D p2 r2 w')) := Lib.hid (by
                obtain ⟨h1, h2, h3⟩ := HA.out
                have h4 := HF.out
                obtain ⟨t1, t2, r2, rfl, g1, g2, g3, g4, g5, g6, g7⟩ := H.out.ck.two hm0 (by omega)
                have hl : (t1 ++ (t2 ++ r2)).length = m + m + r2.length := by rw [List.length_append, List.length_append, g1, g2]; omega
                refine (HS.out (t1.length + t2.length) wr p t1 t2 r2 a f e (Nat.le_refl _) (by omega) (by omega) H.out.sb g3 g4 (Crs.app_r.1 g5).1 h1 (by omega) (by omega)).mono ?_
                rintro e2 w2 ⟨rfl, t, ht, hs, hb⟩
                exact ⟨rfl, p ++ t, r2, Lib.hid ⟨by rw [List.length_append, ht.length_eq, List.length_append]; omega, by omega⟩, H.out.step g1 g2 g7 g5 g6 ht hs hb⟩)
              clear H HA HF
              go_wp2_with fail
              refine C1.out.mono ?_
              rintro e2 w2 ⟨rfl, p2, r2, HA, H⟩
              have H := Lib.hid H
              clear C1
              go_wp2_with fail
              go_roundw
              case rel => exact ⟨e, e + (m + m), p2, r2, rfl, by (first | go_num | (congr 1; omega)), Lib.hid ⟨HA.out.1, rfl, HA.out.2⟩, by omega, by omega, H⟩
              case measure => simp [intOf]; omega
            · by_cases hfl : f < n
              · have C1 : Hid (Calls Try.prog 56 #[.slice (some ⟨b, 0, none⟩) n c, .int .i64 a, .int .i64 f, .int .i64 n, .func (.func 33) #[] #[]] wr (fun e' w' => e' = .returned (.tuple #[]) ∧ ∃ l, St3 w0 b n (m + m) D l w')) := Lib.hid (by
                  obtain ⟨h1, h2, h3⟩ := HA.out
                  have h4 := HF.out
                  obtain ⟨t1, t2, rfl, g1, g2, g3, g4⟩ := H.out.ck.cut (by omega)
                  have hl : (t1 ++ t2).length = m + t2.length := by rw [List.length_append, g1]
                  refine (HS.out (t1.length + t2.length) wr p t1 t2 [] a f n (Nat.le_refl _) (by omega) (by omega) (by simpa using H.out.sb) g2 (g4.small (by omega)) g3 h1 (by omega) (by omega)).mono ?_
                  rintro e2 w2 ⟨rfl, t, ht, hs, hb⟩
                  exact ⟨rfl, p ++ t, H.out.last (by omega) ht hs (by simpa using hb)⟩)
                clear H HA HF
                go_wp2_with fail
                refine C1.out.mono ?_
                rintro e2 w2 ⟨rfl, l2, H⟩
                have H := Lib.hid H
                clear C1
                go_wp2_with fail
                go_roundw
                case rel => exact ⟨m + m, l2, by (first | go_num | (congr 1; omega)), by omega, by omega, H⟩
                case measure => simp [intOf]; omega
              · have H2 : Hid (St3 w0 b n (m + m) D (p ++ r) wr) := Lib.hid (by
                  obtain ⟨h1, h2, h3⟩ := HA.out
                  have h4 := HF.out
                  exact H.out.last (by omega) (List.Perm.refl _) (H.out.ck.small (by omega)) H.out.sb)
                clear H HA HF
                go_wp2_with fail
                go_roundw
                case rel => exact ⟨m + m, _, by (first | go_num | (congr 1; omega)), by omega, by omega, H2⟩
                case measure => simp [intOf]; omega
        · go_wp2_with fail
          go_end0
          exact ⟨rfl, l, H.out.perm, H.out.ck.small (by have := H.out.sb.len; omega), H.out.sb⟩
theorem sort_any {w0 W : World} {b n c : Nat} {D : List El} (h : SB w0 b n D W) (hu : Ups D) (hn : n ≤ 1000000) :
    Calls Try.prog 32 #[.slice (some ⟨b, 0, none⟩) n c, .func (.func 33) #[] #[]] W (fun e w' => e = .returned (.tuple #[]) ∧ ∃ t, t.Perm D ∧ Srt t ∧ SB w0 b n t w') := by
  have C1 := Lib.hid (stable_any (c := c) h hu hn)
  clear h hu
  go_enter Try.func32, Try.ntmps32
  go_wp2_with fail
  refine C1.out.mono ?_
  rintro e2 w2 ⟨rfl, HA⟩
  have HA := Lib.hid HA
  go_wp2_with fail
  go_end0
  exact ⟨rfl, HA.out⟩
set_option maxHeartbeats 4000000 in
theorem ins_nil (c : Nat) (W : World) :
    Calls Try.prog 55 #[.slice none 0 c, .int .i64 0, .int .i64 0, .func (.func 33) #[] #[]] W (fun e w' => e = .returned (.tuple #[]) ∧ w' = W) := by
  go_enter Try.func55, Try.ntmps55
  go_wp2_with fail
  go_loopw [8] (fun vi wr => vi = .int .i64 1 ∧ wr = W) (fun _ _ => 0)
  case atStart => exact ⟨rfl, rfl⟩
  case round =>
    obtain ⟨rfl, rfl⟩ := hrel
    go_wp2_with fail
    go_end0
    exact ⟨rfl, rfl⟩
set_option maxHeartbeats 4000000 in
theorem stable_nil (c : Nat) (W : World) :
    Calls Try.prog 50 #[.slice none 0 c, .int .i64 0, .func (.func 33) #[] #[]] W (fun e w' => e = .returned (.tuple #[]) ∧ w' = W) := by
  go_enter Try.func50, Try.ntmps50
  go_wp2_with fail
  go_loopw [7, 8] (fun va vb wr => va = .int .i64 0 ∧ vb = .int .i64 20 ∧ wr = W) (fun _ _ _ => 0)
  case atStart => exact ⟨rfl, rfl, rfl⟩
  case round =>
    obtain ⟨rfl, rfl, rfl⟩ := hrel
    go_wp2_with fail
    refine (ins_nil c wr).mono ?_
    rintro e2 w2 ⟨rfl, rfl⟩
    go_wp2_with fail
    go_loopw [6] (fun vm wr => vm = .int .i64 20 ∧ wr = w2) (fun _ _ => 0)
    case atStart => exact ⟨rfl, rfl⟩
    case round =>
      obtain ⟨rfl, rfl⟩ := hrel
      go_wp2_with fail
      go_end0
      exact ⟨rfl, rfl⟩
theorem sort_nil (c : Nat) (W : World) :
    Calls Try.prog 32 #[.slice none 0 c, .func (.func 33) #[] #[]] W (fun e w' => e = .returned (.tuple #[]) ∧ w' = W) := by
  go_enter Try.func32, Try.ntmps32
  go_wp2_with fail
  refine (stable_nil c W).mono ?_
  rintro e2 w2 ⟨rfl, rfl⟩
  go_wp2_with fail
  go_end0
  exact ⟨rfl, rfl⟩
end Go.Proofs.Ytbhgbgaeaejnhaa.Typ
