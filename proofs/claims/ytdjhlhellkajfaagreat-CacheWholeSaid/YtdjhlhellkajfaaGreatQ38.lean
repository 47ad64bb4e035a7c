/-
  Texts KWm, KWl, in one file. What each proves, and its conditions, stand at its head below.
-/
import Derived.Test.YtdjhlhellkajfaaGreatQ35
import Derived.Test.YtdjhlhellkajfaaGreatQ36
import Derived.Test.YtdjhlhellkajfaaGreatQ37
import Derived.StringKeys
import Derived.Deep.DeepCutAuto
/-
  The law's Light; its map of what must be there; plain mathematics of a cache on a journal. Conditions: the acts lie where they came in; the map is known whole.
-/
namespace Go.Proofs.YtdjhlhellkajfaaGreat.Cch
open Go.RowKit Codec Cod
open Disk (Turn Dk Dsk ptr)
open JourM (Jr appE appD appJ takes takes1 room extD extD_n)
set_option maxRecDepth 100000
theorem Acts.fn {w : World} {base n : Nat} {A : Option Addr} (h : Acts w base A n) : ∃ (X : Nat → ActR) (bb oo : Nat → Nat), ∀ k, k < n → ActAt w base A n k (X k) (bb k) (oo k) := by
  classical
  refine ⟨fun k => if hk : k < n then (h k hk).choose else ⟨0, 0, ⟨baOf [], baOf []⟩, none, 0, 0, []⟩, fun k => if hk : k < n then (h k hk).choose_spec.choose else 0, fun k => if hk : k < n then (h k hk).choose_spec.choose_spec.choose else 0, fun k hk => ?_⟩
  simp only [dif_pos hk]
  exact (h k hk).choose_spec.choose_spec.choose_spec
def LightR (w : World) (n : Nat) (X : Nat → ActR) (e : Ending) (w' : World) : Prop := w' = w ∧ ∃ L, e = .returned (.bool L) ∧ (L = true → n ≤ 50 ∧ ∀ k, k < n → (X k).e.k.size ≤ 500 ∧ (X k).e.v.size ≤ 1000)
set_option maxHeartbeats 4000000 in
theorem light_any (w : World) (base n c : Nat) (A : Option Addr) (X : Nat → ActR) (bb oo : Nat → Nat) (h : ∀ k, k < n → ActAt w base A n k (X k) (bb k) (oo k)) (hn : n ≤ maxLen) :
    Calls Tryz.prog 37 #[.slice A n c] w (LightR w n X) := by
  have HX := Lib.hid h
  have HN := Lib.hid hn
  clear h hn
  have hn64 : (n : Int) ≤ 9223372036854775 * 1024 := by have := HN.out; unfold maxLen at this; omega
  have HN64 := Lib.hid hn64
  clear hn64
  go_enter Tryz.func37, Tryz.ntmps37
  go_wp2_with fail
  go_loopw [3] (fun i wr => wr = w ∧ ∃ k : Nat, k ≤ n ∧ k ≤ 100 ∧ i = .int .i64 k ∧ ∀ q, q < k → (X q).e.k.size ≤ 500 ∧ (X q).e.v.size ≤ 1000) (fun i _ => n - (Go.RowKit.intOf i).toNat)
  case atStart => exact ⟨rfl, 0, by omega, by omega, rfl, fun q hq => absurd hq (by omega)⟩
  case round =>
    obtain ⟨rfl, k, hk, hk1, rfl, hq⟩ := hrel
    have HQ := Lib.hid hq
    clear hq
    have hk1i : (k : Int) ≤ 100 := by omega
    by_cases hlt : k < n
    · by_cases hlh : k < 100
      · obtain ⟨hidx0, hin⟩ := HX.out k hlt
        have hidx := fun w' => hidx0 c w'
        have c2 := hin.c2
        have c3 := hin.c3
        have c4 := hin.c4
        obtain ⟨y, hy⟩ : ∃ y, X k = y := ⟨_, rfl⟩
        rw [hy] at c2 c3 c4
        have HY := Lib.hid hy
        clear hy hidx0 hin
        by_cases b1 : (500 : Int) < y.e.k.size
        · go_wp2_with fail
          go_ret
          exact ⟨rfl, false, rfl, fun h => by cases h⟩
        · by_cases b2 : (1000 : Int) < y.e.v.size
          · have b1' : (y.e.k.size : Int) ≤ 500 := by omega
            go_wp2_with fail
            go_ret
            exact ⟨rfl, false, rfl, fun h => by cases h⟩
          · by_cases b3 : (100 : Int) < y.nf
            · have b1' : (y.e.k.size : Int) ≤ 500 := by omega
              have b2' : (y.e.v.size : Int) ≤ 1000 := by omega
              go_wp2_with fail
              go_ret
              exact ⟨rfl, false, rfl, fun h => by cases h⟩
            · have b1' : (y.e.k.size : Int) ≤ 500 := by omega
              have b2' : (y.e.v.size : Int) ≤ 1000 := by omega
              have b3' : (y.nf : Int) ≤ 100 := by omega
              have HS : Hid (y.e.k.size ≤ 500 ∧ y.e.v.size ≤ 1000) := Lib.hid (by omega)
              go_wp2_with fail
              go_roundw
              case rel => exact ⟨trivial, k + 1, by omega, by omega, by go_num, fun q hq => by
                by_cases e : q = k
                · subst e
                  rw [HY.out]
                  exact HS.out
                · exact HQ.out q (by omega)⟩
              case measure => simp [Go.RowKit.intOf]; omega
      · obtain rfl : k = 100 := by omega
        have h50 : ¬ (n : Int) ≤ 50 := by omega
        go_wp2_with fail
        go_ret
        exact ⟨rfl, false, by simp, fun h => by cases h⟩
    · obtain rfl : k = n := by omega
      by_cases h50 : (k : Int) ≤ 50
      · go_wp2_with fail
        go_ret
        exact ⟨rfl, true, by simp, fun _ => ⟨by omega, HQ.out⟩⟩
      · go_wp2_with fail
        go_ret
        exact ⟨rfl, false, by simp, fun h => by cases h⟩
/-- The entry with a key. -/
def fnd (L : List Ent) (key : ByteArray) : Option Ent := L.find? fun x => decide (x.k = key)
theorem fnd_ents (N : List Nmb) (key : ByteArray) : fnd (ents N) key = (findN N key).map Nmb.e := by
  unfold fnd ents findN
  rw [List.find?_map]
  rfl
theorem fndB_of (N : List Nmb) (key : ByteArray) : fndB N key = (fnd (ents N) key).isSome := by
  rw [fnd_ents]
  unfold fndB
  cases findN N key <;> rfl
theorem fndE_of {N : List Nmb} {key : ByteArray} {e : Ent} (h : fnd (ents N) key = some e) : fndE N key = e := by
  rw [fnd_ents] at h
  unfold fndE
  cases hf : findN N key with
  | none => rw [hf] at h; cases h
  | some x => rw [hf] at h; injection h
theorem fndE_key {N : List Nmb} {key : ByteArray} (h : fndB N key = true) : (fndE N key).k = key := by
  unfold fndB at h
  unfold fndE
  cases hf : findN N key with
  | none => rw [hf] at h; cases h
  | some x =>
    unfold findN at hf
    simpa using List.find?_some hf
theorem fnd_with (L : List Ent) (e : Ent) (key : ByteArray) : fnd (withE L e) key = if key = e.k then some e else fnd L key := by
  unfold withE fnd
  rw [List.find?_append, List.find?_filter]
  by_cases h : key = e.k
  · subst h
    rw [if_pos rfl]
    have : (L.find? fun a => decide (decide (a.k ≠ e.k) = true ∧ decide (a.k = e.k) = true)) = none := by
      rw [List.find?_eq_none]
      intro x _
      by_cases hx : x.k = e.k <;> simp [hx]
    rw [this]
    simp
  · rw [if_neg h]
    have e1 : (L.find? fun a => decide (decide (a.k ≠ e.k) = true ∧ decide (a.k = key) = true)) = L.find? fun a => decide (a.k = key) := by
      congr 1
      funext x
      by_cases hx : x.k = key
      · have : x.k ≠ e.k := fun e2 => h (by rw [← hx, e2])
        simp [hx, h]
      · simp [hx]
    rw [e1]
    have : ([e].find? fun x => decide (x.k = key)) = none := by simp [Ne.symm h]
    rw [this]
    cases L.find? fun a => decide (a.k = key) <;> rfl
theorem fnd_mem {L : List Ent} {key : ByteArray} {e : Ent} (h : fnd L key = some e) : e ∈ L ∧ e.k = key := ⟨List.mem_of_find?_eq_some h, by simpa using List.find?_some h⟩
theorem fnd_of_mem {L : List Ent} (hp : L.Pairwise fun a b => a.k ≠ b.k) {e : Ent} (he : e ∈ L) : fnd L e.k = some e := by
  induction L with
  | nil => cases he
  | cons x l ih =>
    obtain ⟨h1, h2⟩ := List.pairwise_cons.1 hp
    unfold fnd
    rw [List.find?_cons]
    rcases List.mem_cons.1 he with rfl | hm
    · simp
    · have : x.k ≠ e.k := h1 e hm
      simp only [this, decide_false]
      exact ih h2 hm
theorem with_len {L : List Ent} (hp : L.Pairwise fun a b => a.k ≠ b.k) (e : Ent) : (withE L e).length = if (fnd L e.k).isSome then L.length else L.length + 1 := by
  unfold withE
  rw [List.length_append]
  induction L with
  | nil => rfl
  | cons x l ih =>
    obtain ⟨h1, h2⟩ := List.pairwise_cons.1 hp
    have ih := ih h2
    by_cases hx : x.k = e.k
    · have hf : (l.filter fun y => decide (y.k ≠ e.k)) = l := by
        rw [List.filter_eq_self]
        intro y hy
        have := h1 y hy
        rw [hx] at this
        simpa using Ne.symm this
      have hs : (fnd (x :: l) e.k).isSome = true := by simp [fnd, hx]
      rw [if_pos hs, List.filter_cons, if_neg (by simp [hx]), hf]
      simp
    · have hs : fnd (x :: l) e.k = fnd l e.k := by simp [fnd, hx]
      rw [hs, List.filter_cons, if_pos (by simp [hx])]
      simp only [List.length_cons, List.length_nil] at ih ⊢
      generalize (List.filter (fun y => decide (y.k ≠ e.k)) l).length = q at ih ⊢
      rcases Bool.eq_false_or_eq_true (fnd l e.k).isSome with h3 | h3
      · rw [if_pos h3] at ih ⊢
        omega
      · have h4 : ¬ (fnd l e.k).isSome = true := by rw [h3]; decide
        rw [if_neg h4] at ih ⊢
        omega
theorem nice_ents {N : List Nmb} {last : Nat} (h : Nice N last) : (ents N).Pairwise fun a b => a.k ≠ b.k := List.pairwise_map.2 h.keys
/-- What groups come to. -/
def foldE (gs : List (List UInt8)) : List Ent := (gs.map unE).foldl withE []
theorem foldE_snoc (gs : List (List UInt8)) (b : List UInt8) : foldE (gs ++ [b]) = withE (foldE gs) (unE b) := by
  unfold foldE
  rw [List.map_append, List.foldl_append]
  rfl
theorem ents_lays (es : List Ent) : ∀ k, k ≤ es.length → ents (laysF es k) = (es.take k).foldl withE []
  | 0, _ => by simp [laysF, ents]
  | k + 1, h => by
    have hk : k < es.length := by omega
    show ents (lay (laysF es k) k (es.getD k ⟨baOf [], baOf []⟩)) = _
    rw [ents_lay, ents_lays es k (by omega), List.take_succ_eq_append_getElem hk, List.foldl_append]
    simp [List.getD_eq_getElem?_getD, hk]
theorem ents_opened (gs : List (List UInt8)) : ents (laysF (gs.map unE) gs.length) = foldE gs := by
  rw [ents_lays _ _ (by simp)]
  have : (gs.map unE).take gs.length = gs.map unE := by
    have h := List.take_length (l := gs.map unE)
    rwa [List.length_map] at h
  rw [this]
  rfl
theorem with_le (L : List Ent) (e : Ent) : (withE L e).length ≤ L.length + 1 := by
  unfold withE
  have := List.length_filter_le (fun x : Ent => decide (x.k ≠ e.k)) L
  rw [List.length_append]
  simp only [List.length_cons, List.length_nil]
  omega
/-- A journal's groups are entries, and few. -/
structure St (K : Nat) (gs : List (List UInt8)) (L : List Ent) : Prop where
  few : takes gs ≤ 25 * K
  un : ∀ x ∈ gs, unB x = true
  is : foldE gs = L
  short : ∀ e ∈ L, e.k.size ≤ 500 ∧ e.v.size ≤ 1000
theorem St.mono {K K' : Nat} {gs : List (List UInt8)} {L : List Ent} (h : St K gs L) (hk : K ≤ K') : St K' gs L := ⟨by have := h.few; omega, h.un, h.is, h.short⟩
theorem takes_pack {e : Ent} (h : e.k.size ≤ 500 ∧ e.v.size ≤ 1000) : takes1 (packE e) ≤ 25 := by
  unfold takes1 FrameM.need
  rw [packE_length]
  unfold sizeE
  omega
theorem takes_snoc (gs : List (List UInt8)) (b : List UInt8) : takes (gs ++ [b]) = takes gs + takes1 b := JourM.takes_snoc gs b
theorem St.snoc {K : Nat} {gs : List (List UInt8)} {L : List Ent} (h : St K gs L) {e : Ent} (he : e.k.size ≤ 500 ∧ e.v.size ≤ 1000) : St (K + 1) (gs ++ [packE e]) (withE L e) := by
  refine ⟨?_, fun x hx => ?_, ?_, fun x hx => ?_⟩
  · rw [takes_snoc]
    have := h.few
    have := takes_pack he
    omega
  · rcases List.mem_append.1 hx with hx | hx
    · exact h.un x hx
    · rw [List.mem_singleton.1 hx]
      exact unB_pack e (by omega)
  · rw [foldE_snoc, unE_pack e (by omega), h.is]
  · unfold withE at hx
    rcases List.mem_append.1 hx with hx | hx
    · exact h.short x (List.mem_filter.1 hx).1
    · rw [List.mem_singleton.1 hx]
      exact he
theorem St.nil : St 0 [] [] := ⟨by simp [takes], by simp, rfl, by simp⟩
theorem St.len {K : Nat} {gs : List (List UInt8)} {L : List Ent} (h : St K gs L) : gs.length ≤ 25 * K ∧ L.length ≤ 25 * K := by
  have h1 := JourM.takes_length gs
  have h2 := h.few
  refine ⟨by omega, ?_⟩
  have h3 : ∀ (es L0 : List Ent), (es.foldl withE L0).length ≤ L0.length + es.length := fun es => by
    induction es with
    | nil => intro L0; simp
    | cons e es ih =>
      intro L0
      have := ih (withE L0 e)
      have := with_le L0 e
      simp only [List.foldl_cons, List.length_cons]
      omega
  have h4 := h3 (gs.map unE) []
  have h5 : (gs.map unE).foldl withE [] = L := h.is
  rw [h5, List.length_map] at h4
  simp at h4
  omega
/-- What an Append leaves, of a journal at rest that has room. -/
theorem app_rest {d : Dsk} {jr : Jr} {b : List UInt8} (h : JourM.Rest d jr) (hr : takes jr.gs + takes1 b ≤ room d.n) (hb : b.length ≤ 1048576) :
    (appD d jr b).n = d.n ∧ ((appE d jr b = 0 ∧ JourM.Rest (appD d jr b) (appJ d jr b) ∧ appJ d jr b = ⟨jr.gen, jr.gs ++ [b], false⟩) ∨
    (appE d jr b = 3 ∧ (appJ d jr b).down = true ∧ ∀ fs, JourM.Rest ((appD d jr b).crash fs) ⟨jr.gen, jr.gs, false⟩ ∨ JourM.Rest ((appD d jr b).crash fs) ⟨jr.gen, jr.gs ++ [b], false⟩)) := by
  have hup := h.up
  rcases Jou.app_parts d jr b with ⟨hd, _⟩ | ⟨_, hl, _⟩ | ⟨_, _, hf, _⟩ | ⟨_, _, _, hx, hz, hD, hJ⟩ | ⟨_, _, _, hx, hz, hD, hJ⟩
  · rw [hup] at hd
    cases hd
  · omega
  · omega
  · have hok := (JourM.ext_ok (gen := jr.gen) (seq := jr.gs.length) h.ok h.n8 hr).2
    have hnn := extD_n d jr.gen (takes jr.gs) jr.gs.length b
    refine ⟨by rw [hD, hnn], .inr ⟨hz, by rw [hJ], fun fs => ?_⟩⟩
    rw [hD]
    have h8 : 8 ≤ (extD d jr.gen (takes jr.gs) jr.gs.length b).n := by rw [hnn]; exact h.n8
    rcases (JourM.app_torn h hb hr hx fs).2 with hg | hg
    · rw [← hnn] at hg
      exact .inl (JourM.rest_of_good hok h8 hg)
    · rw [← hnn] at hg
      exact .inr (JourM.rest_of_good hok h8 hg)
  · have hJ2 : appJ d jr b = ⟨jr.gen, jr.gs ++ [b], false⟩ := by rw [hJ, ← hup]
    refine ⟨by rw [hD, extD_n], .inl ⟨hz, ?_, hJ2⟩⟩
    rw [hD, hJ]
    exact JourM.app_done h hb hr hx
/-! ### The law's map -/
def kyS (s : ByteArray) : Lit := .string s.data.toList
theorem kyS_inj {i j : ByteArray} (h : kyS i = kyS j) : i = j := by
  have h1 : i.data.toList = j.data.toList := by
    unfold kyS at h
    injection h
  exact ByteArray.ext (Array.ext' h1)
theorem isKey_kyS (s : ByteArray) : WideAt.IsKeyLit (kyS s) := by first | exact trivial | simp [kyS, WideAt.IsKeyLit]
theorem keyed_s : Maps.Keyed Tryz.prog 9 := Maps.string_keyed Tryz.underlying9
theorem hkeyS {s : ByteArray} (h : s.size ≤ maxLen) : keyOf Tryz.prog 9 (.string s) = some (kyS s) := WideMaps.keyOf_string_mk Tryz.underlying9 h
theorem zero_str (w : World) : (zeroValue 9).run Tryz.prog w = .ok (.string ⟨#[]⟩) w := by kernel_rfl
/-- Block h is the map of these entries. -/
def HasM (w : World) (h : Nat) (L : List Ent) : Prop := ∃ D : DataW Value, w.ownsMap Tryz.prog 9 R0 h (Maps.size D) D ∧ Maps.size D = L.length ∧ ∀ s : ByteArray, Maps.has D (kyS s) = (fnd L s).isSome ∧ ∀ e, fnd L s = some e → ∀ z, D.atKey (kyS s) z = .held (.string e.v)
theorem ownsMap_fitS {w : World} {b nn : Nat} {D : DataW Value} (h : w.ownsMap Tryz.prog 9 R0 b nn D) : w.ownsMap Tryz.prog 9 R0 b (Maps.size D) D := by
  obtain ⟨es, c, h1, h2, h3, h4⟩ := h
  refine ⟨es, c, h1, h2, ?_, h4⟩
  rw [h4]
  simp [Maps.size, length_sorted]
theorem HasM.new (w : World) : HasM (w.alloc (.map #[] 0)) w.heap.size [] :=
  ⟨.map [], World.ownsMap_made w Tryz.prog 9 R0, rfl, fun s => ⟨by simp [Maps.has, fnd], fun e he => by simp [fnd] at he⟩⟩
theorem HasM.lt {w : World} {h : Nat} {L : List Ent} (H : HasM w h L) : h < w.heap.size := by
  obtain ⟨D, h1, _⟩ := H
  exact h1.lt
theorem HasM.at_ {w : World} {h : Nat} {L : List Ent} (H : HasM w h L) : ∃ es cl, w.heap[h]? = some (.map es cl) := by
  obtain ⟨D, ⟨es, cl, h1, _⟩, _⟩ := H
  exact ⟨es, cl, h1⟩
theorem HasM.keep {w w' : World} {h : Nat} {L : List Ent} (H : HasM w h L) (hb : w'.heap[h]? = w.heap[h]?) : HasM w' h L := by
  obtain ⟨D, ⟨es, c, e1, e2⟩, h2⟩ := H
  exact ⟨D, ⟨es, c, hb.trans e1, e2⟩, h2⟩
theorem HasM.look {w : World} {h : Nat} {L : List Ent} (H : HasM w h L) {key : ByteArray} (hk : key.size ≤ maxLen) {e : Ent} (he : fnd L key = some e) : ∀ w' : World, w'.heap[h]? = w.heap[h]? → (Instr.lookup 90 (.map (some h)) (.string key) true).run Tryz.prog w' = .ok (.tuple #[.string e.v, .bool true]) w' := fun w' hw => by
  obtain ⟨D, ⟨es, c, e1, e2⟩, _, h3⟩ := H
  obtain ⟨v, ps, hrun, hv⟩ := World.ownsMap.look_ok (w := w') (R := R0) (zd := .held (.string ⟨#[]⟩)) (zp := []) ⟨es, c, hw.trans e1, e2⟩ keyed_s Tryz.underlying90 (zero_str w') rfl (hkeyS hk)
  obtain ⟨h4, h5⟩ := h3 key
  rw [he] at h4
  rw [h5 e he] at hv
  unfold R0 at hv
  injection hv with hv
  injection hv with hv _
  injection hv with hv
  rw [h4, hv] at hrun
  exact hrun
theorem HasM.len {w : World} {h : Nat} {L : List Ent} (H : HasM w h L) (ty : TypeId) : (Builtin.len_ #[90] ty #[.map (some h)]).run Tryz.prog w = .ok (.int .i64 L.length) w := by
  obtain ⟨D, h1, h2, _⟩ := H
  rw [h1.len Tryz.underlying90 ty, h2]
theorem HasM.store {w : World} {h : Nat} {L : List Ent} (H : HasM w h L) (hp : L.Pairwise fun a b => a.k ≠ b.k) (hl : L.length ≤ 1000000) (e : Ent) (hk : e.k.size ≤ maxLen) :
    ∃ w2, (Instr.mapUpdate 90 (.map (some h)) (.string e.k) (.string e.v)).run Tryz.prog w = .ok () w2 ∧ HasM w2 h (withE L e) ∧ Turn [h] w w2 := by
  obtain ⟨D, h1, h2, h3⟩ := H
  obtain ⟨w2, hrun, hm, hturn⟩ := h1.store keyed_s Tryz.underlying90 (by unfold maxLen; omega) (hkeyS hk) (val := .string e.v) (d := .held (.string e.v)) (ps := []) rfl
  refine ⟨w2, hrun, ⟨_, ownsMap_fitS hm, ?_, fun s => ?_⟩, turned_turn hturn⟩
  · rw [Maps.size_put (h1.tidy keyed_s), (h3 e.k).1, h2, with_len hp e]
  · rw [fnd_with]
    by_cases hs : s = e.k
    · subst hs
      rw [if_pos rfl, Maps.has_put_same h1.isMap (isKey_kyS _)]
      exact ⟨rfl, fun e2 he z => by injection he with he; subst he; exact Maps.atKey_put_same h1.isMap (isKey_kyS _) _ z⟩
    · have hne : kyS s ≠ kyS e.k := fun e2 => hs (kyS_inj e2)
      rw [if_neg hs, Maps.has_put_other hne]
      exact ⟨(h3 s).1, fun e2 he z => by rw [Maps.atKey_put_other hne]; exact (h3 s).2 e2 he z⟩
end Go.Proofs.YtdjhlhellkajfaaGreat.Cch
/-
  What the law of CacheWhole needs of Put, Stop, Open. Conditions: the cache rests on its journal, and is small.
-/
namespace Go.Proofs.YtdjhlhellkajfaaGreat.Cch
open Go.RowKit Codec Cod
open Disk (Turn Dk Dsk ptr)
open JourM (Jr appE appD appJ takes takes1 room Still)
open Jou (Jn It low_turn)
set_option maxRecDepth 100000
def Fallen (d : Dsk) (K : Nat) (L : List Ent) (e : Ent) : Prop := ∀ fs, ∃ gs1, JourM.Rest (d.crash fs) ⟨1, gs1, false⟩ ∧ St (K + 1) gs1 (foldE gs1) ∧ (foldE gs1 = L ∨ foldE gs1 = withE L e)
/-- As many, and what is found is the same. -/
def Alike (L L' : List Ent) : Prop := L.length = L'.length ∧ ∀ s, fnd L s = fnd L' s
theorem HasM.ext {w : World} {h : Nat} {L L' : List Ent} (H : HasM w h L) (ha : Alike L L') : HasM w h L' := by
  obtain ⟨D, h1, h2, h3⟩ := H
  exact ⟨D, h1, h2.trans ha.1, fun s => by rw [← ha.2 s]; exact h3 s⟩
def PutL (w : World) (c lo b lj j g gs gm : Nat) (v : Value) (N : List Nmb) (K : Nat) (e : Ent) (x : Ending) (w' : World) : Prop :=
  ∃ (z : Int) (v' : Value) (d' : Dsk) (jr' : Jr) (N' : List Nmb) (last' : Nat), x = .returned (.int .i64 z) ∧ Ch w' c lo b lj j g gs gm d' jr' v' N' last' 0 ∧ FrC lo c b j g gs gm v w w' ∧ d'.n = 4000 ∧ last' ≤ 25 * (K + 1) ∧
    ((z = 0 ∧ ∃ gs1, jr' = ⟨1, gs1, false⟩ ∧ JourM.Rest d' ⟨1, gs1, false⟩ ∧ St (K + 1) gs1 (ents N') ∧ Alike (withE (ents N) e) (ents N')) ∨
     (z = 3 ∧ N' = N ∧ jr'.down = true ∧ Fallen d' K (ents N) e ∧ ∀ f, fnd (ents N) e.k = some f → f.v ≠ e.v))
theorem cput_law {w : World} {c lo b lj j g gs gm last K : Nat} {d : Dsk} {gs0 : List (List UInt8)} {v : Value} {N : List Nmb} (h : Ch w c lo b lj j g gs gm d ⟨1, gs0, false⟩ v N last 0) (hr : JourM.Rest d ⟨1, gs0, false⟩) (hn : d.n = 4000) (hst : St K gs0 (ents N)) (hK : K ≤ 50) (hl : last ≤ 25 * K)
    (e : Ent) (he : e.k.size ≤ 500 ∧ e.v.size ≤ 1000) : Calls Tryz.prog 41 #[ptr c, .string e.k, .string e.v] w (PutL w c lo b lj j g gs gm v N K e) := by
  have hNl : N.length ≤ 1250 := by have := hst.len.2; unfold ents at this; rw [List.length_map] at this; omega
  have hsz : sizeE e ≤ 1048576 := by unfold sizeE; omega
  have hpk : (packE e).length ≤ 1048576 := by rw [packE_length]; exact hsz
  have htp := takes_pack he
  have hpd := nice_ents h.sh.nice
  by_cases hsame : fndB N e.k = true ∧ fndE N e.k = e
  · have hf : fnd (ents N) e.k = some e := by
      have h1 := hsame.1
      rw [fndB_of] at h1
      obtain ⟨f, hf⟩ := Option.isSome_iff_exists.1 h1
      rw [hf, ← fndE_of hf, hsame.2]
    refine (cput_same h (by omega) e (by omega) hsz rfl hsame.1 hsame.2).mono ?_
    rintro x w' ⟨rfl, hb⟩
    refine ⟨0, v, d, _, N, last, rfl, h.below hb, FrC.of_below hb, hn, by omega, .inl ⟨rfl, gs0, rfl, hr, hst.mono (by omega), ?_, fun s => ?_⟩⟩
    · rw [with_len hpd, hf]
      rfl
    · rw [fnd_with]
      split
      · rename_i hs
        rw [hs, hf]
      · rfl
  · have hfne : fndB N e.k = true → (fndE N e.k).k = e.k ∧ (fndE N e.k).v ≠ e.v := fun hb => ⟨fndE_key hb, fun hv => hsame ⟨hb, by
      have := fndE_key hb
      cases hfe : fndE N e.k with
      | mk fk fv => rw [hfe] at this hv; cases e; simp only at *; rw [this, hv]⟩⟩
    have hroom : takes gs0 + takes1 (packE e) ≤ room d.n := by
      rw [hn]
      have : room 4000 = 1999 := rfl
      have := hst.few
      omega
    obtain ⟨hn', hc⟩ := app_rest (b := packE e) hr hroom hpk
    rcases hc with ⟨hz, hr', hj'⟩ | ⟨hz, hdn, hcr⟩
    · refine (cput_app h (by omega) (by omega) e (by omega) hsz rfl hfne 0 hz (by decide)).mono ?_
      rintro x w' ⟨rfl, v', hc', hf', _⟩
      rw [hj'] at hc' hr'
      refine ⟨0, v', _, _, _, _, rfl, hc', hf', by rw [hn', hn], by show last + 1 ≤ _; omega, .inl ⟨rfl, gs0 ++ [packE e], rfl, hr', ?_, ?_⟩⟩
      · show St (K + 1) (gs0 ++ [packE e]) (ents (lay N last e))
        rw [ents_lay]
        exact hst.snoc he
      · show Alike (withE (ents N) e) (ents (lay N last e))
        rw [ents_lay]
        exact ⟨rfl, fun _ => rfl⟩
    · refine (cput_app h (by omega) (by omega) e (by omega) hsz rfl hfne 3 hz (by decide)).mono ?_
      rintro x w' ⟨rfl, v', hc', hf', _⟩
      refine ⟨3, v', _, _, _, _, rfl, hc', hf', by rw [hn', hn], by show last ≤ _; omega, .inr ⟨rfl, rfl, hdn, fun fs => ?_, fun f hff hv => ?_⟩⟩
      · rcases hcr fs with h1 | h1
        · exact ⟨gs0, h1, by rw [hst.is]; exact hst.mono (by omega), .inl hst.is⟩
        · refine ⟨gs0 ++ [packE e], h1, ?_, .inr ?_⟩
          · have h2 := hst.snoc he
            rwa [h2.is]
          · exact (hst.snoc he).is
      · have hb : fndB N e.k = true := by rw [fndB_of, hff]; rfl
        exact (hfne hb).2 (by rw [fndE_of hff]; exact hv)
/-- What else is there stays. -/
theorem has_kept {w w' : World} {c lo b lj j g gs gm last hh : Nat} {d : Dsk} {jr : Jr} {v : Value} {N : List Nmb} {ev : Int} {L : List Ent} (h : Ch w c lo b lj j g gs gm d jr v N last ev) (H : HasM w hh L) (hf : FrC lo c b j g gs gm v w w') (hb : hh ≠ b) (hg : hh ∉ [g, gs, gm]) : HasM w' hh L := by
  obtain ⟨es, cl, hm⟩ := H.at_
  refine H.keep (hf.keep H.lt (fun e => ?_) hb (fun _ hr => ?_) (fun hmem => ?_))
  · rw [e, h.hd] at hm
    cases hm
  · obtain ⟨C, hC⟩ := hr
    rw [hm] at hC
    cases hC
  · unfold JOwn at hmem
    rcases List.mem_append.1 hmem with e | e
    · rcases List.mem_cons.1 e with e | e
      · rw [e, h.jn.hd] at hm
        cases hm
      · exact hg e
    · obtain ⟨_, cur, hc⟩ := h.own_type (by simpa using e)
      rw [hm] at hc
      cases hc
theorem ch_disked {w w' : World} {c lo b lj j g gs gm last : Nat} {d d' : Dsk} {jr : Jr} {v : Value} {N : List Nmb} {ev : Int} (h : Ch w c lo b lj j g gs gm d jr v N last ev) (hd : Dk w' g gs gm d') (ht : Turn [g, gs, gm] w w') (hn : d'.n = d.n) : Ch w' c lo b lj j g gs gm d' jr v N last ev :=
  h.journaled (ht.more fun k hk => by unfold JOwn; exact List.mem_append_left _ (List.mem_cons_of_mem _ hk)) (h.jn.disked hd ht hn)
theorem i64_and15 (n : Int) : bits .and .i64 n 15 = n % 16 := by
  have h3 : (BitVec.ofInt 64 15).toNat = 2 ^ 4 - 1 := by decide
  have key : (BitVec.ofInt 64 n &&& BitVec.ofInt 64 15).toNat = (n % ((2 ^ 64 : Nat) : Int)).toNat % 2 ^ 4 := by
    rw [BitVec.toNat_and, BitVec.toNat_ofInt, h3, Nat.and_two_pow_sub_one_eq_mod]
  show IntKind.i64.wrap ((BitVec.ofInt 64 n &&& BitVec.ofInt 64 15).toNat : Nat) = n % 16
  rw [key, IntKind.wrap_i64]
  omega
theorem and_low (x : Int) : 0 ≤ bits .and .i64 x 15 ∧ bits .and .i64 x 15 ≤ 15 := by
  rw [i64_and15]
  omega
theorem fresh4000 (w : World) (g gs gm : Nat) (h : Dk w g gs gm (Disk.fresh 4000)) : Calls Tryz.prog 38 #[ptr g] w (COpened w g gs gm (JourM.openD (Disk.fresh 4000)) ⟨1, [], false⟩) := by
  obtain ⟨h1, h2, _⟩ := JourM.fresh_open 4000 (by omega) (by omega)
  refine copen_any w g gs gm _ _ (Jou.Dk.lows h) ?_ (by simp)
  refine (Jou.open_new w g gs gm (Disk.fresh 4000) h (by show 8 ≤ 4000; omega) rfl (JourM.fresh_newest 4000 (by omega))).mono fun e w' hx => ?_
  rcases hx with ⟨_, hx⟩ | ⟨hx, _⟩
  · rw [h2] at hx
    exact hx
  · rw [h1] at hx
    cases hx
end Go.Proofs.YtdjhlhellkajfaaGreat.Cch
