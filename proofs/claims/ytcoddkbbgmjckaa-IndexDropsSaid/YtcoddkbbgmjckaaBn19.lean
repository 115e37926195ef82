/- The document's Del, by its contract. (Written by mkdel.py.) -/
import Derived.Test.YtcoddkbbgmjckaaBn13
import Derived.Test.YtcoddkbbgmjckaaBn16
import Derived.Test.YtcoddkbbgmjckaaBn18
import Derived.Test.YtcoddkbbgmjckaaBn12
import Derived.Test.YtcoddkbbgmjckaaBn05
namespace Go.Proofs.Ytcoddkbbgmjckaa
open Go.RowKit
set_option linter.unusedVariables false
set_option linter.unusedSimpArgs false
attribute [local go_sem] Oper.semAt_some

theorem rowS_at (ls : List ByteArray) (k : Nat) (hk : k < ls.length) : (rowS ls)[k * 1 + 0]? = some (.string ls[k]) := by
  unfold rowS
  rw [Nat.mul_one, Nat.add_zero, List.getElem?_map, List.getElem?_eq_getElem hk]
  rfl

theorem delAll_step {l : List Idx.KH} {k : ByteArray} {ks : List ByteArray} {r m : Int} (h : (His.delL (Idx.getL l k) r m).2 = 0) : Idx.delAll l (k :: ks) r m = Idx.delAll (Idx.setL l k (His.delL (Idx.getL l k) r m).1) ks r m := if_pos h
theorem delAll_no {l : List Idx.KH} {k : ByteArray} {ks : List ByteArray} {r m : Int} (h : ¬ (His.delL (Idx.getL l k) r m).2 = 0) : Idx.delAll l (k :: ks) r m = none := if_neg h

/-- What a Del leaves. -/
def DelP (w w' : World) (e : Ending) : Option (List Idx.KH × Nat) → Prop
  | none => e = .returned (.tuple #[.slice none 0 0, .int .i64 0, .bool false]) ∧ Below w.heap.size w w'
  | some o => ∃ R m d ys, e = .returned (.tuple #[.slice R m d, .int .i64 (o.2 : Int), .bool true]) ∧ IxL w' R m d ys ∧ khs ys = o.1 ∧ Below w.heap.size w w'

/-- What a Del leaves, and where. -/
def DelL (xs : List KLay) (w w' : World) (e : Ending) : Option (List Idx.KH × Nat) → Prop
  | none => e = .returned (.tuple #[.slice none 0 0, .int .i64 0, .bool false]) ∧ Below w.heap.size w w'
  | some o => ∃ R m d ys, e = .returned (.tuple #[.slice R m d, .int .i64 (o.2 : Int), .bool true]) ∧ (IxL w' R m d ys ∧ LocK w xs ys) ∧ khs ys = o.1 ∧ Below w.heap.size w w'

/-- An index on its way through a Del. -/
structure DelG (w : World) (R : Option Addr) (m d : Nat) (ys : List KLay) (k : Nat) : Prop where
  ix : IxL w R m d ys
  wf : Idx.Wf (khs ys)
  few : m ≤ 1000 + k
  len : ∀ x ∈ ys, x.h.length ≤ 100000 + k

theorem get_lenK {ys : List KLay} {k : Nat} (h : ∀ x ∈ ys, x.h.length ≤ 100000 + k) (key : ByteArray) : (Idx.getL (khs ys) key).length ≤ 100000 + k := by
  rcases Idx.get_cases (l := khs ys) key with ⟨p, hp, _, e⟩ | ⟨_, e⟩
  · rw [e]
    obtain ⟨x, hx, rfl⟩ := List.mem_map.1 hp
    exact h x hx
  · rw [e]; exact Nat.zero_le _

theorem DelG.next {w w' : World} {R R2 B : Option Addr} {m d m2 d2 k c : Nat} {ys : List KLay} {key : ByteArray} {r mo : Int} (h : DelG w R m d ys k) (hd : (His.delL (Idx.getL (khs ys) key) r mo).2 = 0) (hk : Idx.keyB key = true) (hI : IxL w' R2 m2 d2 (setK ys key (His.delL (Idx.getL (khs ys) key) r mo).1 B c)) : DelG w' R2 m2 d2 (setK ys key (His.delL (Idx.getL (khs ys) key) r mo).1 B c) (k + 1) := by
  obtain ⟨d1, d2', d3, _⟩ := Idx.del_parts hd
  refine ⟨hI, by rw [setK_khs]; exact h.wf.set hk d1, ?_, fun x hx => ?_⟩
  · have h1 := hI.len
    have h2 : (khs (setK ys key (His.delL (Idx.getL (khs ys) key) r mo).1 B c)).length = m2 := by unfold khs; rw [List.length_map]; exact h1
    rw [setK_khs] at h2
    have h3 := Idx.set_len h.wf.up key (His.delL (Idx.getL (khs ys) key) r mo).1
    have h4 : (khs ys).length = m := by unfold khs; rw [List.length_map]; exact h.ix.len
    have := h.few
    split at h3 <;> omega
  · have hgl := get_lenK h.len key
    unfold setK at hx
    rcases List.mem_append.1 hx with hx | hx
    · have := h.len x (List.mem_filter.1 hx).1; omega
    · rcases List.mem_append.1 hx with hx | hx
      · split at hx
        · cases hx
        · rw [List.mem_singleton] at hx
          subst hx
          show (His.delL (Idx.getL (khs ys) key) r mo).1.length ≤ _
          omega
      · have := h.len x (List.mem_filter.1 hx).1; omega

set_option maxRecDepth 100000 in
set_option maxHeartbeats 6400000 in
theorem delR15_loc (A : Option Addr) (n cap : Nat) (xs : List KLay) (a b : ByteArray) (r mo : Int) (w : World) (h : IxG w A n cap xs) (ha : a.size ≤ maxLen) (hb : b.size ≤ maxLen) :
    Calls Try.prog 49 #[.slice A n cap, .string a, .string b, .int .i64 r, .int .i64 mo] w fun e w' => DelL xs w w' e (Idx.delI (khs xs) a b r mo) := by
  have hR := rangeR_any a b ha hb w
  have hK := keysR15_any A n cap xs a b w h ha hb
  have hsm : ∀ k ∈ Idx.keysI (khs xs) a b, Idx.keyB k = true := fun k hk => by
    unfold Idx.keysI at hk
    obtain ⟨p, hp, rfl⟩ := List.mem_map.1 hk
    exact h.wf.key p (List.mem_filter.1 hp).1
  have hkl : (Idx.keysI (khs xs) a b).length ≤ n := Nat.le_trans (Idx.keys_there a b).2 (by unfold khs; rw [List.length_map, h.ix.len]; exact Nat.le_refl _)
  have hD : Hid (Idx.delI (khs xs) a b r mo = if Idx.rangeB a b = true then match Idx.delAll (khs xs) (Idx.keysI (khs xs) a b) r mo with | none => none | some o => some (o, (Idx.keysI (khs xs) a b).length) else none) := ⟨rfl⟩
  have hfew := h.few
  have HG := Lib.hid (show DelG w A n cap xs 0 from ⟨h.ix, h.wf, h.few, h.len⟩)
  generalize Idx.keysI (khs xs) a b = ks at *
  generalize Idx.rangeB a b = q at *
  generalize Idx.delI (khs xs) a b r mo = res at *
  have HS := Lib.hid hsm
  clear h ha hb hsm
  cases q with
  | false =>
    have hres : res = none := by rw [hD.out]; rfl
    subst hres
    go_enter Try.func49, Try.ntmps49
    go_wp2_with fail
    refine hR.mono ?_
    rintro e w1 ⟨rfl, rfl⟩
    go_wp2
    refine bodyPost_ret (results_tmp3 rfl _ _ _) rfl ?_
    exact ⟨rfl, Below.refl _ _⟩
  | true =>
    rw [if_pos rfl] at hD
    have HD := Lib.hid hD.out
    clear hD
    go_enter Try.func49, Try.ntmps49
    go_wp2_with fail
    refine hR.mono ?_
    rintro e w1 ⟨rfl, rfl⟩
    go_wp2_with fail
    refine hK.mono ?_
    rintro e w2 ⟨KR, km, kd, rfl, hO, hkm, hb2⟩
    have HK := Lib.hid (And.intro hO (And.intro hkm hb2))
    clear hR hK hO hb2
    go_wp2_with fail
    go_loopw [0, 27] (fun v0 v27 wr => ∃ k : Nat, k ≤ km ∧ v27 = .int .i64 (k : Int) ∧ ∃ R m d ys, v0 = .slice R m d ∧ LocK w1 xs ys ∧ DelG wr R m d ys k ∧ Idx.delAll (khs xs) ks r mo = Idx.delAll (khs ys) (ks.drop k) r mo ∧ Below w2.heap.size w2 wr) (fun _ v27 _ => km - (intOf v27).toNat)
    case atStart => exact ⟨0, Nat.zero_le _, rfl, A, n, cap, xs, rfl, LocK.refl _ _, ⟨HG.out.ix.below HK.out.2.2, HG.out.wf, HG.out.few, HG.out.len⟩, rfl, Below.refl _ _⟩
    case round =>
      obtain ⟨k, hk, rfl, R, m, d, ys, rfl, hloc, hG, hda, hb⟩ := hrel
      have HLC := Lib.hid hloc
      clear hloc
      have HB := Lib.hid (And.intro hG (And.intro hda hb))
      clear hG hda hb
      by_cases hlt : k < km
      · have l1 : decide ((k : Int) < (km : Int)) = true := decide_eq_true (by omega)
        obtain ⟨G, off, rfl, hG, hc, _⟩ := HK.out.1.sp.at_ (by omega) k hlt
        have c0 : w2.cell? ⟨G, off + k * 1, none⟩ = some (.string (ks[k]'(by omega))) := hc 0 (by omega) _ (rowS_at ks k (by omega))
        have hkb := HS.out (ks[k]'(by omega)) (List.getElem_mem _)
        have hdr : ks.drop k = ks[k]'(by omega) :: ks.drop (k + 1) := List.drop_eq_getElem_cons (by omega)
        obtain ⟨key, hkey⟩ : ∃ key, ks[k]'(by omega) = key := ⟨_, rfl⟩
        rw [hkey] at c0 hkb hdr
        rw [Nat.mul_one] at c0
        have cc0 := (HB.out.2.2.cell (p := ⟨G, off + k, none⟩) hG).trans c0
        have hGt := getR15_any R m d ys key wr HB.out.1.ix (by have := HB.out.1.few; omega)
        have hgl := get_lenK HB.out.1.len key
        have hDl := fun W B c (hv : Vers W B (Idx.getL (khs ys) key).length (Idx.getL (khs ys) key)) => delR_any B (Idx.getL (khs ys) key).length c (Idx.getL (khs ys) key) r mo W hv (by omega)
        have HDl := Lib.hid hDl
        have HX := Lib.hid (And.intro hdr (And.intro hkb (And.intro c0 hG)))
        clear hc hkey hdr hkb hDl hgl c0
        go_wp2_with fail
        refine hGt.mono ?_
        rintro e w3 ⟨B3, c3, rfl, hv3, hb3⟩
        have hD3 := HDl.out w3 B3 c3 hv3
        have hbw3 := HB.out.2.2.trans (hb3.mono HB.out.2.2.size)
        have hI3 := HB.out.1.ix.below hb3
        clear hGt hv3 hb3 cc0
        go_wp2_with fail
        refine hD3.mono ?_
        rintro e w4 ⟨R4, n4, c4, rfl, hO4, hb4⟩
        have hbw4 := hbw3.trans (hb4.mono hbw3.size)
        have hI4 := hI3.below hb4
        have cc0 := (hbw4.cell (p := ⟨G, off + k, none⟩) HX.out.2.2.2).trans HX.out.2.2.1
        have hbw3s := Lib.hid hbw3
        clear hD3 hbw3 hI3 hb4
        by_cases h0 : (His.delL (Idx.getL (khs ys) key) r mo).2 = 0
        · have hS := setR15_any R m d ys key (His.delL (Idx.getL (khs ys) key) r mo).1 R4 n4 c4 w4 hI4 (by have := HB.out.1.few; omega) hO4.sp.vers
          have HNW := Lib.hid (show ∀ q, blk R4 q → w1.heap.size ≤ q from fun q hq => Nat.le_trans (HK.out.2.2.trans (hbw3s.out.mono HK.out.2.2.size)).size (hO4.new q hq))
          have H4 := Lib.hid (And.intro hbw4 h0)
          clear hO4 hI4 hbw4
          rw [h0]
          clear h0
          go_wp2_with fail
          refine hS.mono ?_
          rintro e w5 ⟨R5, m5, d5, rfl, hO5, hb5⟩
          have hN := HB.out.1.next H4.out.2 HX.out.2.1 hO5.ix
          have HN := Lib.hid (And.intro hN (H4.out.1.trans (hb5.mono H4.out.1.size)))
          clear hS hO5 hb5 hN cc0
          go_wp2
          go_roundw
          case rel => exact ⟨k + 1, hlt, by go_num, R5, m5, d5, _, rfl, HLC.out.set key _ c4 HNW.out, HN.out.1, by rw [HB.out.2.1, HX.out.1, delAll_step H4.out.2, setK_khs], HN.out.2⟩
          case measure =>
            simp [intOf]
            omega
        · obtain ⟨cc, hcc⟩ : ∃ cc, (His.delL (Idx.getL (khs ys) key) r mo).2 = cc := ⟨_, rfl⟩
          have hres : res = none := by rw [HD.out, HB.out.2.1, HX.out.1, delAll_no h0]
          rw [hcc] at h0
          have e0 : (cc != 0) = true := by simpa using h0
          rw [hcc]
          subst hres
          have HF := Lib.hid (HK.out.2.2.trans (hbw4.mono HK.out.2.2.size))
          clear hO4 hI4 hbw4 h0 hcc cc0
          go_wp2
          refine bodyPost_ret (results_tmp3 rfl _ _ _) rfl ?_
          exact ⟨rfl, HF.out⟩
      · obtain rfl : km = k := by omega
        have hres : res = some (khs ys, km) := by rw [HD.out, HB.out.2.1, List.drop_of_length_le (by omega), ← hkm]; rfl
        subst hres
        go_wp2
        refine bodyPost_ret (results_tmp3 rfl _ _ _) rfl ?_
        exact ⟨R, m, d, ys, by rw [hkm]; rfl, ⟨HB.out.1.ix, HLC.out⟩, rfl, HK.out.2.2.trans (HB.out.2.2.mono HK.out.2.2.size)⟩

theorem delR15_any (A : Option Addr) (n cap : Nat) (xs : List KLay) (a b : ByteArray) (r mo : Int) (w : World) (h : IxG w A n cap xs) (ha : a.size ≤ maxLen) (hb : b.size ≤ maxLen) :
    Calls Try.prog 49 #[.slice A n cap, .string a, .string b, .int .i64 r, .int .i64 mo] w fun e w' => DelP w w' e (Idx.delI (khs xs) a b r mo) :=
  (delR15_loc A n cap xs a b r mo w h ha hb).mono fun e w' h => by
    generalize Idx.delI (khs xs) a b r mo = o at *
    cases o with
    | none => exact h
    | some o =>
      obtain ⟨R, m, d, ys, h1, h2, h3, h4⟩ := h
      exact ⟨R, m, d, ys, h1, h2.1, h3, h4⟩

end Go.Proofs.Ytcoddkbbgmjckaa

namespace Go.Proofs.Ytcoddkbbgmjckaa
open Go.RowKit
set_option linter.unusedVariables false
set_option linter.unusedSimpArgs false

/-- A box: a block of one cell that holds an index. -/
def Box (w : World) (g : Nat) (u : Option Addr) : Prop := w.heap[g]? = some (.cells #[.pointer u] 32)

theorem row1 {w : World} {g : Nat} {v : Value} {T : TypeId} (h : w.heap[g]? = some (.cells #[v] T)) : w.cell? ⟨g, 0, none⟩ = some v ∧ w.frozen? ⟨g, 0, none⟩ = false := by
  constructor <;> simp [World.cell?, World.frozen?, h]
theorem row1_no {w : World} {g o : Nat} {v : Value} {T : TypeId} (h : w.heap[g]? = some (.cells #[v] T)) (ho : 0 < o) : w.cell? ⟨g, o, none⟩ = none := by
  simp [World.cell?, h]
  omega

section
variable {w : World} {g : Nat} {u u' v : Option Addr}

theorem Box.cell (h : Box w g u) : w.cell? ⟨g, 0, none⟩ = some (.pointer u) := (row1 h).1
theorem Box.lt (h : Box w g u) : g < w.heap.size := Go.Proofs.Ytcoddkbbgmjckaa.hlt h
theorem Box.below {w' : World} (h : Box w g u) (hb : Below w.heap.size w w') : Box w' g u := (hb.block g h.lt).trans h
theorem Box.stored (h : Box w g u) (v : Option Addr) : Box (w.setRow g #[.pointer v]) g v := setRow_heap w g _ _ _ _ h
theorem Box.far {k : Nat} (h : Box w k u) (hk : k ≠ g) (C : Array Value) : Box (w.setRow g C) k u := (setRow_other w g k C hk).trans h

theorem Vers.store {A : Option Addr} {n : Nat} {l : List Ver} (h : Vers w A n l) (hb : Box w g u) (C : Array Value) : Vers (w.setRow g C) A n l := by
  rcases Nat.eq_zero_or_pos n with h0 | h0
  · subst h0
    exact ⟨h.1, fun h => absurd h (Nat.lt_irrefl _)⟩
  · refine h.keep (by simp) fun q hq hlt => setRow_other w g q C fun e => ?_
    subst e
    obtain ⟨g', off, e, hg, hc⟩ := h.2 h0
    obtain ⟨o, e2⟩ := hq
    rw [e] at e2
    injection e2 with e2
    injection e2 with e2 e3
    subst e2
    have := (hc 0 (by have := h.1; omega)).2.1
    rw [row1_no hb (by omega)] at this
    cases this

theorem IxL.store {A : Option Addr} {n cap : Nat} {xs : List KLay} (h : IxL w A n cap xs) (hb : Box w g u) (C : Array Value) : IxL (w.setRow g C) A n cap xs :=
  ⟨h.sp.keep fun q hq => setRow_other w g q C fun e => by
    subst e
    obtain ⟨cur, hg⟩ := h.sp.block hq
    have := hg.symm.trans hb
    injection this with this
    injection this with _ this
    exact absurd this (by decide), fun x hx => (h.vs x hx).store hb C⟩

theorem Ixp.store {l : List Idx.KH} (h : Ixp w u' l) (hb : Box w g u) (C : Array Value) : Ixp (w.setRow g C) u' l := by
  obtain ⟨t, ht, e⟩ := h
  refine ⟨t, ⟨ht.rp.carry (fun _ _ => trivial) fun b hlt _ hk => ⟨trivial, setRow_other w g b C fun e => ?_⟩, ht.bst, fun p hp => ⟨(ht.vs p hp).1.store hb C, (ht.vs p hp).2⟩⟩, e⟩
  subst e
  obtain ⟨k, hk⟩ := hk
  rw [hb.cell] at hk
  injection hk with hk
  cases hk
end

section
variable {P : Program} {fn : Func} {p q u : Tmp} {T : TypeId} {W : World} {n : Nat} {cs : Array Value} {fr : Nat × Nat} {d : TypeDesc} {tmps : Array Value}

theorem results_cell_tmp_tmp (h : fn.results = #[.cell p T, .tmp u, .tmp q]) (tmps : Array Value) (P : Program) (w : World) :
    (results fn tmps).run P w =
      ((asAddr (tmps.getD p undef)).run P w).andThen fun a w₁ => ((loadVar T a).run P w₁).andThen fun v w₂ => .ok (.tuple #[v, tmps.getD u undef, tmps.getD q undef]) w₂ := by
  simp only [results, h]
  simp [Sem.run_bind, Result.andThen]

/-- A struct in a block, two slots. -/
theorem res_cell_tmp_tmp (h : fn.results = #[.cell p T, .tmp u, .tmp q]) (h1 : tmps.getD p undef = .pointer (some ⟨n, 0, none⟩)) (hW : W.heap[n]? = some (.cells cs T fr)) (hu : P.underlying T = some d)
    (hd : (match d with | .struct _ | .array _ _ => true | _ => false) = true) (hi : (P.info? T).map (·.size) = some cs.size) : (results fn tmps).run P W = .ok (.tuple #[.agg cs, tmps.getD u undef, tmps.getD q undef]) W := by
  rw [results_cell_tmp_tmp h, h1]
  simp [asAddr, run_loadVar_row W n T T cs fr d hW hu hd hi]
end

end Go.Proofs.Ytcoddkbbgmjckaa

namespace Go.Proofs.Ytcoddkbbgmjckaa
open Go.RowKit
set_option linter.unusedVariables false
set_option linter.unusedSimpArgs false
attribute [local go_sem] Oper.semAt_some

/-- Texts of an act that are short. -/
structure Short (a : Idx.IAct) : Prop where
  k : a.k.size ≤ 100
  e : a.e.size ≤ 100
  s : a.s.size ≤ 100
  v : a.v.s.size ≤ 100

set_option maxRecDepth 100000 in
set_option maxHeartbeats 3200000 in
theorem fewI_any (A : Option Addr) (len cap : Nat) (K : Nat → Idx.IAct) (M : Nat) (w : World) (h : IActs w A len K) (hm : len ≤ maxLen) (hs : ∀ j, j < len → IActWf (K j)) (hM : M ≤ 1000) :
    Calls Try.prog 20 #[.slice A len cap, .int .i64 (M : Int)] w fun e w' => ∃ b, e = .returned (.bool b) ∧ (b = true → len ≤ M ∧ ∀ j, j < len → Short (K j)) ∧ w = w' := by
  unfold maxLen at hm
  have HV := Lib.hid (And.intro h hs)
  clear h hs
  go_enter Try.func20, Try.ntmps20
  go_wp2_with fail
  go_loopw [8] (fun v8 wr => ∃ k : Nat, k ≤ len ∧ v8 = .int .i64 (k : Int) ∧ wr = w ∧ k ≤ M ∧ ∀ j, j < k → Short (K j)) (fun v8 _ => len - (intOf v8).toNat)
  case atStart => exact ⟨0, Nat.zero_le _, rfl, rfl, Nat.zero_le _, fun j hj => absurd hj (by omega)⟩
  case round =>
    obtain ⟨k, hk, rfl, rfl, hkM, hall⟩ := hrel
    have HALL := Lib.hid hall
    clear hall
    by_cases hlt : k < len
    · have l1 : decide ((k : Int) < (len : Int)) = true := decide_eq_true (by omega)
      have k4 : (k : Int) < (len : Int) := by omega
      by_cases h4 : M ≤ k
      · have l2 : decide ((M : Int) ≤ (k : Int)) = true := decide_eq_true (by omega)
        go_wp2
        go_ret
        exact ⟨false, rfl, (fun e => by cases e), rfl⟩
      · have l2 : decide ((M : Int) ≤ (k : Int)) = false := decide_eq_false (by omega)
        obtain ⟨g, off, rfl, c0, c1, c2, c3, c4, c5, c6, c7, c8, c9, c10, c11, c12, c13⟩ := HV.out.1.cells hlt
        have hz := HV.out.2 k hlt
        have hz1 := hz.s
        have hz2 := hz.v.s
        have hz3 := hz.k
        have hz4 := hz.e
        unfold maxLen at hz1 hz2 hz3 hz4
        have HK := Lib.hid (show (K k).s.size ≤ 100 → (K k).v.s.size ≤ 100 → (K k).k.size ≤ 100 → (K k).e.size ≤ 100 → Short (K k) from fun a b c d => ⟨c, d, a, b⟩)
        obtain ⟨s, hs⟩ : ∃ s, (K k).s = s := ⟨_, rfl⟩
        obtain ⟨u, hu⟩ : ∃ u, (K k).v.s = u := ⟨_, rfl⟩
        obtain ⟨kk, hkk⟩ : ∃ u, (K k).k = u := ⟨_, rfl⟩
        obtain ⟨ke, hke⟩ : ∃ u, (K k).e = u := ⟨_, rfl⟩
        rw [hs] at c5 hz1 HK
        rw [hu] at c11 hz2 HK
        rw [hkk] at c1 hz3 HK
        rw [hke] at c2 hz4 HK
        clear c0 c3 c4 c6 c7 c8 c9 c10 c12 c13 hs hu hkk hke hz
        by_cases q1 : 100 < s.size
        · have e1 : decide ((100 : Int) < (s.size : Int)) = true := decide_eq_true (by omega)
          go_wp2
          go_ret
          exact ⟨false, rfl, (fun e => by cases e), rfl⟩
        have e1 : decide ((100 : Int) < (s.size : Int)) = false := decide_eq_false (by omega)
        by_cases q2 : 100 < u.size
        · have e2 : decide ((100 : Int) < (u.size : Int)) = true := decide_eq_true (by omega)
          go_wp2
          go_ret
          exact ⟨false, rfl, (fun e => by cases e), rfl⟩
        have e2 : decide ((100 : Int) < (u.size : Int)) = false := decide_eq_false (by omega)
        by_cases q3 : 100 < kk.size
        · have e3 : decide ((100 : Int) < (kk.size : Int)) = true := decide_eq_true (by omega)
          go_wp2
          go_ret
          exact ⟨false, rfl, (fun e => by cases e), rfl⟩
        have e3 : decide ((100 : Int) < (kk.size : Int)) = false := decide_eq_false (by omega)
        by_cases q4 : 100 < ke.size
        · have e4 : decide ((100 : Int) < (ke.size : Int)) = true := decide_eq_true (by omega)
          go_wp2
          go_ret
          exact ⟨false, rfl, (fun e => by cases e), rfl⟩
        have e4 : decide ((100 : Int) < (ke.size : Int)) = false := decide_eq_false (by omega)
        have HS := Lib.hid (HK.out (by omega) (by omega) (by omega) (by omega))
        clear q1 q2 q3 q4
        go_wp2
        go_roundw
        case rel => exact ⟨k + 1, by omega, by go_num, by first | rfl | trivial, by omega, fun j hj => by
          by_cases e : j = k
          · subst e; exact HS.out
          · exact HALL.out j (by omega)⟩
        case measure =>
          simp [intOf]
          omega
    · obtain rfl : k = len := by omega
      have l1 : decide ((k : Int) < (k : Int)) = false := decide_eq_false (by omega)
      go_wp2
      go_ret
      exact ⟨true, rfl, fun _ => ⟨hkM, HALL.out⟩, rfl⟩

end Go.Proofs.Ytcoddkbbgmjckaa

namespace Go.Proofs.Ytcoddkbbgmjckaa
open Go.RowKit
set_option linter.unusedVariables false
set_option linter.unusedSimpArgs false
attribute [local go_sem] Oper.semAt_some

set_option maxRecDepth 100000 in
set_option maxHeartbeats 3200000 in
theorem addR15_any (A : Option Addr) (n cap : Nat) (xs : List KLay) (key : ByteArray) (x : Ver) (w : World) (h : IxG w A n cap xs) (hk : key.size ≤ maxLen) :
    Calls Try.prog 51 #[.slice A n cap, .string key, verV x] w fun e w' => PutP w w' e (Idx.addI (khs xs) key x) := by
  obtain ⟨xr, xk, xm, xv, xs', xl, xg⟩ := x
  dsimp only [verV]
  obtain ⟨W0, hW0⟩ : ∃ W0, w.alloc (.cells #[.int .i64 xr, .int .i64 xk, .int .i64 xm, .int .i64 xv, .string xs', .int .i64 xl, .bool xg] 37) = W0 := ⟨_, rfl⟩
  have hb0 : Below w.heap.size w W0 := by rw [← hW0]; exact (Below.refl _ _).alloc (Nat.le_refl _) _
  have hr0 : W0.heap[w.heap.size]? = some (.cells #[.int .i64 xr, .int .i64 xk, .int .i64 xm, .int .i64 xv, .string xs', .int .i64 xl, .bool xg] 37) := by rw [← hW0]; exact heap_alloc_new w _
  have hG := fun W (hW : Below w.heap.size w W) => getR15_any A n cap xs key W (h.below hW).ix (by have := h.few; omega)
  have hlen := h.get_len key
  have hP := fun W B c (hv : Vers W B (Idx.getL (khs xs) key).length (Idx.getL (khs xs) key)) => addR_any B (Idx.getL (khs xs) key).length c (Idx.getL (khs xs) key) ⟨xr, xk, xm, xv, xs', xl, xg⟩ W hv (by omega)
  have hK := fun W => keyR_any key hk W
  have hS := fun W B hh hn c (hW : Below w.heap.size w W) (hv : Vers W B hn hh) => setR15_any A n cap xs key hh B hn c W (h.below hW).ix (by have := h.few; omega) hv
  have hPut : Hid (Idx.addI (khs xs) key ⟨xr, xk, xm, xv, xs', xl, xg⟩ = match His.addL (Idx.getL (khs xs) key) ⟨xr, xk, xm, xv, xs', xl, xg⟩ with | none => none | some h => if Idx.keyB key = true then some (Idx.setL (khs xs) key h) else none) := ⟨rfl⟩
  dsimp only [verV] at hP
  generalize His.addL (Idx.getL (khs xs) key) ⟨xr, xk, xm, xv, xs', xl, xg⟩ = o at *
  generalize Idx.keyB key = kb at *
  generalize (Idx.addI (khs xs) key ⟨xr, xk, xm, xv, xs', xl, xg⟩) = res at *
  generalize Idx.getL (khs xs) key = gl at *
  obtain ⟨⟨c0, c1, c2, c3, c4, c5, c6⟩, _⟩ := row7 hr0
  have HG := Lib.hid hG
  have HP := Lib.hid hP
  have HK := Lib.hid hK
  have HS := Lib.hid hS
  have H0 := Lib.hid (And.intro hb0 (And.intro hr0 hW0))
  clear h hG hP hK hS hlen hk hb0 hr0 hW0
  cases o with
  | none =>
    go_enter Try.func51, Try.ntmps51
    go_upto_region 1 with fail
    rw [H0.out.2.2]
    refine wp_region_held_drew (S := (fun w' => w'.cell? ⟨w.heap.size, 0, none⟩ = some (.int .i64 xr) ∧ w'.cell? ⟨w.heap.size, 1, none⟩ = some (.int .i64 xk) ∧ w'.cell? ⟨w.heap.size, 2, none⟩ = some (.int .i64 xm) ∧ w'.cell? ⟨w.heap.size, 3, none⟩ = some (.int .i64 xv) ∧ w'.cell? ⟨w.heap.size, 4, none⟩ = some (.string xs') ∧ w'.cell? ⟨w.heap.size, 5, none⟩ = some (.int .i64 xl) ∧ w'.cell? ⟨w.heap.size, 6, none⟩ = some (.bool xg))) (by kernel_rfl) ⟨c0, c1, c2, c3, c4, c5, c6⟩ (fun hHeld => ?_)
    refine lsq 10 ?_
    refine tkq 0 ?_
    refine tkq 1 ?_
    refine tkq 3 ?_
    refine rdq1 2 fun KK hK => ?_
    go_simp
    refine (HG.out _ (show Below w.heap.size w _ from H0.out.1.drew)).mono ?_
    rintro e w1 ⟨B1, c1', rfl, hv1, hb1⟩
    have hr1 := (hb1.block _ (hlt H0.out.2.1)).trans H0.out.2.1
    have hbw1 := H0.out.1.trans ((show Below W0.heap.size W0 w1 from ⟨hb1.os, hb1.tape, hb1.output, hb1.size, hb1.block⟩).mono H0.out.1.size)
    have hP1 := HP.out w1 B1 c1' hv1
    refine hK.out _ _ (row7 hr1).1 ?_
    clear hK KK hHeld hv1 hb1
    intro hHeld
    try simp only [lpq]
    refine rdq1 4 fun KK hK => ?_
    go_simp
    refine hP1.mono ?_
    rintro e w2 ⟨R2, n2, c2', rfl, hO2, hb2⟩
    have hr2 := (hb2.block _ (hlt hr1)).trans hr1
    have hbw2 := hbw1.trans ((show Below w1.heap.size w1 w2 from ⟨hb2.os, hb2.tape, hb2.output, hb2.size, hb2.block⟩).mono hbw1.size)
    refine hK.out _ _ (row7 hr2).1 ?_
    clear hK KK hHeld hP1 hb2 hr1 hr2 hbw1 c0 c1 c2 c3 c4 c5 c6
    intro hHeld
    try simp only [lpq]
    refine tkq 5 ?_
    refine tkq 6 ?_
    refine tkq 7 ?_
    refine tkq 8 ?_
    refine tkq 9 ?_
    refine dnq ?_
    clear hHeld
    have HB := Lib.hid hbw2
    clear hbw2 hO2
    go_wp2
    refine bodyPost_ret (results_tmp2 rfl _ _ _) rfl ?_
    exact ⟨none, 0, 0, [], by rw [hPut.out]; rfl, OwnK.none _ _, by rw [hPut.out]; rfl, HB.out⟩
  | some hh =>
    cases kb with
    | false =>
      go_enter Try.func51, Try.ntmps51
      go_upto_region 1 with fail
      rw [H0.out.2.2]
      refine wp_region_held_drew (S := (fun w' => w'.cell? ⟨w.heap.size, 0, none⟩ = some (.int .i64 xr) ∧ w'.cell? ⟨w.heap.size, 1, none⟩ = some (.int .i64 xk) ∧ w'.cell? ⟨w.heap.size, 2, none⟩ = some (.int .i64 xm) ∧ w'.cell? ⟨w.heap.size, 3, none⟩ = some (.int .i64 xv) ∧ w'.cell? ⟨w.heap.size, 4, none⟩ = some (.string xs') ∧ w'.cell? ⟨w.heap.size, 5, none⟩ = some (.int .i64 xl) ∧ w'.cell? ⟨w.heap.size, 6, none⟩ = some (.bool xg))) (by kernel_rfl) ⟨c0, c1, c2, c3, c4, c5, c6⟩ (fun hHeld => ?_)
      refine lsq 10 ?_
      refine tkq 0 ?_
      refine tkq 1 ?_
      refine tkq 3 ?_
      refine rdq1 2 fun KK hK => ?_
      go_simp
      refine (HG.out _ (show Below w.heap.size w _ from H0.out.1.drew)).mono ?_
      rintro e w1 ⟨B1, c1', rfl, hv1, hb1⟩
      have hr1 := (hb1.block _ (hlt H0.out.2.1)).trans H0.out.2.1
      have hbw1 := H0.out.1.trans ((show Below W0.heap.size W0 w1 from ⟨hb1.os, hb1.tape, hb1.output, hb1.size, hb1.block⟩).mono H0.out.1.size)
      have hP1 := HP.out w1 B1 c1' hv1
      refine hK.out _ _ (row7 hr1).1 ?_
      clear hK KK hHeld hv1 hb1
      intro hHeld
      try simp only [lpq]
      refine rdq1 4 fun KK hK => ?_
      go_simp
      refine hP1.mono ?_
      rintro e w2 ⟨R2, n2, c2', rfl, hO2, hb2⟩
      have hr2 := (hb2.block _ (hlt hr1)).trans hr1
      have hbw2 := hbw1.trans ((show Below w1.heap.size w1 w2 from ⟨hb2.os, hb2.tape, hb2.output, hb2.size, hb2.block⟩).mono hbw1.size)
      refine hK.out _ _ (row7 hr2).1 ?_
      clear hK KK hHeld hP1 hb2 hr1 hr2 hbw1 c0 c1 c2 c3 c4 c5 c6
      intro hHeld
      try simp only [lpq]
      refine tkq 5 ?_
      refine tkq 6 ?_
      refine tkq 7 ?_
      refine tkq 8 ?_
      refine tkq 9 ?_
      refine dnq ?_
      clear hHeld
      have HB := Lib.hid hbw2
      clear hbw2 hO2
      go_wp2_with fail
      refine (HK.out _).mono ?_
      rintro e w3 ⟨rfl, rfl⟩
      go_wp2
      refine bodyPost_ret (results_tmp2 rfl _ _ _) rfl ?_
      exact ⟨none, 0, 0, [], by rw [hPut.out]; rfl, OwnK.none _ _, by rw [hPut.out]; rfl, HB.out⟩
    | true =>
      go_enter Try.func51, Try.ntmps51
      go_upto_region 1 with fail
      rw [H0.out.2.2]
      refine wp_region_held_drew (S := (fun w' => w'.cell? ⟨w.heap.size, 0, none⟩ = some (.int .i64 xr) ∧ w'.cell? ⟨w.heap.size, 1, none⟩ = some (.int .i64 xk) ∧ w'.cell? ⟨w.heap.size, 2, none⟩ = some (.int .i64 xm) ∧ w'.cell? ⟨w.heap.size, 3, none⟩ = some (.int .i64 xv) ∧ w'.cell? ⟨w.heap.size, 4, none⟩ = some (.string xs') ∧ w'.cell? ⟨w.heap.size, 5, none⟩ = some (.int .i64 xl) ∧ w'.cell? ⟨w.heap.size, 6, none⟩ = some (.bool xg))) (by kernel_rfl) ⟨c0, c1, c2, c3, c4, c5, c6⟩ (fun hHeld => ?_)
      refine lsq 10 ?_
      refine tkq 0 ?_
      refine tkq 1 ?_
      refine tkq 3 ?_
      refine rdq1 2 fun KK hK => ?_
      go_simp
      refine (HG.out _ (show Below w.heap.size w _ from H0.out.1.drew)).mono ?_
      rintro e w1 ⟨B1, c1', rfl, hv1, hb1⟩
      have hr1 := (hb1.block _ (hlt H0.out.2.1)).trans H0.out.2.1
      have hbw1 := H0.out.1.trans ((show Below W0.heap.size W0 w1 from ⟨hb1.os, hb1.tape, hb1.output, hb1.size, hb1.block⟩).mono H0.out.1.size)
      have hP1 := HP.out w1 B1 c1' hv1
      refine hK.out _ _ (row7 hr1).1 ?_
      clear hK KK hHeld hv1 hb1
      intro hHeld
      try simp only [lpq]
      refine rdq1 4 fun KK hK => ?_
      go_simp
      refine hP1.mono ?_
      rintro e w2 ⟨R2, n2, c2', rfl, hO2, hb2⟩
      have hr2 := (hb2.block _ (hlt hr1)).trans hr1
      have hbw2 := hbw1.trans ((show Below w1.heap.size w1 w2 from ⟨hb2.os, hb2.tape, hb2.output, hb2.size, hb2.block⟩).mono hbw1.size)
      refine hK.out _ _ (row7 hr2).1 ?_
      clear hK KK hHeld hP1 hb2 hr1 hr2 hbw1 c0 c1 c2 c3 c4 c5 c6
      intro hHeld
      try simp only [lpq]
      refine tkq 5 ?_
      refine tkq 6 ?_
      refine tkq 7 ?_
      refine tkq 8 ?_
      refine tkq 9 ?_
      refine dnq ?_
      clear hHeld
      have hS2 := HS.out w2 R2 hh n2 c2' hbw2 hO2.sp.vers
      have HB := Lib.hid hbw2
      clear hbw2 hO2
      go_wp2_with fail
      refine (HK.out _).mono ?_
      rintro e w3 ⟨rfl, rfl⟩
      go_wp2_with fail
      refine hS2.mono ?_
      rintro e w4 ⟨R4, m4, d4, rfl, hO4, hb4⟩
      have HE := Lib.hid (And.intro (hO4.from HB.out.size) (HB.out.trans (hb4.mono HB.out.size)))
      clear hS2 hO4 hb4
      go_wp2
      refine bodyPost_ret (results_tmp2 rfl _ _ _) rfl ?_
      exact ⟨R4, m4, d4, _, by rw [hPut.out]; rfl, HE.out.1, by rw [hPut.out]; exact setK_khs xs key hh R2 c2', HE.out.2⟩

end Go.Proofs.Ytcoddkbbgmjckaa
