/- What a log is, asked of the program and of the document. -/
import Derived.Test.YtlanjlboipnpfaaLogProgF
import Derived.Test.YtlanjlboipnpfaaLogRefC
import Derived.Test.YtlanjlboipnpfaaEntSame
import Derived.Deep.RegionHeld3
import Derived.Deep.RegionWith
namespace Go.Proofs.Ytlanjlboipnpfaa
open Go.RowKit
set_option linter.unusedVariables false
set_option linter.unusedSimpArgs false

theorem Good.from_all {r : RL} (h : Good r) (hn : r.l.length ≤ 1000) : r.fromL (r.i + 1) 1000 = r.l := by
  rw [h.from_]
  by_cases h0 : r.l.length = 0
  · have e : r.l = [] := List.eq_nil_of_length_eq_zero h0
    have hp : r.place (r.i + 1) = none := by unfold RL.place; rw [if_neg (by omega)]
    rw [sub_none hp, e]
  · have hp : r.place (r.i + 1) = some 0 := by
      unfold RL.place
      rw [if_pos (by omega)]
      congr 1
      omega
    rw [sub_some hp, List.drop_zero, List.take_of_length_le (by omega)]

set_option maxRecDepth 100000 in
set_option maxHeartbeats 3200000 in
theorem isL_any {w : World} {p : Nat} {r : RL} {s : Nat} {Z : Nat → Prop} {A0 : Option Addr} {c0 : Nat} {xs : List Lay} (hL : LgAt w p r s Z A0 c0 xs) (hg : Good r) (hs : frel r s) (Y : Nat → Prop) (A : Option Addr) (n c : Nat) (hE : Ents w Y A n c r.l) (hn : n ≤ 1000) (i t many : Int) :
    Calls Try.prog 11 #[ptrV p, lgV r A n c, .int .i64 i, .int .i64 t, .int .i64 many] w fun e w' => e = .returned (.bool true) ∧ Below w.heap.size w w' := by
  have hll := hE.1
  have hs2 := frel_le hs hg
  have hE0 : Ents w (fun _ => True) A n c r.l := hE.mono fun _ _ => trivial
  have hER := fun w1 (hb : Below w.heap.size w w1) => hE0.below hb (Nat.le_refl _)
  have hK := fun w1 (hb : Below w.heap.size w w1) => hL.keep hb.size fun q hq _ => hb.block q hq
  have hB := fun w1 (hb : Below w.heap.size w w1) => baseP_any (hK w1 hb).rd
  have hLP := fun w1 (hb : Below w.heap.size w w1) => lastP_any (hK w1 hb).rd (by omega)
  have hLR := fun w1 (hb : Below w.heap.size w w1) => lastR_any r (fun _ => True) A n c w1 (hER w1 hb) (by unfold maxLen; omega)
  have hTP := fun w1 (hb : Below w.heap.size w w1) => termP_any (hK w1 hb).rd (by omega) hg i
  have hTR := fun w1 (hb : Below w.heap.size w w1) => atR_any r i (fun _ => True) A n c w1 (hER w1 hb) (by unfold maxLen; omega)
  have hNP := fun w1 (hb : Below w.heap.size w w1) => newerP_any (hK w1 hb).rd (by omega) i t
  have hNR := fun w1 (hb : Below w.heap.size w w1) => newerR_any r i t (fun _ => True) A n c w1 (hER w1 hb) (by unfold maxLen; omega)
  have hFP := fun w1 (hb : Below w.heap.size w w1) => fromP_any (hK w1 hb) (by omega) hg i many
  have hFR := fun w1 (hb : Below w.heap.size w w1) => fromR8_any r i many (fun _ => True) A n c w1 (hER w1 hb) (by omega) (fun _ _ => trivial)
  have hCP := fun w1 (hb : Below w.heap.size w w1) => freshP_any (hK w1 hb) (by omega) hg hs2
  have hCR := fun w1 (hb : Below w.heap.size w w1) => changedR_any r (fun _ => True) A n c w1 (hER w1 hb) (by omega) (fun _ _ => trivial)
  have hAP := fun w1 (hb : Below w.heap.size w w1) => fromP_any (hK w1 hb) (by omega) hg (r.i + 1) 1000
  rw [hg.changed hs] at hCR
  rw [hg.from_all (by omega)] at hAP
  have hlim := hg.lim
  have hb0 : Below w.heap.size w (w.alloc (.cells (lgC r A n c) 32)) := (Below.refl _ _).alloc (Nat.le_refl _) _
  have hrow := heap_alloc_new w (.cells (lgC r A n c) 32)
  have hbx := fun w1 (hb : Below (w.alloc (.cells (lgC r A n c) 32)).heap.size (w.alloc (.cells (lgC r A n c) 32)) w1) => (row4 ((hb.block _ (hlt hrow)).trans hrow)).1
  have hW := fun w1 (hb : Below (w.alloc (.cells (lgC r A n c) 32)).heap.size (w.alloc (.cells (lgC r A n c) 32)) w1) => hb0.trans (hb.mono hb0.size)
  obtain ⟨J, hJ⟩ : ∃ J, J = r.i + 1 := ⟨_, rfl⟩
  have hw1 : wrap64 (r.i + 1) = J := by rw [hJ, ← IntWalk.i64_left, IntWalk.i64_in _ (by omega)]
  have hw2 : IntKind.i64.wrap (r.i + 1) = J := by rw [hJ, IntWalk.i64_in _ (by omega)]
  rw [← hJ] at hAP
  have hFm : (r.fromL i many).length ≤ maxLen := by
    rw [hg.from_]
    unfold RL.sub maxLen
    split
    · simp
    · rw [List.length_take, List.length_drop]; omega
  have hGm : (r.l.drop s).length ≤ maxLen := by rw [List.length_drop]; unfold maxLen; omega
  have hLm : r.l.length ≤ maxLen := by unfold maxLen; omega
  generalize hpl : r.l = ls at *
  generalize r.lastI = li at *
  generalize r.lastT = lt at *
  generalize r.at_ i = o at *
  generalize r.newer i t = nb at *
  generalize r.fromL i many = F at *
  generalize ls.drop s = G at *
  generalize hov : o.getD 0 = ov at *
  generalize hob : o.isSome = ob at *
  have hS := fun (X : List Ent) w1 A1 n1 c1 B1 m1 d1 Y1 Y2 (h1 : Ents w1 Y1 A1 n1 c1 X) (h2 : Ents w1 Y2 B1 m1 d1 X) (hm : n1 ≤ maxLen) => sameR_any Y1 Y2 A1 n1 c1 X B1 m1 d1 X w1 h1 h2 hm
  clear hlim hJ hg hs hE hE0 hL hK hs2 hll hov hob hpl
  go_enter Try.func11, Try.ntmps11
  go_wp2_with fail
  generalize w.alloc (.cells (lgC r A n c) 32) = w0 at *
  have hb := Below.refl w0.heap.size w0
  refine (hB _ (hW _ hb)).mono ?_
  rintro e w1 ⟨rfl, hb1⟩
  replace hb := hb.trans hb1
  clear hB
  go_wp2_with fail
  refine (hLP _ (hW _ hb)).mono ?_
  rintro e w2 ⟨rfl, hb2⟩
  replace hb := hb.trans (hb2.mono hb.size)
  obtain ⟨b0, b1, b2, b3⟩ := hbx w2 hb
  clear hLP hb1 hb2
  go_wp2_with fail
  refine (hLR _ (hW _ hb)).mono ?_
  rintro e w3 ⟨rfl, hb3⟩
  replace hb := hb.trans (hb3.mono hb.size)
  clear hLR hb3 b0 b1 b2 b3
  go_wp2_with fail
  refine (hTP _ (hW _ hb)).mono ?_
  rintro e w4 ⟨rfl, hb4⟩
  replace hb := hb.trans (hb4.mono hb.size)
  obtain ⟨b0, b1, b2, b3⟩ := hbx w4 hb
  clear hTP hb4
  go_wp2_with fail
  refine (hTR _ (hW _ hb)).mono ?_
  rintro e w5 ⟨rfl, hb5⟩
  replace hb := hb.trans (hb5.mono hb.size)
  obtain ⟨d0, d1, d2, d3⟩ := hbx w5 hb
  clear hTR hb5 b0 b1 b2 b3
  have hd : Below w0.heap.size w0 w5.drew := hb.drew
  clear hb
  go_upto_region 6 with fail
  dsimp only [List.append]
  go_region_held3 (fun w' => w'.cell? ⟨w.heap.size, 0, none⟩ = some (.int .i64 r.i) ∧ w'.cell? ⟨w.heap.size, 1, none⟩ = some (.int .i64 r.t) ∧ w'.cell? ⟨w.heap.size, 2, none⟩ = some (.slice A n c) ∧ w'.cell? ⟨w.heap.size, 3, none⟩ = some (.int .i64 r.f))
    (first | exact hbx _ hz | exact ⟨d0, d1, d2, d3⟩ | (go_keep; done))
    (first
      | (go_at_call 24
         refine (hNP _ (hW _ hd)).mono ?_
         rintro e w6 ⟨rfl, hb6⟩
         have hz := hd.trans (hb6.mono hd.size))
      | (go_at_call 33
         refine (hNR _ (hW _ hz)).mono ?_
         rintro e w7 ⟨rfl, hb7⟩
         have hz := hz.trans (hb7.mono hz.size))
      | (go_at_call_of 17 (Value.int .i64 many)
         refine (hFP _ (hW _ hz)).mono ?_
         rintro e w8 ⟨A8, c8, rfl, hE8, hb8⟩
         have hz := hz.trans (hb8.mono hz.size))
      | (go_at_call 34
         refine (hFR _ (hW _ hz)).mono ?_
         rintro e w9 ⟨A9, c9, rfl, hE9, hb9⟩
         have hE8 := hE8.below hb9 (Nat.le_refl _)
         have hz := hz.trans (hb9.mono hz.size))
      | (go_at_call_of 16 (Value.slice A9 F.length c9)
         refine (hS _ _ _ _ _ _ _ _ _ _ hE8 hE9 hFm).mono ?_
         rintro e w10 ⟨rfl, hb10⟩
         rw [sameE_refl]
         have hz := hz.trans (hb10.mono hz.size))
      | (go_at_call 19
         refine (hCP _ (hW _ hz)).mono ?_
         rintro e w11 ⟨A11, c11, rfl, hE11, hb11⟩
         have hz := hz.trans (hb11.mono hz.size))
      | (go_at_call 35
         refine (hCR _ (hW _ hz)).mono ?_
         rintro e w12 ⟨A12, c12, rfl, hE12, hb12⟩
         have hE11 := hE11.below hb12 (Nat.le_refl _)
         have hz := hz.trans (hb12.mono hz.size))
      | (go_at_call_of 16 (Value.slice A12 G.length c12)
         refine (hS _ _ _ _ _ _ _ _ _ _ hE11 hE12 hGm).mono ?_
         rintro e w13 ⟨rfl, hb13⟩
         rw [sameE_refl]
         have hz := hz.trans (hb13.mono hz.size))
      | (go_at_call_of 17 (Value.int .i64 1000)
         refine (hAP _ (hW _ hz)).mono ?_
         rintro e w14 ⟨A14, c14, rfl, hE14, hb14⟩
         have hz := hz.trans (hb14.mono hz.size))
      | (go_at_call_of 16 (Value.slice A n c)
         refine (hS _ _ _ _ _ _ _ _ _ _ hE14 (hER _ (hW _ hz)) hLm).mono ?_
         rintro e w15 ⟨rfl, hb15⟩
         rw [sameE_refl]
         have hz := hz.trans (hb15.mono hz.size)))
  all_goals
    go_wp2
    go_ret
    exact ⟨rfl, hW _ hz⟩

end Go.Proofs.Ytlanjlboipnpfaa
