/- VaultPlays: Has of what is the same; whether acts are few. (Written by mkplay.py.) -/
import Derived.Test.YtmeoooojmhhahaaGreatTVauPlA
set_option linter.unusedVariables false
set_option linter.unusedSimpArgs false
set_option maxRecDepth 100000
set_option maxHeartbeats 4000000
namespace Go.Proofs.YtmeoooojmhhahaaGreat
open Go.RowKit
/-- Has of what is the same. -/
theorem qd7 (w : World) (h : Hd) (s : Ent) (B : Option Addr) (c : Nat) (B2 : Option Addr) (c2 : Nat) (Z Y : Nat -> Prop) (A : Option Addr) (cap : Nat) (A2 : Option Addr) (cap2 : Nat) (l : List Ent) (hl : Lies w B s.d.length c s.d) (hl2 : Lies w B2 s.d.length c2 s.d) (hE : Ents w Z A l.length cap l) (hE2 : Ents w Y A2 l.length cap2 l) (hm : l.length <= maxLen) :
 Calls Tryz.prog 14 #[.agg #[.int .i64 h.t, .int .i64 h.v],entV s.i s.t B s.d.length c, .slice A l.length cap, .agg #[.int .i64 h.t, .int .i64 h.v, .int .i64 s.i, .int .i64 s.t, .slice B2 s.d.length c2, .slice A2 l.length cap2]] w fun e w' => e = .returned (.bool true) /\ Below w.heap.size w w' := by
 have hb0 : Below w.heap.size w (((w.alloc (.cells #[.int .i64 h.t, .int .i64 h.v] 32)).alloc (.cells #[.int .i64 s.i, .int .i64 s.t, .slice B s.d.length c] 35)).alloc (.cells #[.int .i64 h.t, .int .i64 h.v, .int .i64 s.i, .int .i64 s.t, .slice B2 s.d.length c2, .slice A2 l.length cap2] 47)) := ((blq.alloc nlq _).alloc (by simp) _).alloc (by simp; omega) _
 have m0 : (((w.alloc (.cells #[.int .i64 h.t, .int .i64 h.v] 32)).alloc (.cells #[.int .i64 s.i, .int .i64 s.t, .slice B s.d.length c] 35)).alloc (.cells #[.int .i64 h.t, .int .i64 h.v, .int .i64 s.i, .int .i64 s.t, .slice B2 s.d.length c2, .slice A2 l.length cap2] 47)).heap[w.heap.size]? = some (.cells #[.int .i64 h.t, .int .i64 h.v] 32) := (Below.heap_alloc _ _ _ (by simp; omega)).trans ((Below.heap_alloc _ _ _ (by simp)).trans (heap_alloc_new _ _))
 have m1 : (((w.alloc (.cells #[.int .i64 h.t, .int .i64 h.v] 32)).alloc (.cells #[.int .i64 s.i, .int .i64 s.t, .slice B s.d.length c] 35)).alloc (.cells #[.int .i64 h.t, .int .i64 h.v, .int .i64 s.i, .int .i64 s.t, .slice B2 s.d.length c2, .slice A2 l.length cap2] 47)).heap[w.heap.size + 1]? = some (.cells #[.int .i64 s.i, .int .i64 s.t, .slice B s.d.length c] 35) := (Below.heap_alloc _ _ _ (by simp)).trans (heap_alloc2_new _ _ _)
 have m2 : (((w.alloc (.cells #[.int .i64 h.t, .int .i64 h.v] 32)).alloc (.cells #[.int .i64 s.i, .int .i64 s.t, .slice B s.d.length c] 35)).alloc (.cells #[.int .i64 h.t, .int .i64 h.v, .int .i64 s.i, .int .i64 s.t, .slice B2 s.d.length c2, .slice A2 l.length cap2] 47)).heap[w.heap.size + 1 + 1]? = some (.cells #[.int .i64 h.t, .int .i64 h.v, .int .i64 s.i, .int .i64 s.t, .slice B2 s.d.length c2, .slice A2 l.length cap2] 47) := by
  have := heap_alloc_new ((w.alloc (.cells #[.int .i64 h.t, .int .i64 h.v] 32)).alloc (.cells #[.int .i64 s.i, .int .i64 s.t, .slice B s.d.length c] 35)) (.cells #[.int .i64 h.t, .int .i64 h.v, .int .i64 s.i, .int .i64 s.t, .slice B2 s.d.length c2, .slice A2 l.length cap2] 47)
  simp only [World.size_alloc] at this
  exact this
 have hS := qgB s.i s.t B s.d.length c s.d s.i s.t B2 s.d.length c2 s.d (((w.alloc (.cells #[.int .i64 h.t, .int .i64 h.v] 32)).alloc (.cells #[.int .i64 s.i, .int .i64 s.t, .slice B s.d.length c] 35)).alloc (.cells #[.int .i64 h.t, .int .i64 h.v, .int .i64 s.i, .int .i64 s.t, .slice B2 s.d.length c2, .slice A2 l.length cap2] 47)) (hl.below hb0 nlq) (hl2.below hb0 nlq)
 rw [qkq] at hS
 have hE1 := fun w1 (hb : Below w.heap.size w w1) => qjM Z Y A l.length cap l A2 l.length cap2 l w1 (hE.below hb nlq) (hE2.below hb nlq) hm
 rw [qiN] at hE1
 have hq := qhB h.t h.v h.t h.v
 rw [show (h.t == h.t && h.v == h.v) = true by simp] at hq
 obtain ⟨⟨x0,x1⟩,_⟩ := row2 m0
 obtain ⟨⟨y0,y1,y2⟩,_⟩ := row3 m1
 obtain ⟨⟨z0,z1,z2,z3,z4,z5⟩,_⟩ := row6 m2
 clear hl hl2 hE hE2
 go_enter Tryz.func14,Tryz.ntmps14
 go_wp2_with fail
 refine hS.mono ?_
 rintro e w1 ⟨rfl,hb1⟩
 have hbw := hb0.trans (hb1.mono hb0.size)
 have m2 := (hb1.block _ (hlt m2)).trans m2
 have hE3 := hE1 w1 hbw
 clear x0 x1 y0 y1 y2 z0 z1 z2 z3 z4 z5 hS hb1 hb0
 obtain ⟨⟨z0,z1,z2,z3,z4,z5⟩,_⟩ := row6 m2
 go_wp2_with fail
 refine hE3.mono ?_
 rintro e w2 ⟨rfl,hb2⟩
 go_wp2
 go_ret
 exact ⟨rfl,hbw.trans (hb2.mono hbw.size)⟩
def qb1 (a : VAct) : Bool := fewE a.l 10 && (decide (a.s.d.length <= 2000) && fitB a.d)
def few10B (a : Nat -> VAct) (len most : Nat) : Bool := decide (len <= most) && (List.range len).all fun j => qb1 (a j)
theorem qkE {a : Nat -> VAct} {len most : Nat} (h : few10B a len most = true) : len <= most /\ ∀ j,j < len -> fewE (a j).l 10 = true /\ (a j).s.d.length <= 2000 /\ (a j).d.bL.length <= 300 /\ (a j).d.klen <= 20 /\ (a j).d.name.size <= 20 /\ (a j).d.to_.size <= 20 := by
 simp only [few10B,Bool.and_eq_true,decide_eq_true_eq,List.all_eq_true,List.mem_range,qb1,fitB] at h
 exact h
theorem qlA {a : Nat -> VAct} {len most k : Nat} (hk : k < len) (h : most <= k \/ qb1 (a k) = false) : few10B a len most = false := by
 cases hq : few10B a len most with
 | false => rfl
 | true =>
   simp only [few10B,Bool.and_eq_true,decide_eq_true_eq,List.all_eq_true,List.mem_range] at hq
   rcases h with h | h
   · omega
   · rw [hq.2 k hk] at h; cases h
theorem qlB {w : World} {x : Act} (h : qam w (· < w.heap.size) x) (h1 : x.name.size <= maxLen) (h2 : x.to_.size <= maxLen) (h3 : x.klen <= maxLen) :
 qd5 (w.alloc (.cells (actC x) 53)) (some ⟨w.heap.size,0,none⟩) 1 (fun _ => x) := by
 have hb : Below w.heap.size w (w.alloc (.cells (actC x) 53)) := blq.alloc nlq _
 refine ⟨fun j _ => ⟨(h.keeps (qe hb nlq)).mono fun k hk => Nat.lt_of_lt_of_le hk hb.size,h1,h2,h3⟩,fun _ => ⟨w.heap.size,0,rfl,by simp,fun j hj => ?_⟩⟩
 obtain rfl : j = 0 := by omega
 obtain ⟨⟨c0,c1,c2,c3,c4,c5⟩,_⟩ := row6 (heap_alloc_new w (.cells (actC x) 53))
 exact ⟨c0,c1,c2,c3,c4,c5⟩
theorem ql5 (x : Act) : fewB (fun _ => x) 1 1 = fitB x := by simp [fewB]
theorem qgy (A : Option Addr) (len cap : Nat) (a : Nat -> VAct) (w : World) (h : qbC w A len a) (hm : len <= maxLen) (hd : ∀ j,j < len -> ∀ e ∈ (a j).l,e.d.length <= 140737488355328) :
 Calls Tryz.prog 10 #[.slice A len cap, .int .i64 40] w fun e w' => e = .returned (.bool (few10B a len 40)) /\ Below w.heap.size w w' := by
 unfold maxLen at hm
 have hm' : (len : Int) <= 9223372036854775807 := by omega
 have HB : Hid (∀ k,k < len -> 40 <= k \/ qb1 (a k) = false -> few10B a len 40 = false) := ⟨fun k hk h => qlA hk h⟩
 have HY : Hid ((∀ j,j < len -> j < 40 /\ qb1 (a j) = true) -> few10B a len 40 = true) := ⟨fun hall => by
  simp only [few10B,Bool.and_eq_true,decide_eq_true_eq,List.all_eq_true,List.mem_range]
  refine ⟨?_,fun j hj => (hall j hj).2⟩
  rcases Nat.lt_or_ge 40 len with hl | hl
  · have := (hall 40 hl).1; omega
  · exact hl⟩
 obtain ⟨F,hF⟩ : ∃ F,few10B a len 40 = F := ⟨_,rfl⟩
 rw [hF] at HB HY ⊢
 clear hF
 have HD := Lib.hid hd
 clear hd
 go_enter Tryz.func10,Tryz.ntmps10
 go_wp2
 go_loopg [8] len (fun g i wr => ∃ k : Nat,k + g = len /\ i = .int .i64 (k : Int) /\ Below w.heap.size w wr /\ Hid (∀ j,j < k -> j < 40 /\ qb1 (a j) = true))
 case atStart => exact ⟨0,by omega,rfl,blq,⟨fun j h => absurd h (by omega)⟩⟩
 case round =>
  obtain ⟨k,hkg,rfl,hbr,HK⟩ := hrel
  by_cases hlt : k < len
  · have hlt' : ((k : Int) < (len : Int)) = True := eq_true (by omega)
    have hltd : decide (k < len) = true := decide_eq_true hlt
    obtain ⟨b,off,rfl,hb,hc⟩ := (h.below hbr).2 (by omega)
    have hin := (h.below hbr).1 k hlt
    have hcc := hc k hlt
    have hdk := HD.out k hlt
    have HN := Lib.hid (HB.out k hlt)
    have HS : Hid (k < 40 -> qb1 (a k) = true -> ∀ j,j < k + 1 -> j < 40 /\ qb1 (a j) = true) := ⟨fun h1 h2 j hj => by
     rcases Nat.lt_or_ge j k with h' | h'
     · exact HK.out j h'
     · obtain rfl : j = k := by omega
       exact ⟨h1,h2⟩⟩
    have HG := Lib.hid hkg
    have HR := Lib.hid hbr
    have HF : Hid (qb1 (a k) = (fewE (a k).l 10 && (decide ((a k).s.d.length <= 2000) && fitB (a k).d))) := ⟨rfl⟩
    generalize hfit : qb1 (a k) = ft at HN HF HS
    clear hfit
    generalize a k = x at hin hcc hdk HF
    obtain ⟨xk,xh,xs,xB,xc,xA,xcap,xl,xd⟩ := x
    dsimp only at hdk HF
    have e5 : wr.cell? ⟨b,off + k * 13 + 5,none⟩ = some (.slice xB xs.d.length xc) := hcc 5 _ rfl
    have e6 : wr.cell? ⟨b,off + k * 13 + 6,none⟩ = some (.slice xA xl.length xcap) := hcc 6 _ rfl
    have hF1 := qkR _ xA xl.length xcap xl 10 wr hin.ents (Nat.le_trans hin.ents.2.1 hin.capm) (by omega) hdk
    have hone := qlB hin.act hin.n1 hin.n2 hin.n3
    have hF2 := ql2 _ 1 1 (fun _ => xd) 1 _ hone (by unfold maxLen; omega) (by omega)
    rw [ql5] at hF2
    have e7 : wr.cell? ⟨b,off + k * 13 + 7,none⟩ = some (.int .u8 (xd.kind : Int)) := hcc 7 _ rfl
    have e8 : wr.cell? ⟨b,off + k * 13 + 8,none⟩ = some (.string xd.name) := hcc 8 _ rfl
    have e9 : wr.cell? ⟨b,off + k * 13 + 9,none⟩ = some (.string xd.to_) := hcc 9 _ rfl
    have e10 : wr.cell? ⟨b,off + k * 13 + 10,none⟩ = some (.slice xd.bA xd.bL.length xd.bcap) := hcc 10 _ rfl
    have e11 : wr.cell? ⟨b,off + k * 13 + 11,none⟩ = some (.int .i64 xd.n) := hcc 11 _ rfl
    have e12 : wr.cell? ⟨b,off + k * 13 + 12,none⟩ = some (.slice xd.kA xd.klen xd.kcap) := hcc 12 _ rfl
    have hal : Below wr.heap.size wr (wr.alloc (.cells (actC xd) 53)) := blq.alloc nlq _
    have hbl := HR.out.size
    have HX := Lib.hid (HR.out.trans (hal.mono HR.out.size))
    obtain ⟨xkind,xname,xto,xbA,xbcap,xbL,xn,xkA,xklen,xkcap,xkY⟩ := xd
    dsimp only at *
    clear hc h HB HY HK hcc hin hkg hbr hone hal hdk HD
    generalize xs.d.length = sl at *
    by_cases k1 : 40 <= k
    · have k1' : ((40 : Int) <= (k : Int)) = True := eq_true (by omega)
      have HE := Lib.hid (HN.out (.inl k1))
      clear k1
      go_wp2
      go_ret
      exact ⟨by rw [HE.out]; rfl,HR.out⟩
    · have k1' : ((40 : Int) <= (k : Int)) = False := eq_false (by omega)
      have HK1 := Lib.hid (show k < 40 by omega)
      clear k1
      cases hq : fewE xl 10 with
      | false =>
        rw [hq] at hF1
        have HE := Lib.hid (HN.out (.inr (by rw [HF.out,hq]; rfl)))
        go_wp2_with fail
        refine hF1.mono ?_
        rintro e w1 ⟨rfl,rfl⟩
        go_wp2
        go_ret
        exact ⟨by rw [HE.out]; rfl,HR.out⟩
      | true =>
        rw [hq] at hF1
        by_cases k3 : 2000 < sl
        · have k3' : ((2000 : Int) < (sl : Int)) = True := eq_true (by omega)
          have HE := Lib.hid (HN.out (.inr (by rw [HF.out,hq,decide_eq_false (show ¬ sl <= 2000 by omega)]; rfl)))
          clear k3
          go_wp2_with fail
          refine hF1.mono ?_
          rintro e w1 ⟨rfl,rfl⟩
          go_wp2
          go_ret
          exact ⟨by rw [HE.out]; rfl,HR.out⟩
        · have k3' : ((2000 : Int) < (sl : Int)) = False := eq_false (by omega)
          have HK3 := Lib.hid (show sl <= 2000 by omega)
          clear k3
          generalize hfb : fitB ⟨xkind,xname,xto,xbA,xbcap,xbL,xn,xkA,xklen,xkcap,xkY⟩ = fb at *
          cases fb with
          | false =>
            have HE := Lib.hid (HN.out (.inr (by rw [HF.out,hq,decide_eq_true HK3.out]; rfl)))
            clear hfb
            go_wp2_with fail
            refine hF1.mono ?_
            rintro e w1 ⟨rfl,rfl⟩
            go_wp2_with fail
            refine hF2.mono ?_
            rintro e w2 ⟨rfl,rfl⟩
            go_wp2
            go_ret
            exact ⟨by rw [HE.out]; rfl,HX.out⟩
          | true =>
            have HE := Lib.hid (HS.out HK1.out (by rw [HF.out,hq,decide_eq_true HK3.out]; rfl))
            clear hfb
            go_wp2_with fail
            refine hF1.mono ?_
            rintro e w1 ⟨rfl,rfl⟩
            go_wp2_with fail
            refine hF2.mono ?_
            rintro e w2 ⟨rfl,rfl⟩
            go_wp2
            go_roundg (gk - 1)
            case measure => have e : k + gk = len := HG.out; omega
            case rel => exact ⟨k + 1,by have e : k + gk = len := HG.out; omega,by go_num,HX.out,⟨HE.out⟩⟩
  · obtain rfl : k = len := by omega
    have HE := Lib.hid (HY.out HK.out)
    clear h HK HB HY
    go_wp2
    go_ret
    exact ⟨by rw [HE.out]; rfl,hbr⟩
end Go.Proofs.YtmeoooojmhhahaaGreat
