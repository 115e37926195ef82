/- The acts that a law is called with; whether they are few. -/
import Derived.Test.YtmeoooojmhhahaaGreatTVauOps
set_option linter.unusedVariables false
set_option linter.unusedSimpArgs false
set_option maxRecDepth 100000
set_option maxHeartbeats 1000000
namespace Go.Proofs.YtmeoooojmhhahaaGreat
open Go.ChangeShapes Go.WideShapes Go.ChangeAt Go.RowKit Go.Deep
def qd5 (w : World) (A : Option Addr) (len : Nat) (a : Nat -> Act) : Prop :=
 (∀ j,j < len -> qam w (· < w.heap.size) (a j) /\ (a j).name.size <= maxLen /\ (a j).to_.size <= maxLen /\ (a j).klen <= maxLen) ∧
 (0 < len -> ∃ b off,A = some ⟨b,off,none⟩ /\ b < w.heap.size /\ ∀ j,j < len →
   w.cell? ⟨b,off + j * 6,none⟩ = some (.int .u8 ((a j).kind : Int)) /\ w.cell? ⟨b,off + j * 6 + 1,none⟩ = some (.string (a j).name) /\ w.cell? ⟨b,off + j * 6 + 2,none⟩ = some (.string (a j).to_) ∧
   w.cell? ⟨b,off + j * 6 + 3,none⟩ = some (.slice (a j).bA (a j).bL.length (a j).bcap) /\ w.cell? ⟨b,off + j * 6 + 4,none⟩ = some (.int .i64 (a j).n) /\ w.cell? ⟨b,off + j * 6 + 5,none⟩ = some (.slice (a j).kA (a j).klen (a j).kcap))
section
variable {H : Type} {enc : TypeId × Value → H} {W : World} {sp : Nat → Bool} {hd : Bool}
def qmk : Act := ⟨0,ByteArray.empty,ByteArray.empty,none,0,[],0,none,0,0,fun _ => 0⟩
end
theorem qd5.below {w w' : World} {A : Option Addr} {len : Nat} {a : Nat -> Act} (h : qd5 w A len a) (hb : Below w.heap.size w w') : qd5 w' A len a := by
 refine ⟨fun j hj => ?_,fun h0 => ?_⟩
 · obtain ⟨h1,h2⟩ := h.1 j hj
   exact ⟨(h1.keeps (qe hb nlq)).mono fun k hk => Nat.lt_of_lt_of_le hk hb.size,h2⟩
 · obtain ⟨b,off,e,hg,hc⟩ := h.2 h0
   refine ⟨b,off,e,Nat.lt_of_lt_of_le hg hb.size,fun j hj => ?_⟩
   have hx : ∀ o,w'.cell? ⟨b,o,none⟩ = w.cell? ⟨b,o,none⟩ := fun o => hb.cell (p := ⟨b,o,none⟩) hg
   simp only [hx]
   exact hc j hj
def fitB (a : Act) : Bool := decide (a.bL.length <= 300) && (decide (a.klen <= 20) && (decide (a.name.size <= 20) && decide (a.to_.size <= 20)))
def fewB (a : Nat -> Act) (len most : Nat) : Bool := decide (len <= most) && (List.range len).all fun j => fitB (a j)
theorem qme {a : Nat -> Act} {len most k : Nat} (hk : k < len) (h : most <= k \/ fitB (a k) = false) : fewB a len most = false := by
 cases hq : fewB a len most with
 | false => rfl
 | true =>
   simp only [fewB,Bool.and_eq_true,decide_eq_true_eq,List.all_eq_true,List.mem_range] at hq
   rcases h with h | h
   · omega
   · rw [hq.2 k hk] at h; cases h
theorem ql2 (A : Option Addr) (len cap : Nat) (a : Nat -> Act) (most : Nat) (w : World) (h : qd5 w A len a) (hm : len <= maxLen) (hmost : most <= 1000) :
 Calls Tryz.prog 35 #[.slice A len cap, .int .i64 (most : Int)] w fun e w' => e = .returned (.bool (fewB a len most)) /\ w = w' := by
 unfold maxLen at hm
 have hm' : (len : Int) <= 9223372036854775807 := by omega
 have HB : Hid (∀ k,k < len -> most <= k \/ fitB (a k) = false -> fewB a len most = false) := ⟨fun k hk h => qme hk h⟩
 have HY : Hid ((∀ j,j < len -> j < most /\ fitB (a j) = true) -> fewB a len most = true) := ⟨fun hall => by
  simp only [fewB,Bool.and_eq_true,decide_eq_true_eq,List.all_eq_true,List.mem_range]
  refine ⟨?_,fun j hj => (hall j hj).2⟩
  rcases Nat.lt_or_ge most len with hl | hl
  · have := (hall most hl).1; omega
  · exact hl⟩
 obtain ⟨F,hF⟩ : ∃ F,fewB a len most = F := ⟨_,rfl⟩
 rw [hF] at HB HY ⊢
 clear hF
 go_enter Tryz.func35,Tryz.ntmps35
 go_wp2
 go_loop [8] (fun i => ∃ k : Nat,k <= len /\ i = .int .i64 (k : Int) /\ Hid (∀ j,j < k -> j < most /\ fitB (a j) = true)) (fun i => len - (intOf i).toNat)
 case atStart => exact ⟨0,Nat.zero_le _,rfl,⟨fun j h => absurd h (by omega)⟩⟩
 case round =>
  obtain ⟨k,hk,rfl,HK⟩ := hrel
  by_cases hlt : k < len
  · have hlt' : (k : Int) < (len : Int) := by omega
    obtain ⟨b,off,rfl,hb,hc⟩ := h.2 (by omega)
    obtain ⟨_,c1,c2,c3,_,c5⟩ := hc k hlt
    obtain ⟨_,hn1,hn2,hn3⟩ := h.1 k hlt
    unfold maxLen at hn1 hn2 hn3
    have HN := Lib.hid (HB.out k hlt)
    have HF : Hid (fitB (a k) = (decide ((a k).bL.length <= 300) && (decide ((a k).klen <= 20) && (decide ((a k).name.size <= 20) && decide ((a k).to_.size <= 20))))) := ⟨rfl⟩
    have HS : Hid (k < most -> fitB (a k) = true -> ∀ j,j < k + 1 -> j < most /\ fitB (a j) = true) := ⟨fun h1 h2 j hj => by
     rcases Nat.lt_or_ge j k with h' | h'
     · exact HK.out j h'
     · obtain rfl : j = k := by omega
       exact ⟨h1,h2⟩⟩
    clear hc h HB HY HK
    generalize hfit : fitB (a k) = ft at HN HF
    have HFT := Lib.hid hfit
    clear hfit
    generalize a k = x at c1 c2 c3 c5 hn1 hn2 hn3 HF
    obtain ⟨kind,name,to_,bA,bcap,bL,n,kA,klen,kcap,kY⟩ := x
    dsimp only at *
    generalize bL.length = blen at *
    by_cases k1 : most <= k
    · have k1' : (most : Int) <= (k : Int) := by omega
      have HE := Lib.hid (HN.out (.inl k1))
      go_wp2
      go_ret
      exact ⟨by rw [HE.out]; rfl,rfl⟩
    · have k1' : ¬ ((most : Int) <= (k : Int)) := by omega
      by_cases k2 : 300 < blen
      · have k2' : (300 : Int) < (blen : Int) := by omega
        have HE := Lib.hid (HN.out (.inr (by rw [HF.out]; simp; omega)))
        go_wp2
        go_ret
        exact ⟨by rw [HE.out]; rfl,rfl⟩
      · have k2' : ¬ ((300 : Int) < (blen : Int)) := by omega
        by_cases k3 : 20 < klen
        · have k3' : (20 : Int) < (klen : Int) := by omega
          have HE := Lib.hid (HN.out (.inr (by rw [HF.out]; simp; omega)))
          go_wp2
          go_ret
          exact ⟨by rw [HE.out]; rfl,rfl⟩
        · have k3' : ¬ ((20 : Int) < (klen : Int)) := by omega
          by_cases k4 : 20 < name.size
          · have k4' : (20 : Int) < (name.size : Int) := by omega
            have HE := Lib.hid (HN.out (.inr (by rw [HF.out]; simp; omega)))
            go_wp2
            go_ret
            exact ⟨by rw [HE.out]; rfl,rfl⟩
          · have k4' : ¬ ((20 : Int) < (name.size : Int)) := by omega
            by_cases k5 : 20 < to_.size
            · have k5' : (20 : Int) < (to_.size : Int) := by omega
              have HE := Lib.hid (HN.out (.inr (by rw [HF.out]; simp; omega)))
              go_wp2
              go_ret
              exact ⟨by rw [HE.out]; rfl,rfl⟩
            · have k5' : ¬ ((20 : Int) < (to_.size : Int)) := by omega
              have HG := Lib.hid (HS.out (by omega) (by rw [HFT.out,HF.out]; simp; omega))
              go_wp2
              go_round
              case rel => exact ⟨k + 1,by omega,by go_num,⟨HG.out⟩⟩
              case measure => simp [intOf]; omega
  · obtain rfl : k = len := by omega
    have HE := Lib.hid (HY.out HK.out)
    clear h
    go_wp2
    go_ret
    exact ⟨by rw [HE.out]; rfl,rfl⟩
end Go.Proofs.YtmeoooojmhhahaaGreat
