/- OctetsBack: what was put is taken as it was, and nothing is left. For every input. -/
import Derived.Test.YtjmcbnoofonanaaOctAwake
import Derived.Test.YtjmcbnoofonanaaOctMath
import Derived.Test.YtjmcbnoofonanaaOctArgs
import Derived.Test.YtjmcbnoofonanaaLawEnd
import Derived.Test.YtjmcbnoofonanaaArgs
import Derived.ChangeMaps5
import Derived.Deep.LoopGhost
import Derived.Deep.RegionHeld3
import Derived.Deep.RegionWith
import Derived.BigQuiet
namespace Go.Proofs.Ytjmcbnoofonanaa.octetsBack
open Go.ChangeShapes Go.WideShapes Go.ChangeAt Go.RowKit Go.Proofs.Ytjmcbnoofonanaa
set_option linter.unusedVariables false
set_option linter.unusedSimpArgs false

/-- What is put of an item. -/
def chunk (K N : Nat → Int) (S : Nat → ByteArray) (j : Nat) : List UInt8 := if K j = 2 then [] else itemOf (K j) (N j) (S j)

def upto (K N : Nat → Int) (S : Nat → ByteArray) (j : Nat) : List UInt8 := (List.range j).flatMap (chunk K N S)

def tail (K N : Nat → Int) (S : Nat → ByteArray) (len j : Nat) : List UInt8 := ((List.range len).drop j).flatMap (chunk K N S)

theorem upto_succ (K N : Nat → Int) (S : Nat → ByteArray) (j : Nat) : upto K N S (j + 1) = upto K N S j ++ chunk K N S j := by
  simp [upto, List.range_succ]

theorem tail_succ (K N : Nat → Int) (S : Nat → ByteArray) (len j : Nat) (h : j < len) : tail K N S len j = chunk K N S j ++ tail K N S len (j + 1) := by
  unfold tail
  rw [List.drop_eq_getElem_cons (by simpa using h)]
  simp

theorem tail_end (K N : Nat → Int) (S : Nat → ByteArray) (len : Nat) : tail K N S len len = [] := by
  unfold tail
  rw [List.drop_of_length_le (by simp)]
  rfl

theorem itemOf_len (k n : Int) (s : ByteArray) (h : s.size ≤ 500) : (itemOf k n s).length ≤ 504 := by
  unfold itemOf
  split
  · simp
  · split
    · simp
    · split
      · simp
      · split
        · simp
        · simp [textOf]; omega

theorem upto_len (K N : Nat → Int) (S : Nat → ByteArray) (j : Nat) (h : ∀ i, i < j → (S i).size ≤ 500) : (upto K N S j).length ≤ 504 * j := by
  induction j with
  | zero => simp [upto]
  | succ j ih =>
    rw [upto_succ, List.length_append]
    have := ih fun i hi => h i (by omega)
    have h2 : (chunk K N S j).length ≤ 504 := by
      unfold chunk
      split
      · simp
      · exact itemOf_len _ _ _ (h j (by omega))
    omega

theorem numberN_one (b : UInt8) (r : List UInt8) : numberN (some (b :: r)) 1 = (b.toNat, some r) := by
  simp [numberN, takeN, num]

theorem flagN_one (b : Bool) (r : List UInt8) : flagN (some ((if b then 1 else 0) :: r)) = (b, some r) := by
  unfold flagN
  rw [numberN_one]
  cases b <;> rfl

theorem num_back (n : Int) (h : -9223372036854775808 ≤ n ∧ n ≤ 9223372036854775807) (r : List UInt8) : numberN (some (wide (IntKind.u64.wrap n).toNat 8 ++ r)) 8 = ((IntKind.u64.wrap n).toNat, some r) ∧ IntKind.i64.wrap ((IntKind.u64.wrap n).toNat : Int) = n := by
  have hu := u64_wrap n
  refine ⟨?_, ?_⟩
  · rw [numberN_wide, Nat.mod_eq_of_lt (by omega)]
  · rw [Int.toNat_of_nonneg hu.1, IntKind.wrap_u64, IntKind.wrap_i64]
    omega

theorem string_back (s : ByteArray) : (⟨s.data.toList.toArray⟩ : ByteArray) = s := by simp

section
variable {W : World} {i : Nat} {Z : Nat → Prop}

theorem byte_one {b : UInt8} {r : List UInt8} (h : In W i (some (b :: r)) Z) {z : Int} (hz : (b.toNat : Int) = z) :
    Calls Try.prog 18 #[.pointer (some ⟨i, 0, none⟩)] W fun e w' => e = .returned (.int .u8 z) ∧ In w' i (some r) Z ∧ Keeps Z W w' := by
  have := byteIn_any W i _ Z h
  rw [numberN_one] at this
  subst hz
  exact this

theorem flag_one (b : Bool) {r : List UInt8} (h : In W i (some ((if b then 1 else 0) :: r)) Z) :
    Calls Try.prog 19 #[.pointer (some ⟨i, 0, none⟩)] W fun e w' => e = .returned (.bool b) ∧ In w' i (some r) Z ∧ Keeps Z W w' := by
  have := flagIn_any W i _ Z h
  rw [flagN_one] at this
  exact this

theorem num_one {n : Int} (hn : -9223372036854775808 ≤ n ∧ n ≤ 9223372036854775807) {r : List UInt8} (h : In W i (some (wide (IntKind.u64.wrap n).toNat 8 ++ r)) Z) :
    Calls Try.prog 20 #[.pointer (some ⟨i, 0, none⟩)] W fun e w' => e = .returned (.int .i64 n) ∧ In w' i (some r) Z ∧ Keeps Z W w' := by
  have := numIn_any W i _ Z h
  rw [(num_back n hn r).1] at this
  simp only at this
  rw [(num_back n hn r).2] at this
  exact this

theorem text_one {s : ByteArray} (hs : s.size ≤ 500) {r : List UInt8} (hr : r.length ≤ 60000) (h : In W i (some (textOf s.data.toList ++ r)) Z) :
    Calls Try.prog 21 #[.pointer (some ⟨i, 0, none⟩), .int .i64 (s.size : Int)] W fun e w' => e = .returned (.string s) ∧ In w' i (some r) Z ∧ Keeps Z W w' := by
  have hsz : s.data.toList.length = s.size := by simp
  have := textIn_any (s.size : Int) (by omega) W i _ Z h (by simp [left, textOf]; omega)
  rw [textN_full _ _ _ (by omega) (by omega)] at this
  simp only at this
  rw [string_back] at this
  exact this

theorem bytes_one {s : ByteArray} (hs : s.size ≤ 500) {r : List UInt8} (hr : r.length ≤ 60000) (h : In W i (some (textOf s.data.toList ++ r)) Z) :
    Calls Try.prog 22 #[.pointer (some ⟨i, 0, none⟩), .int .i64 500] W fun e w' => ∃ A len cap, e = .returned (.slice A len cap) ∧ (convert 24 9 (.slice A len cap)).run Try.prog w' = .ok (.string s) w' ∧ Lies w' A len cap s.data.toList ∧ In w' i (some r) Z ∧ Keeps Z W w' := by
  have hsz : s.data.toList.length = s.size := by simp
  have := bytesIn_any 500 (by omega) W i _ Z h (by simp [left, textOf]; omega)
  rw [textN_full _ _ _ (by omega) (by omega)] at this
  refine this.mono ?_
  rintro e w' ⟨A, len, cap, rfl, hl, _, h1, h2⟩
  have ht := hl.text Try.underlying24 Try.underlying5 Try.underlying9
  simp only at ht
  rw [string_back] at ht
  exact ⟨A, len, cap, rfl, ht, hl, h1, h2⟩
end

theorem tail_le (K N : Nat → Int) (S : Nat → ByteArray) (len j : Nat) (h : j < len) : (tail K N S len (j + 1)).length ≤ (tail K N S len j).length := by
  rw [tail_succ K N S len j h, List.length_append]
  omega


set_option maxRecDepth 100000 in
set_option maxHeartbeats 6400000 in
theorem walk (A : Option Addr) (len cap : Nat) (K N : Nat → Int) (S : Nat → ByteArray) (w : World) (h1 : Items w A len K N S) (hlc : len ≤ cap) (hm : cap ≤ maxLen) :
    Calls Try.prog 5 #[.slice A len cap] w fun e w' => e = .returned (.bool true) ∧ Below w.heap.size w w' := by
  clear hm
  by_cases hl : len ≤ 100
  · have hl' : ¬ ((100 : Int) < (len : Int)) := by omega
    have lb : (len : Int) ≤ 100 := by omega
    obtain ⟨hwf, h1⟩ := h1
    go_enter Try.func5, Try.ntmps5
    go_wp2_with (go_at_call 8; refine (awake_any _).mono ?_; rintro e w1 ⟨rfl, hb1⟩)
    have ho0 := out_new w1 (· < w.heap.size) (fun k hk => Nat.lt_of_lt_of_le hk hb1.size)
    have hb2 := hb1.alloc hb1.size (.cells #[.slice none 0 0, .bool false] 26)
    generalize hW : w1.alloc (.cells #[.slice none 0 0, .bool false] 26) = W at ho0 hb2 ⊢
    have hs1 := hb1.size
    generalize w1.heap.size = o at ho0 hs1 ⊢
    clear hW hb1
    go_loopg [21] len (fun g x wr => ∃ j : Nat, x = .int .i64 (j : Int) ∧ j + g = len ∧ (∀ i, i < j → (S i).size ≤ 500) ∧ Out wr o (upto K N S j) (· < w.heap.size) ∧ Below w.heap.size w wr)
    case atStart => exact ⟨0, rfl, by omega, fun i hi => absurd hi (by omega), ho0, hb2⟩
    case round =>
      clear ho0 hb2
      obtain ⟨j, rfl, hj, hsm, ho, hb⟩ := hrel
      by_cases hlt : j < len
      · have hlt' : (j : Int) < (len : Int) := by omega
        obtain ⟨b, off, rfl, hbl, hc⟩ := h1 (by omega)
        obtain ⟨c0, c1, c2⟩ := hc j hlt
        have f0 : wr.cell? ⟨b, off + j * 3, none⟩ = some (.int .u8 (K j)) := (hb.cell (p := ⟨b, off + j * 3, none⟩) hbl).trans c0
        have f1 : wr.cell? ⟨b, off + j * 3 + 1, none⟩ = some (.int .i64 (N j)) := (hb.cell (p := ⟨b, off + j * 3 + 1, none⟩) hbl).trans c1
        have f2 : wr.cell? ⟨b, off + j * 3 + 2, none⟩ = some (.string (S j)) := (hb.cell (p := ⟨b, off + j * 3 + 2, none⟩) hbl).trans c2
        clear h1 hc c0 c1 c2 hwf
        by_cases hbig : 500 < (S j).size
        · have hbig' : (500 : Int) < ((S j).size : Int) := by omega
          clear ho hsm
          go_wp2
          go_ret
          exact ⟨rfl, hb⟩
        · have hbig' : ¬ ((500 : Int) < ((S j).size : Int)) := by omega
          have hsm' : Hid (∀ i, i < j + 1 → (S i).size ≤ 500) := ⟨fun i hi => by
            rcases Nat.lt_or_ge i j with h | h
            · exact hsm i h
            · obtain rfl : i = j := by omega
              omega⟩
          have hus := upto_succ K N S j
          clear hsm
          by_cases hk : K j = 2
          · have hch : chunk K N S j = [] := by unfold chunk; rw [if_pos hk]
            rw [hch, List.append_nil] at hus
            rw [hk] at f0
            rw [← hus] at ho
            clear hus hch
            go_wp2
            go_roundg (gk - 1)
            case measure => omega
            case rel => exact ⟨j + 1, by go_num, by omega, hsm'.out, ho, hb⟩
          · have hch : chunk K N S j = itemOf (K j) (N j) (S j) := by unfold chunk; rw [if_neg hk]
            have hP := put_any (K j) (N j) (S j) (by omega) wr o _ _ ho (fun k hk => Nat.lt_of_lt_of_le hk hb.size)
            rw [← hch, ← hus] at hP
            clear hus hch ho
            obtain ⟨U, hU⟩ : ∃ U, Hid (upto K N S (j + 1) = U) := ⟨_, ⟨rfl⟩⟩
            rw [hU.out] at hP
            generalize K j = kk at *
            generalize N j = nn at *
            generalize S j = ss at *
            go_wp2_with (go_at_call 9; refine hP.mono ?_; rintro e w3 ⟨rfl, ho3, k3⟩; have hb3 := below_keeps hb k3 (fun i hi => hi) hb.size)
            go_roundg (gk - 1)
            case measure => omega
            case rel => exact ⟨j + 1, by go_num, by omega, hsm'.out, by rw [hU.out]; exact ho3, hb3⟩
      · obtain rfl : j = len := by omega
        have hdec : decide ((j : Int) < (j : Int)) = false := decide_eq_false (by omega)
        have hul := upto_len K N S j hsm
        have hE := end_fits _ _ _ _ ho (by omega)
        rw [show upto K N S j = tail K N S j 0 from rfl] at hul hE
        have HS : Hid (∀ i, i < j → (S i).size ≤ 500) := ⟨hsm⟩
        clear hsm ho
        go_wp2_with (first
          | (go_at_call 11; refine hE.mono ?_; rintro e w3 ⟨A3, cap3, rfl, hl3, _, hb3⟩)
          | (go_at_call 12; refine (newIn_any A3 _ cap3 _ _ (· < w.heap.size) (fun k hk => Nat.lt_of_lt_of_le hk (Nat.le_trans hb.size hb3.size)) hl3 (by omega)).mono ?_; rintro e w4 ⟨i, rfl, h4, hb4⟩))
        have hb5 : Below w.heap.size w w4 := hb.trans ((hb3.trans (hb4.mono hb3.size)).mono hb.size)
        have hul2 : (tail K N S j 0).length ≤ 60000 := by omega
        clear hb hb3 hb4 hl3 hE hul
        obtain ⟨w0, rfl⟩ : ∃ w0, w0 = wr := ⟨_, rfl⟩
        go_loopg [51] j (fun g x wr => ∃ m : Nat, x = .int .i64 (m : Int) ∧ m + g = j ∧ (tail K N S j m).length ≤ 60000 ∧ In wr i (some (tail K N S j m)) (· < w.heap.size) ∧ Below w.heap.size w wr)
        case atStart => exact ⟨0, rfl, by omega, hul2, h4, hb5⟩
        case round =>
          clear h4 hb5
          obtain ⟨m, rfl, hm, htl, hi, hb⟩ := hrel
          by_cases hlt : m < j
          · have hlt' : (m : Int) < (j : Int) := by omega
            obtain ⟨b, off, rfl, hbl, hc⟩ := h1 (by omega)
            obtain ⟨c0, c1, c2⟩ := hc m hlt
            obtain ⟨_, hn1, hn2, _⟩ := hwf m hlt
            have hss := HS.out m hlt
            have f0 : wr.cell? ⟨b, off + m * 3, none⟩ = some (.int .u8 (K m)) := (hb.cell (p := ⟨b, off + m * 3, none⟩) hbl).trans c0
            have f1 : wr.cell? ⟨b, off + m * 3 + 1, none⟩ = some (.int .i64 (N m)) := (hb.cell (p := ⟨b, off + m * 3 + 1, none⟩) hbl).trans c1
            have f2 : wr.cell? ⟨b, off + m * 3 + 2, none⟩ = some (.string (S m)) := (hb.cell (p := ⟨b, off + m * 3 + 2, none⟩) hbl).trans c2
            clear h1 hc c0 c1 c2 hwf
            have htl2 := Nat.le_trans (tail_le K N S j m hlt) htl
            rw [tail_succ K N S j m hlt] at hi
            obtain ⟨T, hT⟩ : ∃ T, Hid (tail K N S j (m + 1) = T) := ⟨_, ⟨rfl⟩⟩
            have hTl : T.length ≤ 60000 := hT.out ▸ htl2
            clear htl2 htl
            rw [hT.out] at hi
            unfold chunk at hi
            generalize K m = kk at *
            generalize N m = nn at *
            generalize S m = ss at *
            by_cases k0 : kk = 0
            · subst k0
              rw [if_neg (by omega)] at hi
              have hi : In wr i (some (UInt8.ofNat (nn % 256).toNat :: T)) (· < w.heap.size) := hi
              have hz : Hid (((UInt8.ofNat (nn % 256).toNat).toNat : Int) = IntKind.u8.wrap nn) := ⟨by simp [IntKind.wrap, IntKind.bits, IntKind.signed]; omega⟩
              have hiX : In (wr.alloc (.cells #[.int .u8 0, .int .i64 nn, .string ss] 28)) i (some (UInt8.ofNat (nn % 256).toNat :: T)) (fun k => k < w.heap.size ∨ k = wr.heap.size) := (hi.out (fun k hk => hk.imp id (fun e => Nat.le_of_eq e.symm))).below ((Below.refl wr.heap.size wr).alloc (Nat.le_refl _) _) (Nat.le_refl _)
              have hbX : Below w.heap.size w (wr.alloc (.cells #[.int .u8 0, .int .i64 nn, .string ss] 28)) := hb.alloc hb.size _
              clear hi hb
              go_wp2
              clear f0 f1 f2
              have x1 : (wr.alloc (.cells #[.int .u8 0, .int .i64 nn, .string ss] 28)).cell? ⟨wr.heap.size, 1, none⟩ = some (.int .i64 nn) := by simp [go_sem]
              generalize (wr.alloc (.cells #[.int .u8 0, .int .i64 nn, .string ss] 28)) = Y at hiX hbX x1 ⊢
              generalize wr.heap.size = q at hiX x1 ⊢
              go_region_held3 (fun w' => w'.cell? ⟨q, 1, none⟩ = some (.int .i64 nn))
                (first | (go_keep; done) | exact f7)
                ((go_at_call 18
                  refine (byte_one (z := IntKind.u8.wrap nn) (b := UInt8.ofNat (nn % 256).toNat) (hiX.below ((Below.refl Y.heap.size Y).drew) (Nat.le_refl _)) hz.out).mono ?_
                  rintro e w7 ⟨rfl, h7, k7⟩
                  have hb7 := below_keeps hbX.drew k7 (fun i hi => .inl hi) hbX.size
                  have f7 : w7.cell? ⟨q, 1, none⟩ = some (.int .i64 nn) := k7.cell (w := Y.drew) x1 (.inr rfl)))
              go_wp2
              go_roundg (gk - 1)
              case measure => omega
              case rel => exact ⟨m + 1, by go_num, by omega, by rw [hT.out]; exact hTl, by rw [hT.out]; exact h7.out (fun k hk => .inl (.inl hk)), hb7⟩
            by_cases k1 : kk = 1
            · subst k1
              rw [if_neg (by omega)] at hi
              have hi : In wr i (some ((if nn.tmod 2 = 0 then 0 else 1) :: T)) (· < w.heap.size) := hi
              by_cases hodd : nn.tmod 2 = 0
              · rw [if_pos hodd] at hi
                have hiX : In (wr.alloc (.cells #[.int .u8 1, .int .i64 nn, .string ss] 28)) i (some ((if false then 1 else 0) :: T)) (fun k => k < w.heap.size ∨ k = wr.heap.size) := (hi.out (fun k hk => hk.imp id (fun e => Nat.le_of_eq e.symm))).below ((Below.refl wr.heap.size wr).alloc (Nat.le_refl _) _) (Nat.le_refl _)
                have hbX : Below w.heap.size w (wr.alloc (.cells #[.int .u8 1, .int .i64 nn, .string ss] 28)) := hb.alloc hb.size _
                clear hi hb
                go_wp2
                clear f0 f1 f2
                have x1 : (wr.alloc (.cells #[.int .u8 1, .int .i64 nn, .string ss] 28)).cell? ⟨wr.heap.size, 1, none⟩ = some (.int .i64 nn) := by simp [go_sem]
                generalize (wr.alloc (.cells #[.int .u8 1, .int .i64 nn, .string ss] 28)) = Y at hiX hbX x1 ⊢
                generalize wr.heap.size = q at hiX x1 ⊢
                go_region_held3 (fun w' => w'.cell? ⟨q, 1, none⟩ = some (.int .i64 nn))
                  (first | (go_keep; done) | exact f7)
                  ((go_at_call 19
                    refine (flag_one false (hiX.below ((Below.refl Y.heap.size Y).drew) (Nat.le_refl _))).mono ?_
                    rintro e w7 ⟨rfl, h7, k7⟩
                    have hb7 := below_keeps hbX.drew k7 (fun i hi => .inl hi) hbX.size
                    have f7 : w7.cell? ⟨q, 1, none⟩ = some (.int .i64 nn) := k7.cell (w := Y.drew) x1 (.inr rfl)))
                go_wp2
                go_roundg (gk - 1)
                case measure => omega
                case rel => exact ⟨m + 1, by go_num, by omega, by rw [hT.out]; exact hTl, by rw [hT.out]; exact h7.out (fun k hk => .inl (.inl hk)), hb7⟩
              · rw [if_neg hodd] at hi
                have hne : (nn.tmod 2 != 0) = true := by simp [hodd]
                have hiX : In (wr.alloc (.cells #[.int .u8 1, .int .i64 nn, .string ss] 28)) i (some ((if true then 1 else 0) :: T)) (fun k => k < w.heap.size ∨ k = wr.heap.size) := (hi.out (fun k hk => hk.imp id (fun e => Nat.le_of_eq e.symm))).below ((Below.refl wr.heap.size wr).alloc (Nat.le_refl _) _) (Nat.le_refl _)
                have hbX : Below w.heap.size w (wr.alloc (.cells #[.int .u8 1, .int .i64 nn, .string ss] 28)) := hb.alloc hb.size _
                clear hi hb
                go_wp2
                clear f0 f1 f2
                have x1 : (wr.alloc (.cells #[.int .u8 1, .int .i64 nn, .string ss] 28)).cell? ⟨wr.heap.size, 1, none⟩ = some (.int .i64 nn) := by simp [go_sem]
                generalize (wr.alloc (.cells #[.int .u8 1, .int .i64 nn, .string ss] 28)) = Y at hiX hbX x1 ⊢
                generalize wr.heap.size = q at hiX x1 ⊢
                go_region_held3 (fun w' => w'.cell? ⟨q, 1, none⟩ = some (.int .i64 nn))
                  (first | (go_keep; done) | exact f7)
                  ((go_at_call 19
                    refine (flag_one true (hiX.below ((Below.refl Y.heap.size Y).drew) (Nat.le_refl _))).mono ?_
                    rintro e w7 ⟨rfl, h7, k7⟩
                    have hb7 := below_keeps hbX.drew k7 (fun i hi => .inl hi) hbX.size
                    have f7 : w7.cell? ⟨q, 1, none⟩ = some (.int .i64 nn) := k7.cell (w := Y.drew) x1 (.inr rfl)))
                go_wp2
                go_roundg (gk - 1)
                case measure => omega
                case rel => exact ⟨m + 1, by go_num, by omega, by rw [hT.out]; exact hTl, by rw [hT.out]; exact h7.out (fun k hk => .inl (.inl hk)), hb7⟩
            by_cases k2 : kk = 2
            · subst k2
              rw [if_pos rfl] at hi
              have hi : In wr i (some T) (· < w.heap.size) := hi
              have hiX := hi.below ((Below.refl wr.heap.size wr).alloc (Nat.le_refl _) (.cells #[.int .u8 2, .int .i64 nn, .string ss] 28)) (Nat.le_refl _)
              have hbX := hb.alloc hb.size (.cells #[.int .u8 2, .int .i64 nn, .string ss] 28)
              clear hi hb
              go_wp2
              go_roundg (gk - 1)
              case measure => omega
              case rel => exact ⟨m + 1, by go_num, by omega, by rw [hT.out]; exact hTl, by rw [hT.out]; exact hiX, hbX⟩
            rw [if_neg k2] at hi
            by_cases k3 : kk = 3
            · subst k3
              have hi : In wr i (some (wide (IntKind.u64.wrap nn).toNat 8 ++ T)) (· < w.heap.size) := hi
              have hiX : In (wr.alloc (.cells #[.int .u8 3, .int .i64 nn, .string ss] 28)) i (some (wide (IntKind.u64.wrap nn).toNat 8 ++ T)) (fun k => k < w.heap.size ∨ k = wr.heap.size) := (hi.out (fun k hk => hk.imp id (fun e => Nat.le_of_eq e.symm))).below ((Below.refl wr.heap.size wr).alloc (Nat.le_refl _) _) (Nat.le_refl _)
              have hbX : Below w.heap.size w (wr.alloc (.cells #[.int .u8 3, .int .i64 nn, .string ss] 28)) := hb.alloc hb.size _
              clear hi hb
              go_wp2
              clear f0 f1 f2
              have x1 : (wr.alloc (.cells #[.int .u8 3, .int .i64 nn, .string ss] 28)).cell? ⟨wr.heap.size, 1, none⟩ = some (.int .i64 nn) := by simp [go_sem]
              generalize (wr.alloc (.cells #[.int .u8 3, .int .i64 nn, .string ss] 28)) = Y at hiX hbX x1 ⊢
              generalize wr.heap.size = q at hiX x1 ⊢
              go_region_held3 (fun w' => w'.cell? ⟨q, 1, none⟩ = some (.int .i64 nn))
                (first | (go_keep; done) | exact f7)
                ((go_at_call 20
                  refine (num_one ⟨hn1, hn2⟩ (hiX.below ((Below.refl Y.heap.size Y).drew) (Nat.le_refl _))).mono ?_
                  rintro e w7 ⟨rfl, h7, k7⟩
                  have hb7 := below_keeps hbX.drew k7 (fun i hi => .inl hi) hbX.size
                  have f7 : w7.cell? ⟨q, 1, none⟩ = some (.int .i64 nn) := k7.cell (w := Y.drew) x1 (.inr rfl)))
              go_wp2
              go_roundg (gk - 1)
              case measure => omega
              case rel => exact ⟨m + 1, by go_num, by omega, by rw [hT.out]; exact hTl, by rw [hT.out]; exact h7.out (fun k hk => .inl (.inl hk)), hb7⟩
            have hi : In wr i (some (textOf ss.data.toList ++ T)) (· < w.heap.size) := by
              unfold itemOf at hi
              rwa [if_neg k0, if_neg k1, if_neg k2, if_neg k3] at hi
            by_cases k4 : kk = 4
            · subst k4
              have hiX : In (wr.alloc (.cells #[.int .u8 4, .int .i64 nn, .string ss] 28)) i (some (textOf ss.data.toList ++ T)) (fun k => k < w.heap.size ∨ k = wr.heap.size) := (hi.out (fun k hk => hk.imp id (fun e => Nat.le_of_eq e.symm))).below ((Below.refl wr.heap.size wr).alloc (Nat.le_refl _) _) (Nat.le_refl _)
              have hbX : Below w.heap.size w (wr.alloc (.cells #[.int .u8 4, .int .i64 nn, .string ss] 28)) := hb.alloc hb.size _
              clear hi hb
              go_wp2
              clear f0 f1 f2
              have x1 : (wr.alloc (.cells #[.int .u8 4, .int .i64 nn, .string ss] 28)).cell? ⟨wr.heap.size, 2, none⟩ = some (.string ss) := by simp [go_sem]
              generalize (wr.alloc (.cells #[.int .u8 4, .int .i64 nn, .string ss] 28)) = Y at hiX hbX x1 ⊢
              generalize wr.heap.size = q at hiX x1 ⊢
              go_region_held3 (fun w' => w'.cell? ⟨q, 2, none⟩ = some (.string ss))
                (first | (go_keep; done) | exact f7)
                ((go_at_call 21
                  refine (text_one hss hTl (hiX.below ((Below.refl Y.heap.size Y).drew) (Nat.le_refl _))).mono ?_
                  rintro e w7 ⟨rfl, h7, k7⟩
                  have hb7 := below_keeps hbX.drew k7 (fun i hi => .inl hi) hbX.size
                  have f7 : w7.cell? ⟨q, 2, none⟩ = some (.string ss) := k7.cell (w := Y.drew) x1 (.inr rfl)))
              go_wp2
              go_roundg (gk - 1)
              case measure => omega
              case rel => exact ⟨m + 1, by go_num, by omega, by rw [hT.out]; exact hTl, by rw [hT.out]; exact h7.out (fun k hk => .inl (.inl hk)), hb7⟩
            · skip
              have hiX : In (wr.alloc (.cells #[.int .u8 kk, .int .i64 nn, .string ss] 28)) i (some (textOf ss.data.toList ++ T)) (fun k => k < w.heap.size ∨ k = wr.heap.size) := (hi.out (fun k hk => hk.imp id (fun e => Nat.le_of_eq e.symm))).below ((Below.refl wr.heap.size wr).alloc (Nat.le_refl _) _) (Nat.le_refl _)
              have hbX : Below w.heap.size w (wr.alloc (.cells #[.int .u8 kk, .int .i64 nn, .string ss] 28)) := hb.alloc hb.size _
              clear hi hb
              go_wp2
              clear f0 f1 f2
              have x1 : (wr.alloc (.cells #[.int .u8 kk, .int .i64 nn, .string ss] 28)).cell? ⟨wr.heap.size, 2, none⟩ = some (.string ss) := by simp [go_sem]
              generalize (wr.alloc (.cells #[.int .u8 kk, .int .i64 nn, .string ss] 28)) = Y at hiX hbX x1 ⊢
              generalize wr.heap.size = q at hiX x1 ⊢
              go_region_with (go_at_call 22; refine (bytes_one hss hTl (hiX.below ((Below.refl Y.heap.size Y).drew) (Nat.le_refl _))).mono ?_; rintro e w7 ⟨A7, len7, cap7, rfl, ht7, _, h7, k7⟩; have hb7 := below_keeps hbX.drew k7 (fun i hi => .inl hi) hbX.size; have f7 : w7.cell? ⟨q, 2, none⟩ = some (.string ss) := k7.cell (w := Y.drew) x1 (.inr rfl))
              all_goals
               go_wp2
               go_roundg (gk - 1)
               case measure => omega
               case rel => exact ⟨m + 1, by go_num, by omega, by rw [hT.out]; exact hTl, by rw [hT.out]; exact h7.out (fun k hk => .inl (.inl hk)), hb7⟩
          · obtain rfl : m = j := by omega
            have hdec : decide ((m : Int) < (m : Int)) = false := decide_eq_false (by omega)
            rw [tail_end] at hi
            clear h1 hwf
            go_wp2_with (go_at_call 16; refine (done_any _ _ _ _ hi).mono ?_; rintro e w7 ⟨rfl, rfl⟩)
            go_ret
            exact ⟨rfl, hb⟩
  · have hl' : ((100 : Int) < (len : Int)) := by omega
    clear h1
    go_enter Try.func5, Try.ntmps5
    go_wp2_with fail
    refine (awake_any _).mono ?_
    rintro e w1 ⟨rfl, hb1⟩
    go_wp2_with fail
    refine (awake_any _).mono ?_
    rintro e w2 ⟨rfl, hb2⟩
    go_wp2
    go_ret
    exact ⟨rfl, hb1.trans (hb2.mono hb1.size)⟩

theorem own : ownKnob Try.prog.godebug = none := by kernel_rfl

set_option maxRecDepth 100000 in
theorem lifted (os : Os) (started : os.Started) (H : Type) (enc : TypeId × Value → H) :
    ReturnsInHanded {} Try.checked os 5 .any (Rows.octetsBackSpec.pre6 enc Try.prog Try.f5 Rows.octetsBackRow.domain false) (Rows.octetsBackSpec.post enc Try.prog Try.f5 false true false false) := by
  refine returnsInHanded_of_change (C := Try.checked) own started (by kernel_rfl) Try.func5
    (ChangeSpec.witness6 (enc := enc) (C := Try.checked) false ⟨#[], #[.slice none 0 0], []⟩ 8 (by kernel_rfl) (by kernel_rfl) (by kernel_rfl) (by kernel_rfl)) ?_
  intro W base args ds gs before hval0 hW hcnd _
  have hval : ∀ (j : Nat) t v, Try.f5.params[j]? = some t → args[j]? = some v → Value.okWide Try.prog W .any base t v := hval0
  have hW' := hW
  obtain ⟨p, q, hA0, hV, rfl, hfz, hnd⟩ := hW
  have hA : DataW.TrodAll enc Try.prog W 0 (fun _ => true) true Try.f5.params.toList args.toList ds p := hA0
  rw [Try.params5] at hA hval
  obtain ⟨v0, vs0, d0, ds0, p0, q0, hargs, rfl, rfl, h0, r0⟩ := trodAll_cons hA
  obtain ⟨rfl, rfl, rfl⟩ := trodAll_nil r0
  obtain rfl : args = #[v0] := by cases args; simp_all
  obtain ⟨rfl, rfl⟩ := trodVars_none hV
  obtain ⟨A0, len0, cap0, K0, N0, S0, rfl, hlc0, hm0, hrow0⟩ := arg_items (hval 0 22 v0 rfl rfl) h0 (fun x hx => hW'.lt x (by simp [hx]))
  have fin : ∀ W', Below W.heap.size W W' → Rows.octetsBackSpec.post enc Try.prog Try.f5 false true false false W #[.slice A0 len0 cap0] (.bool true) W' :=
    fun W' hb => law_end (by kernel_rfl) (by decide +kernel) rfl rfl Try.underlying4 hW' rfl rfl rfl hb
  exact (walk A0 len0 cap0 K0 N0 S0 W hrow0 hlc0 hm0).mono fun e W' ⟨he, hb⟩ => ⟨_, he, fin W' hb⟩

theorem over : Rows.octetsBackRow.holds Try.pinned (OpenSpec.ofChange Rows.octetsBackSpec) :=
  OpenClaim.holds_of_wide 5 Try.f5 rfl rfl rfl rfl rfl rfl rfl ⟨rfl, rfl, rfl, rfl, rfl⟩ rfl rfl rfl rfl rfl (by kernel_rfl) Try.func5 (by kernel_rfl)
    (of_decide_eq_true (by kernel_rfl)) (by unfold Func.isWrapper; first | (rw [if_pos (by decide +kernel)]; kernel_rfl) | (rw [if_neg (by decide +kernel)]; exact ⟨rfl, rfl⟩))
    (fun os started H enc _ => lifted os started H enc)

theorem proved : Rows.OctetsBackSaid := over


end Go.Proofs.Ytjmcbnoofonanaa.octetsBack
