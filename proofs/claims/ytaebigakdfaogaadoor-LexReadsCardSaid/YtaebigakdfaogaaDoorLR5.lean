/- The document's lexer: sign. -/
import Derived.Test.YtaebigakdfaogaaDoorLR2
namespace Go.Proofs.YtaebigakdfaogaaDoor
open Go.RowKit
def twoL (j : Nat) : List UInt8 := ([[61, 62], [45, 62], [60, 58], [43, 43], [61, 61]] : List (List UInt8)).getD j []
def oneL : ByteArray := { data := #[40, 41, 123, 125, 91, 93, 44, 58, 46, 61, 63, 43, 45, 42, 47, 60] }
theorem twoB_iff (l : List UInt8) : twoB l = true ↔ ∃ j, j < 5 ∧ (l.take 2 == twoL j) = true := by
  unfold twoB
  constructor
  · intro h
    simp only [Bool.or_eq_true] at h
    rcases h with h | h | h | h | h
    · exact ⟨0, by omega, h⟩
    · exact ⟨1, by omega, h⟩
    · exact ⟨2, by omega, h⟩
    · exact ⟨3, by omega, h⟩
    · exact ⟨4, by omega, h⟩
  · rintro ⟨j, hj, h⟩
    have : j = 0 ∨ j = 1 ∨ j = 2 ∨ j = 3 ∨ j = 4 := by omega
    rcases this with rfl | rfl | rfl | rfl | rfl
    all_goals
      have h' := h
      simp only [twoL, List.getD_cons_zero, List.getD_cons_succ] at h'
      simp [h']
theorem oneB_iff (c : Int) : oneB c = true ↔ ∃ j, ∃ h : j < 16, (c == ((oneL[j]'h).toNat : Int)) = true := by
  constructor
  · intro h
    unfold oneB at h
    simp only [Bool.or_eq_true, beq_iff_eq] at h
    rcases h with h | h | h | h | h | h | h | h | h | h | h | h | h | h | h | h
    all_goals subst h
    · exact ⟨0, by omega, by decide⟩
    · exact ⟨1, by omega, by decide⟩
    · exact ⟨2, by omega, by decide⟩
    · exact ⟨3, by omega, by decide⟩
    · exact ⟨4, by omega, by decide⟩
    · exact ⟨5, by omega, by decide⟩
    · exact ⟨6, by omega, by decide⟩
    · exact ⟨7, by omega, by decide⟩
    · exact ⟨8, by omega, by decide⟩
    · exact ⟨9, by omega, by decide⟩
    · exact ⟨10, by omega, by decide⟩
    · exact ⟨11, by omega, by decide⟩
    · exact ⟨12, by omega, by decide⟩
    · exact ⟨13, by omega, by decide⟩
    · exact ⟨14, by omega, by decide⟩
    · exact ⟨15, by omega, by decide⟩
  · rintro ⟨j, hj, h⟩
    have hc : c = ((oneL[j]'hj).toNat : Int) := by simpa using h
    rw [hc]
    have hall : ∀ m : Fin 16, oneB ((oneL[m.val]'m.isLt).toNat : Int) = true := by decide
    exact hall ⟨j, hj⟩
theorem sign_tok {l : List UInt8} {n : Nat} (h : sgnW l = (n : Int)) (hn : 1 ≤ n) : signI l = .tok 5 0 (l.take n) n := by
  unfold signI
  rw [h, if_neg (by simp only [beq_iff_eq]; omega), Int.toNat_natCast]
theorem ext2_list (s : ByteArray) (p : Nat) : (s.extract p (p + 2)).toList = (rest s p).take 2 := by
  rw [ByteArray.toList_eq, ext_eq]; rfl
theorem below_drewN {B : Nat} {a w : World} (h : Below B a w) (n : Nat) : Below B a (w.drewN n) := ⟨h.os, h.tape, h.output, h.size, h.block⟩
theorem conv_one (b : UInt8) (w : World) : (convert 38 9 (.slice (some ⟨w.heap.size, 0, none⟩) 1 1)).run Tryd.prog (w.alloc (.cells #[.int .u8 (b.toNat : Int)] 5)) = .ok (.string (bytesOf [b])) (w.alloc (.cells #[.int .u8 (b.toNat : Int)] 5)) := by
  refine run_convert_bytes_back (w.alloc (.cells #[.int .u8 (b.toNat : Int)] 5)) 38 9 5 ⟨w.heap.size, 0, none⟩ 1 [b] Tryd.underlying38 Tryd.underlying5 Tryd.underlying9 fun j hj => ?_
  have : j = 0 := by simpa using hj
  subst this
  exact cellNew _ _ _ 0 _ rfl
theorem sign_conv {o : Oper} {a : Act} {K : Act → World → Prop} {Q : Exit → Act → World → Prop} {g : Value → World → Result Next} {w W : World} {b : UInt8} (hG : G8 w W)
    (hK : ∀ X, G8 w X → Oper.upon Tryd.prog o a K Q ((Result.ok (.string (bytesOf [b])) X).andThen g)) :
    Oper.upon Tryd.prog o a K Q (((convert 38 9 (.slice (some ⟨W.heap.size, 0, none⟩) 1 1)).run Tryd.prog (W.alloc (.cells #[.int .u8 (b.toNat : Int)] 5))).andThen g) := by
  rw [conv_one]
  exact hK _ (hG.step ((Below.refl _ _).alloc (Nat.le_refl _) _))

theorem sign_start (w W : World) (hW : W = (w.alloc (.cells #[.int .i64 0, .int .i64 0, .string ⟨#[]⟩, .int .i64 0, .bool false, .int .i64 0, .int .i64 0, .int .i64 0] 47)).alloc (.cells #[.string ⟨#[61, 62]⟩, .string ⟨#[45, 62]⟩, .string ⟨#[60, 58]⟩, .string ⟨#[43, 43]⟩, .string ⟨#[61, 61]⟩] 9)) : G8 w W ∧ ∀ j, j < 5 → W.cell? ⟨w.heap.size + 1, j, none⟩ = some (.string (bytesOf (twoL j))) := by
  subst hW
  refine ⟨(G8.start w _ rfl).step ((Below.refl _ _).alloc (Nat.le_refl _) _), fun j hj => ?_⟩
  have h := cellNew (w.alloc (.cells #[.int .i64 0, .int .i64 0, .string ⟨#[]⟩, .int .i64 0, .bool false, .int .i64 0, .int .i64 0, .int .i64 0] 47)) #[.string ⟨#[61, 62]⟩, .string ⟨#[45, 62]⟩, .string ⟨#[60, 58]⟩, .string ⟨#[43, 43]⟩, .string ⟨#[61, 61]⟩] 9 j (.string (bytesOf (twoL j))) (by
    have : j = 0 ∨ j = 1 ∨ j = 2 ∨ j = 3 ∨ j = 4 := by omega
    rcases this with rfl | rfl | rfl | rfl | rfl <;> rfl)
  simpa using h
set_option maxRecDepth 8000 in
set_option maxHeartbeats 4000000 in
theorem rsign_any (s : ByteArray) (p : Nat) (w : World) (hs : s.size ≤ 65536) (hp : p < s.size) :
    Calls Tryd.prog 34 #[.string s, .int .i64 p] w fun e w' => e = .returned (gotOf (signI (rest s p)) p) ∧ Below w.heap.size w w' := by
  generalize hI : signI (rest s p) = I
  have HI := Asd.mk hI
  clear hI
  have F := Asd.mk (sign_start w _ rfl)
  go_enter Tryd.func34, Tryd.ntmps34
  go_wp2_with fail
  generalize ((w.alloc (.cells #[.int .i64 0, .int .i64 0, .string ⟨#[]⟩, .int .i64 0, .bool false, .int .i64 0, .int .i64 0, .int .i64 0] 47)).alloc (.cells #[.string ⟨#[61, 62]⟩, .string ⟨#[45, 62]⟩, .string ⟨#[60, 58]⟩, .string ⟨#[43, 43]⟩, .string ⟨#[61, 61]⟩] 9)) = W at F ⊢
  go_loopw [6] (fun v6 wr => ∃ k : Nat, v6 = .int .i64 k ∧ k ≤ 5 ∧ Below W.heap.size W wr ∧ ∀ j, j < k → p + 2 ≤ s.size → ((rest s p).take 2 == twoL j) = false) (fun v6 _ => 5 - (intOf v6).toNat)
  case atStart => exact ⟨0, rfl, by omega, Below.refl _ _, fun j hj => by omega⟩
  case round =>
    obtain ⟨k, rfl, hk, hbw, hno⟩ := hrel
    have A := Asd.mk (And.intro hbw hno)
    have G := Asd.mk (F.out.1.step hbw)
    clear hbw hno
    by_cases hk5 : k < 5
    · by_cases h2 : p + 2 ≤ s.size
      · have h2i : (p : Int) + 2 ≤ (s.size : Int) := by omega
        have hd2 : decide ((p : Int) + 2 ≤ (s.size : Int)) = true := by simpa using h2i
        have hpi : (p : Int) ≤ (p : Int) + 2 := by omega
        have hcell := below_cellAt A.out.1 (F.out.2 k hk5)
        have T1 := Asd.mk (ext2_list s p)
        rcases Bool.eq_false_or_eq_true ((s.extract p (p + 2)).toList == (bytesOf (twoL k)).toList) with hq | hq
        · have HX := Asd.mk hq
          have hsg : sgnW (rest s p) = ((2 : Nat) : Int) := by
            unfold sgnW
            rw [if_pos]
            · rfl
            · rw [Bool.and_eq_true]
              refine ⟨by rw [rest_len]; simp; omega, (twoB_iff _).2 ⟨k, hk5, ?_⟩⟩
              rw [← T1.out]
              have := HX.out
              rw [ByteArray.toList_eq (bs := bytesOf (twoL k))] at this
              exact this
          obtain rfl : I = .tok 5 0 ((rest s p).take 2) 2 := by rw [← HI.out]; exact sign_tok hsg (by omega)
          have ht : twoL k = (rest s p).take 2 := by
            have := HX.out
            rw [ByteArray.toList_eq (bs := bytesOf (twoL k)), T1.out] at this
            exact (by simpa using this : (rest s p).take 2 = (bytesOf (twoL k)).data.toList).symm
          have HT := Asd.mk ht
          clear ht hsg
          go_wp2_with fail
          go_quiet (fail)
          obtain ⟨w5, hw5⟩ : ∃ w5, w5 = wr.drewN nq := ⟨_, rfl⟩
          rw [← hw5]
          have G5 : Asd (G8 w w5) := ⟨by rw [hw5]; exact ⟨below_drewN G.out.below _, G.out.blk⟩⟩
          have hc5 : w5.cell? ⟨w.heap.size + 1, k, none⟩ = some (.string (bytesOf (twoL k))) := by rw [hw5]; exact hcell
          clear hw5 hcell
          have hz5 := G5.out.blk
          have z0 : w5.cell? ⟨w.heap.size, 0, none⟩ = some (.int .i64 0) := cell_of hz5 0
          have z1 : w5.cell? ⟨w.heap.size, 1, none⟩ = some (.int .i64 0) := cell_of hz5 1
          have z2 : w5.cell? ⟨w.heap.size, 2, none⟩ = some (.string ⟨#[]⟩) := cell_of hz5 2
          have z3 : w5.cell? ⟨w.heap.size, 3, none⟩ = some (.int .i64 0) := cell_of hz5 3
          have z4 : w5.cell? ⟨w.heap.size, 4, none⟩ = some (.bool false) := cell_of hz5 4
          have z5 : w5.cell? ⟨w.heap.size, 5, none⟩ = some (.int .i64 0) := cell_of hz5 5
          have z6 : w5.cell? ⟨w.heap.size, 6, none⟩ = some (.int .i64 0) := cell_of hz5 6
          have z7 : w5.cell? ⟨w.heap.size, 7, none⟩ = some (.int .i64 0) := cell_of hz5 7
          have f0 : w5.frozen? ⟨w.heap.size, 0, none⟩ = false := free_of hz5 0
          have f1 : w5.frozen? ⟨w.heap.size, 1, none⟩ = false := free_of hz5 1
          have f2 : w5.frozen? ⟨w.heap.size, 2, none⟩ = false := free_of hz5 2
          have f3 : w5.frozen? ⟨w.heap.size, 3, none⟩ = false := free_of hz5 3
          have f4 : w5.frozen? ⟨w.heap.size, 4, none⟩ = false := free_of hz5 4
          have f5 : w5.frozen? ⟨w.heap.size, 5, none⟩ = false := free_of hz5 5
          have f6 : w5.frozen? ⟨w.heap.size, 6, none⟩ = false := free_of hz5 6
          have f7 : w5.frozen? ⟨w.heap.size, 7, none⟩ = false := free_of hz5 7
          clear hz5
          go_wp2_with fail
          refine got_ret G5.out.below G5.out.blk rfl ?_
          intro Wf hR y0 y1 y2 y3 y4 y5 y6 y7
          exact bodyPost_ret (v := gotV 5 0 (bytesOf ((rest s p).take 2)) p false ((p : Int) + ((2 : Nat) : Int)) 0 0) (by simp [results, Tryd.results34, go_sem, y0, y1, y2, y3, y4, y5, y6, y7, gotV, HT.out]) rfl ⟨rfl, hR⟩
        · have HX := Asd.mk hq
          go_wp2_with fail
          go_quiet (fail)
          go_wp2_with fail
          go_roundw
          case rel => exact ⟨k + 1, by go_num, by omega, below_drewN A.out.1 _, fun j hj h2' => by
            by_cases hjk : j = k
            · subst hjk
              have := HX.out
              rw [ByteArray.toList_eq (bs := bytesOf (twoL j)), T1.out] at this
              exact this
            · exact A.out.2 j (by omega) h2'⟩
          case measure => simp [intOf]; omega
      · have hd2 : decide ((p : Int) + 2 ≤ (s.size : Int)) = false := by rw [decide_eq_false_iff_not]; omega
        go_wp2_with fail
        go_quiet (fail)
        go_wp2_with fail
        go_roundw
        case rel => exact ⟨k + 1, by go_num, by omega, below_drewN A.out.1 _, fun j _ h2' => absurd h2' h2⟩
        case measure => simp [intOf]; omega
    · have hk5' : k = 5 := by omega
      have h2f : Asd ((decide (1 < (rest s p).length) && twoB (rest s p)) = false) := ⟨by
        rw [Bool.and_eq_false_iff, rest_len]
        by_cases h2 : p + 2 ≤ s.size
        · right
          rw [Bool.eq_false_iff]
          intro hh
          obtain ⟨j, hj, hx⟩ := (twoB_iff _).1 hh
          rw [A.out.2 j (by omega) h2] at hx
          cases hx
        · left
          rw [decide_eq_false_iff_not]
          omega⟩
      have hb0 : bI (rest s p) 0 = (s[p].toNat : Int) := rest_bI s p 0 (by omega)
      have hsg : sgnW (rest s p) = if oneB (s[p].toNat : Int) = true then 1 else 0 := by
        unfold sgnW; rw [h2f.out, if_neg (by simp), hb0]
      have HSG := Asd.mk hsg
      have HR : Asd (rest s p = s[p] :: rest s (p + 1)) := ⟨rest_lt s p hp⟩
      have BA := Asd.mk A.out.1
      clear hsg hb0 h2f A
      have HK := Asd.mk hk5'
      clear hk5'
      go_wp2_with fail
      clear hk5
      go_loopw [8] (fun v8 wq => ∃ i : Nat, v8 = .int .i64 i ∧ i ≤ 16 ∧ Below W.heap.size W wq ∧ ∀ j, j < i → ∀ h : j < 16, ((s[p].toNat : Int) == ((oneL[j]'h).toNat : Int)) = false) (fun v8 _ => 16 - (intOf v8).toNat)
      case atStart => exact ⟨0, rfl, by omega, BA.out, fun j hj => by omega⟩
      case round =>
        clear BA G
        obtain ⟨i, rfl, hi, hbw, hno⟩ := hrel
        have A := Asd.mk (And.intro hbw hno)
        have G := Asd.mk (F.out.1.step hbw)
        clear hbw hno
        by_cases hi16 : i < 16
        · have hisz : i < ({ data := #[40, 41, 123, 125, 91, 93, 44, 58, 46, 61, 63, 43, 45, 42, 47, 60] } : ByteArray).size := hi16
          rcases Bool.eq_false_or_eq_true ((s[p].toNat : Int) == ((({ data := #[40, 41, 123, 125, 91, 93, 44, 58, 46, 61, 63, 43, 45, 42, 47, 60] } : ByteArray)[i]'hisz).toNat : Int)) with hq | hq
          · have HX : Asd (((s[p].toNat : Int) == ((oneL[i]'hi16).toNat : Int)) = true) := ⟨hq⟩
            obtain rfl : I = .tok 5 0 [s[p]] 1 := by
              rw [← HI.out, sign_tok (n := 1) (by rw [HSG.out, if_pos ((oneB_iff _).2 ⟨i, hi16, HX.out⟩)]; rfl) (by omega), HR.out]
              rfl
            go_wp2_with fail
            go_quiet (fail)
            obtain ⟨w5, hw5⟩ : ∃ w5, w5 = wr.drewN nq := ⟨_, rfl⟩
            rw [← hw5]
            have G5 : Asd (G8 w w5) := ⟨by rw [hw5]; exact ⟨below_drewN G.out.below _, G.out.blk⟩⟩
            clear hw5
            go_wp2_with fail
            refine sign_conv G5.out (fun X hX => ?_)
            have G6 := Asd.mk hX
            have hz6 := G6.out.blk
            have z0 : X.cell? ⟨w.heap.size, 0, none⟩ = some (.int .i64 0) := cell_of hz6 0
            have z1 : X.cell? ⟨w.heap.size, 1, none⟩ = some (.int .i64 0) := cell_of hz6 1
            have z2 : X.cell? ⟨w.heap.size, 2, none⟩ = some (.string ⟨#[]⟩) := cell_of hz6 2
            have z3 : X.cell? ⟨w.heap.size, 3, none⟩ = some (.int .i64 0) := cell_of hz6 3
            have z4 : X.cell? ⟨w.heap.size, 4, none⟩ = some (.bool false) := cell_of hz6 4
            have z5 : X.cell? ⟨w.heap.size, 5, none⟩ = some (.int .i64 0) := cell_of hz6 5
            have z6 : X.cell? ⟨w.heap.size, 6, none⟩ = some (.int .i64 0) := cell_of hz6 6
            have z7 : X.cell? ⟨w.heap.size, 7, none⟩ = some (.int .i64 0) := cell_of hz6 7
            have f0 : X.frozen? ⟨w.heap.size, 0, none⟩ = false := free_of hz6 0
            have f1 : X.frozen? ⟨w.heap.size, 1, none⟩ = false := free_of hz6 1
            have f2 : X.frozen? ⟨w.heap.size, 2, none⟩ = false := free_of hz6 2
            have f3 : X.frozen? ⟨w.heap.size, 3, none⟩ = false := free_of hz6 3
            have f4 : X.frozen? ⟨w.heap.size, 4, none⟩ = false := free_of hz6 4
            have f5 : X.frozen? ⟨w.heap.size, 5, none⟩ = false := free_of hz6 5
            have f6 : X.frozen? ⟨w.heap.size, 6, none⟩ = false := free_of hz6 6
            have f7 : X.frozen? ⟨w.heap.size, 7, none⟩ = false := free_of hz6 7
            clear hz6 hX
            go_wp2_with fail
            refine got_ret G6.out.below G6.out.blk rfl ?_
            intro Wf hR y0 y1 y2 y3 y4 y5 y6 y7
            exact bodyPost_ret (v := gotV 5 0 (bytesOf [s[p]]) p false ((p : Int) + ((1 : Nat) : Int)) 0 0) (by simp [results, Tryd.results34, go_sem, y0, y1, y2, y3, y4, y5, y6, y7, gotV]) rfl ⟨rfl, hR⟩
          · have HX : Asd (((s[p].toNat : Int) == ((oneL[i]'hi16).toNat : Int)) = false) := ⟨hq⟩
            go_wp2_with fail
            go_quiet (fail)
            go_wp2_with fail
            go_roundw
            case rel => exact ⟨i + 1, by go_num, by omega, below_drewN A.out.1 _, fun j hj h16 => by
              by_cases hji : j = i
              · subst hji
                exact HX.out
              · exact A.out.2 j (by omega) h16⟩
            case measure => simp [intOf]; omega
        · obtain rfl : I = .bad 3 0 := by
            have hone : oneB (s[p].toNat : Int) = false := by
              rw [Bool.eq_false_iff]
              intro hh
              obtain ⟨j, hj, hx⟩ := (oneB_iff _).1 hh
              rw [A.out.2 j (by omega) hj] at hx
              cases hx
            rw [← HI.out]
            unfold signI
            rw [HSG.out, hone]
            rfl
          go_wp2_with fail
          refine (rbad_any 3 p _).mono ?_
          rintro e w6 ⟨rfl, hb6⟩
          have G6 := Asd.mk (G.out.step hb6)
          have hz6 := G6.out.blk
          have z0 : w6.cell? ⟨w.heap.size, 0, none⟩ = some (.int .i64 0) := cell_of hz6 0
          have z1 : w6.cell? ⟨w.heap.size, 1, none⟩ = some (.int .i64 0) := cell_of hz6 1
          have z2 : w6.cell? ⟨w.heap.size, 2, none⟩ = some (.string ⟨#[]⟩) := cell_of hz6 2
          have z3 : w6.cell? ⟨w.heap.size, 3, none⟩ = some (.int .i64 0) := cell_of hz6 3
          have z4 : w6.cell? ⟨w.heap.size, 4, none⟩ = some (.bool false) := cell_of hz6 4
          have z5 : w6.cell? ⟨w.heap.size, 5, none⟩ = some (.int .i64 0) := cell_of hz6 5
          have z6 : w6.cell? ⟨w.heap.size, 6, none⟩ = some (.int .i64 0) := cell_of hz6 6
          have z7 : w6.cell? ⟨w.heap.size, 7, none⟩ = some (.int .i64 0) := cell_of hz6 7
          have f0 : w6.frozen? ⟨w.heap.size, 0, none⟩ = false := free_of hz6 0
          have f1 : w6.frozen? ⟨w.heap.size, 1, none⟩ = false := free_of hz6 1
          have f2 : w6.frozen? ⟨w.heap.size, 2, none⟩ = false := free_of hz6 2
          have f3 : w6.frozen? ⟨w.heap.size, 3, none⟩ = false := free_of hz6 3
          have f4 : w6.frozen? ⟨w.heap.size, 4, none⟩ = false := free_of hz6 4
          have f5 : w6.frozen? ⟨w.heap.size, 5, none⟩ = false := free_of hz6 5
          have f6 : w6.frozen? ⟨w.heap.size, 6, none⟩ = false := free_of hz6 6
          have f7 : w6.frozen? ⟨w.heap.size, 7, none⟩ = false := free_of hz6 7
          clear hz6 hb6
          unfold gotV
          go_wp2_with fail
          refine got_ret G6.out.below G6.out.blk rfl ?_
          intro Wf hR y0 y1 y2 y3 y4 y5 y6 y7
          exact bodyPost_ret (v := gotV 0 0 ⟨#[]⟩ 0 false 0 3 ((p : Int) + ((0 : Nat) : Int))) (by simp [results, Tryd.results34, go_sem, y0, y1, y2, y3, y4, y5, y6, y7, gotV]) rfl ⟨rfl, hR⟩
end Go.Proofs.YtaebigakdfaogaaDoor
