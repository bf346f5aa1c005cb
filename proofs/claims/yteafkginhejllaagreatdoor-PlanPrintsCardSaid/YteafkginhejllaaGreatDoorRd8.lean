/- Contract of read. Conditions: the form and the layout can be read; lengths; what the program reads (GT). -/
import Derived.Test.YteafkginhejllaaGreatDoorVa8
import Derived.Test.YteafkginhejllaaGreatDoorH8
import Derived.Deep.RegionHeld3
namespace Go.Proofs.YteafkginhejllaaGreatDoor
open Go.ChangeShapes Go.WideShapes Go.ChangeAt Go.RowKit
def readGo (L : LayD) : List Int → List L8 → L8 → List Int → Int → L8 × List Int × Int
  | f :: fs, x :: xs, nm, vs, ms => if f = 0 then readGo L fs xs x vs ms else if (valueS L f x).2 = 4 then ([], [], 4) else readGo L fs xs nm (vs ++ [(valueS L f x).1]) (if (valueS L f x).2 = 9 then 9 else ms)
  | _, _, nm, vs, ms => (nm, vs, ms)
def readS (L : LayD) (fs : List Int) (xs : List L8) : L8 × List Int × Int := if xs.length ≠ fs.length then ([], [], 4) else readGo L fs xs [] [] 0
def RetR (w : World) (q : L8 × List Int × Int) (e : Ending) (w' : World) : Prop := ∃ u, e = .returned (.tuple #[str q.1, u, .int .i64 q.2.2]) ∧ w'.ownsRow w.heap.size 3 1 u q.2.1.length (intsV q.2.1) ∧ Below w.heap.size w w'
theorem value_err (L : LayD) (k : Int) (x : L8) : (valueS L k x).2 = 0 ∨ (valueS L k x).2 = 4 ∨ (valueS L k x).2 = 9 := by
  unfold valueS idxR
  repeat' split
  all_goals simp
set_option maxRecDepth 100000 in
set_option maxHeartbeats 8000000 in
theorem read_any (p : Int) (n cap : Nat) (fs : List Int) (fv : Value) (v u : Value) (L : LayD) (xs : List L8) (w : World) (hF : ∀ (j : Nat) x, fs[j]? = some x → w.cell? ⟨n, j, none⟩ = some (.int .i64 x)) (hn : n < w.heap.size) (hfs : ∀ f ∈ fs, f = 0 ∨ f = 1 ∨ f = 2 ∨ f = 3) (hfl : fs.length ≤ 100) (hc : fs.length ≤ cap)
    (hv : RLay w v L) (hG : GT w) (hu : RS w u (strsV xs)) (hx : ∀ x ∈ xs, x.length ≤ 100000) :
    Calls Tryz.prog 87 #[.agg #[.int .i64 p, .slice (some ⟨n, 0, none⟩) fs.length cap, fv], v, u] w (RetR w (readS L fs xs)) := by
  have HV := Lib.hid hv
  obtain ⟨v1, v2, v3, v4, v5, rfl, h1, h2, h3, h4, h5⟩ := hv
  clear h1 h2 h3 h4 h5
  obtain ⟨nm, en⟩ : ∃ s, str L.name = s := ⟨_, rfl⟩
  rw [en] at HV ⊢
  clear en
  obtain ⟨au, cu, rfl, ⟨hul, _⟩, HU⟩ := hu.openS
  clear hu
  unfold readS
  by_cases hlen : xs.length = fs.length
  · rw [if_neg (by rw [hlen]; exact fun h => h rfl)]
    obtain ⟨q, hq⟩ : ∃ q, readGo L fs xs [] [] 0 = q := ⟨_, rfl⟩
    rw [hq]
    have H0 : Hid (readGo L (fs.drop 0) (xs.drop 0) [] [] 0 = q) := Lib.hid hq
    have hl2 : ((xs.length : Int) == (fs.length : Int)) = true := by rw [hlen]; exact beq_self_eq_true _
    have hl3 : ((xs.length : Int) != (fs.length : Int)) = false := by rw [bne, hl2]; rfl
    have hle1 : xs.length ≤ fs.length := by omega
    have hle2 : fs.length ≤ xs.length := by omega
    clear hq hlen
    obtain ⟨W1, hW⟩ : ∃ W1, W1 = (w.alloc (.cells #[.int .i64 p, .slice (some ⟨n, 0, none⟩) fs.length cap, fv] 115)).alloc (.cells #[nm, v1, v2, v3, v4, v5] 28) := ⟨_, rfl⟩
    have HB : Below w.heap.size w W1 := by rw [hW]; exact ((Below.refl _ _).alloc (Nat.le_refl _) _).alloc (by simp) _
    have G1 : Blk W1 w.heap.size #[.int .i64 p, .slice (some ⟨n, 0, none⟩) fs.length cap, fv] := by rw [hW]; exact (Blk.new _ _ _ _ rfl).old _
    have G2 : Blk W1 (w.heap.size + 1) #[nm, v1, v2, v3, v4, v5] := by rw [hW]; exact Blk.new _ _ _ _ (by simp)
    have c1 := G1.at 1 _ rfl
    rw [hW] at c1
    go_enter Tryz.func87, Tryz.ntmps87
    go_wp2
    rw [← hW]
    have SK : ∀ W, Below W1.heap.size W1 W → (W.cell? ⟨w.heap.size, 1, none⟩ = some (.slice (some ⟨n, 0, none⟩) fs.length cap) ∧ W.cell? ⟨w.heap.size + 1, 0, none⟩ = some nm ∧ W.cell? ⟨w.heap.size + 1, 1, none⟩ = some v1 ∧ W.cell? ⟨w.heap.size + 1, 2, none⟩ = some v2 ∧
        W.cell? ⟨w.heap.size + 1, 3, none⟩ = some v3 ∧ W.cell? ⟨w.heap.size + 1, 4, none⟩ = some v4 ∧ W.cell? ⟨w.heap.size + 1, 5, none⟩ = some v5) := by
      intro W h
      have g1 := G1.below h
      have g2 := G2.below h
      exact ⟨g1.at 1 _ rfl, g2.at 0 _ rfl, g2.at 1 _ rfl, g2.at 2 _ rfl, g2.at 3 _ rfl, g2.at 4 _ rfl, g2.at 5 _ rfl⟩
    have WB : ∀ W, Below W1.heap.size W1 W → Below w.heap.size w W := fun W h => HB.trans (h.mono HB.size)
    have KV : ∀ W f x, Below W1.heap.size W1 W → (f = 1 ∨ f = 2 ∨ f = 3) → x.length ≤ 100000 → Calls Tryz.prog 126 #[.int .i64 f, .agg #[nm, v1, v2, v3, v4, v5], str x] W (RetV W (outI (valueS L f x))) := fun W f x h hf hx =>
      value_any _ L f x W (HV.out.below (WB W h)) (hG.below (WB W h)) hf hx
    have hsW := HB.size
    replace SK := Lib.hid SK
    replace WB := Lib.hid WB
    replace KV := Lib.hid KV
    replace hF := Lib.hid hF
    replace hx := Lib.hid hx
    replace hfs := Lib.hid hfs
    clear c1 G1 G2 hW HV hG HB hl2
    go_loopg [9, 10, 11, 24] xs.length (fun g s9 s10 s11 s24 wx => ∃ (k : Nat) (y : L8) (vs : List Int) (ms : Int), s24 = .int .i64 k ∧ k + g = xs.length ∧ s9 = str y ∧ s11 = .int .i64 ms ∧ vs.length ≤ k ∧ wx.ownsRow W1.heap.size 3 1 s10 vs.length (intsV vs) ∧ Hid (readGo L (fs.drop k) (xs.drop k) y vs ms = q) ∧ Below W1.heap.size W1 wx)
    case atStart => exact ⟨0, [], [], 0, rfl, by omega, rfl, rfl, by simp, World.ownsRow_nil _ _ _ _, H0, Below.refl _ _⟩
    case round =>
      obtain ⟨k, y, vs, ms, rfl, hg, rfl, rfl, hvl, ho, HN, hb⟩ := hrel
      clear H0
      have hbw := WB.out _ hb
      have hsz := hb.size
      obtain ⟨q1, q2, q3, q4, q5, q6, q7⟩ := SK.out _ hb
      cases gk with
      | zero =>
        have h : ¬ ((k : Int) < (xs.length : Int)) := by omega
        have E : q = (y, vs, ms) := by have := HN.out; rw [show xs.drop k = [] from List.drop_eq_nil_of_le (by omega)] at this; rw [← this]; cases fs.drop k <;> rfl
        have hR := own_mono ho hsW
        obtain ⟨a3, c3, rfl⟩ := own_slice ho
        clear HN ho
        subst E
        go_wp2
        go_ret3
        exact ⟨_, rfl, hR, hbw⟩
      | succ g =>
        have h : ((k : Int) < (xs.length : Int)) := by omega
        obtain ⟨x, hy, _, hmem⟩ := at_take (l := xs) (k := k) (by omega)
        obtain ⟨f, hyf, _, hmemf⟩ := at_take (l := fs) (k := k) (by omega)
        obtain ⟨b, off, rfl, hlt, hcx⟩ := HU.out.rd hbw hy
        have hcf := cell_kept hbw (hF.out k f hyf)
        have hxl := hx.out x hmem
        have hff := hfs.out f hmemf
        have hkf : (k : Int) < (fs.length : Int) := by omega
        have D1 := drop_get hy
        have D2 := drop_get hyf
        clear hy hyf hmem hmemf
        by_cases h0 : f = 0
        · subst h0
          have N := Lib.hid (show readGo L (fs.drop (k + 1)) (xs.drop (k + 1)) x vs ms = q by have := HN.out; rw [D1, D2, readGo, if_pos rfl] at this; exact this)
          clear HN D1 D2 hff
          go_wp2
          go_roundg g
          case measure => omega
          case rel => exact ⟨k + 1, x, vs, ms, by go_num, by omega, rfl, rfl, by omega, ho, N, hb⟩
        · have h0b : (f == 0) = false := by simpa using h0
          have hf1 : f = 1 ∨ f = 2 ∨ f = 3 := by omega
          have HN2 := HN.out
          rw [D1, D2, readGo, if_neg h0] at HN2
          have hve := value_err L f x
          obtain ⟨⟨nv, ev⟩, hqv⟩ : ∃ q, valueS L f x = q := ⟨_, rfl⟩
          have K := fun W hW => KV.out W f x hW hf1 hxl
          rw [hqv] at HN2 hve
          simp only [hqv, outI] at K
          simp only at HN2 hve
          replace HN2 := Lib.hid HN2
          clear HN D1 D2 hff hf1 hqv h0
          have SJ : ∀ W, Below wr.heap.size wr W → (W.cell? ⟨w.heap.size, 1, none⟩ = some (.slice (some ⟨n, 0, none⟩) fs.length cap) ∧ W.cell? ⟨w.heap.size + 1, 0, none⟩ = some nm ∧ W.cell? ⟨w.heap.size + 1, 1, none⟩ = some v1 ∧ W.cell? ⟨w.heap.size + 1, 2, none⟩ = some v2 ∧
              W.cell? ⟨w.heap.size + 1, 3, none⟩ = some v3 ∧ W.cell? ⟨w.heap.size + 1, 4, none⟩ = some v4 ∧ W.cell? ⟨w.heap.size + 1, 5, none⟩ = some v5 ∧ W.cell? ⟨n, k, none⟩ = some (.int .i64 f) ∧ Below wr.heap.size wr W) := by
            intro W hW
            obtain ⟨r1, r2, r3, r4, r5, r6, r7⟩ := SK.out _ (hb.trans (hW.mono hsz))
            exact ⟨r1, r2, r3, r4, r5, r6, r7, cell_kept hW hcf, hW⟩
          have BD : Below W1.heap.size W1 wr.drew := hb.drew
          have SD := SJ _ (Below.refl wr.heap.size wr).drew
          go_wp2_with fail
          go_region_held3 (fun W => W.cell? ⟨w.heap.size, 1, none⟩ = some (.slice (some ⟨n, 0, none⟩) fs.length cap) ∧ W.cell? ⟨w.heap.size + 1, 0, none⟩ = some nm ∧ W.cell? ⟨w.heap.size + 1, 1, none⟩ = some v1 ∧ W.cell? ⟨w.heap.size + 1, 2, none⟩ = some v2 ∧
              W.cell? ⟨w.heap.size + 1, 3, none⟩ = some v3 ∧ W.cell? ⟨w.heap.size + 1, 4, none⟩ = some v4 ∧ W.cell? ⟨w.heap.size + 1, 5, none⟩ = some v5 ∧ W.cell? ⟨n, k, none⟩ = some (.int .i64 f) ∧ Below wr.heap.size wr W)
            (first | exact SD | exact SJ _ B2)
            (first | (go_at_call 126; refine (K _ BD).mono ?_; rintro e w2 ⟨rfl, b2⟩; have B2 : Below wr.heap.size wr w2 := (Below.refl wr.heap.size wr).drew.trans b2; have B3 := hb.trans (B2.mono hsz); have hs3 := B3.size; have o2 := own_below ho B2))
          clear SD SJ BD K ho q1 q2 q3 q4 q5 q6 q7
          rcases hve with rfl | rfl | rfl
          · have N := Lib.hid (show readGo L (fs.drop (k + 1)) (xs.drop (k + 1)) y (vs ++ [nv]) ms = q by have := HN2.out; rw [if_neg (by decide), if_neg (by decide)] at this; exact this)
            clear HN2
            go_wp2_with (at_builtin
                         refine wpList_push _ rfl _ _ 81 rfl W1.heap.size 3 (.int .i64 0) 1 8 Tryz.underlying81 info_int rfl (by omega) _ vs.length _ rfl o2 [.int .i64 nv] rfl rfl (by simp [Value.oneCell']) (by omega) (by omega) hs3 ?_
                         intro v6 w6 p6 gr6 nb6
                         have B6 := below_grown B3 gr6 o2 (Nat.le_refl _) hs3
                         replace p6 : Hid (w6.ownsRow W1.heap.size 3 1 v6 (vs ++ [nv]).length (intsV (vs ++ [nv]))) := Lib.hid (by rw [List.length_append, intsV, List.map_append]; exact p6)
                         clear nb6 gr6 o2)
            go_roundg g
            case measure => omega
            case rel => exact ⟨k + 1, y, vs ++ [nv], ms, by go_num, by omega, rfl, rfl, by simp; omega, p6.out, N, B6⟩
          · have N : ([], [], 4) = q := by have := HN2.out; rw [if_pos rfl] at this; exact this
            subst N
            have bw2 := WB.out _ B3
            clear HN2 o2
            go_wp2
            go_ret3
            exact ⟨_, rfl, World.ownsRow_nil _ _ _ _, bw2⟩
          · have N := Lib.hid (show readGo L (fs.drop (k + 1)) (xs.drop (k + 1)) y (vs ++ [nv]) 9 = q by have := HN2.out; rw [if_neg (by decide), if_pos rfl] at this; exact this)
            clear HN2
            go_wp2_with (at_builtin
                         refine wpList_push _ rfl _ _ 81 rfl W1.heap.size 3 (.int .i64 0) 1 8 Tryz.underlying81 info_int rfl (by omega) _ vs.length _ rfl o2 [.int .i64 nv] rfl rfl (by simp [Value.oneCell']) (by omega) (by omega) hs3 ?_
                         intro v6 w6 p6 gr6 nb6
                         have B6 := below_grown B3 gr6 o2 (Nat.le_refl _) hs3
                         replace p6 : Hid (w6.ownsRow W1.heap.size 3 1 v6 (vs ++ [nv]).length (intsV (vs ++ [nv]))) := Lib.hid (by rw [List.length_append, intsV, List.map_append]; exact p6)
                         clear nb6 gr6 o2)
            go_roundg g
            case measure => omega
            case rel => exact ⟨k + 1, y, vs ++ [nv], 9, by go_num, by omega, rfl, rfl, by simp; omega, p6.out, N, B6⟩
  · rw [if_pos hlen]
    have hl2 : ((xs.length : Int) == (fs.length : Int)) = false := by rw [← Bool.not_eq_true]; intro e; exact hlen (by have := eq_of_beq e; omega)
    have b1 : Below w.heap.size w ((w.alloc (.cells #[.int .i64 p, .slice (some ⟨n, 0, none⟩) fs.length cap, fv] 115)).alloc (.cells #[nm, v1, v2, v3, v4, v5] 28)) := ((Below.refl _ _).alloc (Nat.le_refl _) _).alloc (by simp) _
    clear HV hF hfs HU
    go_enter Tryz.func87, Tryz.ntmps87
    go_wp2
    go_ret3
    exact ⟨_, rfl, World.ownsRow_nil _ _ _ _, b1⟩
end Go.Proofs.YteafkginhejllaaGreatDoor
