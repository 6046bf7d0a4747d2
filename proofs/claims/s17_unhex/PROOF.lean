import PyProof.Rows.All
import KE.OsGo
import KE.OsArgs
import PySem.Challenge.RW_shorttextsdesk_s17_unhex
open PySem PySem.W
set_option Elab.async false
namespace My
/-! ## numbers from 0 on, bytes as whole numbers -/
def Nn (l : List Int) : Prop := ∀ x ∈ l, (0 : Int) ≤ x
def Bs (l : List Int) : Prop := ∀ x ∈ l, (0 : Int) ≤ x ∧ x ≤ 255
theorem Bs.nn {l : List Int} (h : Bs l) : Nn l := fun x hx => (h x hx).1
theorem Nn.take {l : List Int} (h : Nn l) (k : Nat) : Nn (l.take k) := fun x hx => h x (List.mem_of_mem_take hx)
theorem Nn.drop {l : List Int} (h : Nn l) (k : Nat) : Nn (l.drop k) := fun x hx => h x (List.mem_of_mem_drop hx)
theorem Nn.app {a b : List Int} (ha : Nn a) (hb : Nn b) : Nn (a ++ b) := fun x hx => (List.mem_append.1 hx).elim (ha x) (hb x)
theorem Nn.tail {a : Int} {l : List Int} (h : Nn (a :: l)) : Nn l := fun x hx => h x (List.mem_cons_of_mem _ hx)
theorem Nn.head {a : Int} {l : List Int} (h : Nn (a :: l)) : 0 ≤ a := h a List.mem_cons_self
theorem Bs.take {l : List Int} (h : Bs l) (k : Nat) : Bs (l.take k) := fun x hx => h x (List.mem_of_mem_take hx)
theorem Bs.drop {l : List Int} (h : Bs l) (k : Nat) : Bs (l.drop k) := fun x hx => h x (List.mem_of_mem_drop hx)
theorem Bs.tail {a : Int} {l : List Int} (h : Bs (a :: l)) : Bs l := fun x hx => h x (List.mem_cons_of_mem _ hx)
theorem Bs.head {a : Int} {l : List Int} (h : Bs (a :: l)) : 0 ≤ a ∧ a ≤ 255 := h a List.mem_cons_self
abbrev nz (l : List Int) : List Nat := Sv24Neutral.n l
theorem nz_nil : nz [] = [] := rfl
theorem nz_cons (a : Int) (l : List Int) : nz (a :: l) = a.toNat :: nz l := rfl
theorem nz_len (l : List Int) : (nz l).length = l.length := by simp [nz, Sv24Neutral.n]
theorem nz_back {l : List Int} (h : Nn l) : Sv24.numbers (nz l) = l := by
  induction l with
  | nil => rfl
  | cons a r ih =>
    have h2 := ih h.tail
    have h1 := h.head
    show ((a.toNat : Nat) : Int) :: Sv24.numbers (nz r) = _
    rw [h2, Int.toNat_of_nonneg h1]
theorem nz_app (a b : List Int) : nz a ++ nz b = nz (a ++ b) := by simp [nz, Sv24Neutral.n]
theorem nz_take (k : Nat) (a : List Int) : (nz a).take k = nz (a.take k) := by simp [nz, Sv24Neutral.n, List.map_take]
theorem nz_drop (k : Nat) (a : List Int) : (nz a).drop k = nz (a.drop k) := by simp [nz, Sv24Neutral.n, List.map_drop]
theorem nz_rev (a : List Int) : (nz a).reverse = nz a.reverse := by simp [nz, Sv24Neutral.n, List.map_reverse]
theorem nz_inj {a b : List Int} (ha : Nn a) (hb : Nn b) : nz a = nz b ↔ a = b :=
  ⟨fun h => by rw [← nz_back ha, ← nz_back hb, h], fun h => by rw [h]⟩
theorem nz_eqnil (a : List Int) : nz a = [] ↔ a = [] := by cases a <;> simp [nz, Sv24Neutral.n]
theorem nz_mem {l : List Int} (h : Nn l) {c : Int} (hc : 0 ≤ c) : c.toNat ∈ nz l ↔ c ∈ l := by
  constructor
  · intro hm
    obtain ⟨x, hx, he⟩ := List.mem_map.1 hm
    have := h x hx
    have : x = c := by omega
    exact this ▸ hx
  · intro hm
    exact List.mem_map.2 ⟨c, hm, rfl⟩
theorem nz_has {l : List Int} (h : Nn l) {c : Int} (hc : 0 ≤ c) : (nz l).contains c.toNat = l.contains c := by
  rw [Bool.eq_iff_iff, List.contains_iff_mem, List.contains_iff_mem, nz_mem h hc]
theorem nz_map {f : Nat → Nat} {g : Int → Int} : ∀ {l : List Int}, (∀ x ∈ l, f x.toNat = (g x).toNat) → (nz l).map f = nz (l.map g)
  | [], _ => rfl
  | a :: r, h => by
    rw [nz_cons, List.map_cons, List.map_cons, nz_cons, h a List.mem_cons_self, nz_map (fun x hx => h x (List.mem_cons_of_mem _ hx))]
theorem nz_filter {f : Nat → Bool} {g : Int → Bool} : ∀ {l : List Int}, (∀ x ∈ l, f x.toNat = g x) → (nz l).filter f = nz (l.filter g)
  | [], _ => rfl
  | a :: r, h => by
    rw [nz_cons, List.filter_cons, List.filter_cons, h a List.mem_cons_self, nz_filter (fun x hx => h x (List.mem_cons_of_mem _ hx))]
    split <;> rfl
theorem nz_dropWhile {f : Nat → Bool} {g : Int → Bool} : ∀ {l : List Int}, (∀ x ∈ l, f x.toNat = g x) → (nz l).dropWhile f = nz (l.dropWhile g)
  | [], _ => rfl
  | a :: r, h => by
    rw [nz_cons, List.dropWhile_cons, List.dropWhile_cons, h a List.mem_cons_self, nz_dropWhile (fun x hx => h x (List.mem_cons_of_mem _ hx))]
    split <;> rfl
/-- a text's answer -/
def tell (l : List Int) : List Int := ((l.take 31).length : Int) :: l.take 31
theorem told {l : List Int} (h : Nn l) : (Sv24.text (nz l)).v :: (Sv24.text (nz l)).l = tell l := by
  show (((Sv24.cut (nz l)).length : Nat) : Int) :: Sv24.numbers (Sv24.cut (nz l)) = _
  have e : Sv24.cut (nz l) = nz (l.take 31) := nz_take 31 l
  rw [e, nz_len, nz_back (h.take 31)]
  rfl
theorem tell_short {l : List Int} (h : l.length ≤ 31) : tell l = (l.length : Int) :: l := by
  unfold tell; rw [List.take_of_length_le h]
/-! ## the calls over whole numbers -/
theorem join_eq {a b : List Int} (ha : Nn a) (hb : Nn b) : PySv24.join a b = tell (a ++ b) := by
  show (Sv24.text (nz a ++ nz b)).v :: (Sv24.text (nz a ++ nz b)).l = _
  rw [nz_app]
  exact told (ha.app hb)
theorem part_eq {t : List Int} {i k : Int} (ht : Nn t) : PySv24.part i k t = tell ((t.drop (max i 0).toNat).take (max 0 (i + max k 0) - max i 0).toNat) := by
  show (Sv24.text (((nz t).drop (max i 0).toNat).take (max 0 (i + max k 0) - max i 0).toNat)).v :: (Sv24.text (((nz t).drop (max i 0).toNat).take (max 0 (i + max k 0) - max i 0).toNat)).l = _
  rw [nz_drop, nz_take]
  exact told ((ht.drop _).take _)
theorem turn_eq {t : List Int} (ht : Nn t) : PySv24.turn t = tell t.reverse := by
  show (Sv24.text (nz t).reverse).v :: (Sv24.text (nz t).reverse).l = _
  rw [nz_rev]
  exact told (fun x hx => ht x (List.mem_reverse.1 hx))
theorem only_eq {t s : List Int} {how : Int} (ht : Nn t) (hs : Nn s) : PySv24.only how t s = tell (t.filter fun c => s.contains c == decide (how = 0)) := by
  show (Sv24.text ((nz t).filter fun c => (nz s).contains c == decide (how = 0))).v :: (Sv24.text ((nz t).filter fun c => (nz s).contains c == decide (how = 0))).l = _
  rw [nz_filter (g := fun c => s.contains c == decide (how = 0)) (fun x hx => by rw [nz_has hs (ht x hx)])]
  exact told (fun x hx => ht x (List.mem_filter.1 hx).1)
theorem mask_go {s : List Int} (hs : Nn s) : ∀ {t : List Int}, Nn t → ((List.range t.length).map fun i => if (nz s).contains ((nz t).getD i 0) = true then 2 ^ i else 0) = ((List.range t.length).map fun i => if s.contains (t.getD i 0) = true then 2 ^ i else 0) := by
  intro t ht
  apply List.map_congr_left
  intro i hi
  have hi := List.mem_range.1 hi
  have e : (nz t).getD i 0 = (t.getD i 0).toNat := by
    simp [nz, Sv24Neutral.n, List.getD_eq_getElem?_getD, hi]
  have h0 : 0 ≤ t.getD i 0 := by
    rw [List.getD_eq_getElem?_getD, List.getElem?_eq_getElem hi]
    exact ht _ (List.getElem_mem hi)
  rw [e, nz_has hs h0]
/-- bits from the place k on -/
def bitsFrom (s : List Int) : Nat → List Int → Int
  | _, [] => 0
  | k, c :: r => (if s.contains c = true then (2 : Int) ^ k else 0) + bitsFrom s (k + 1) r
theorem bits_range (s : List Int) : ∀ (t : List Int) (k : Nat), bitsFrom s k t = ((((List.range t.length).map fun i => if s.contains (t.getD i 0) = true then 2 ^ (k + i) else 0).sum : Nat) : Int)
  | [], _ => rfl
  | c :: r, k => by
    have ih := bits_range s r (k + 1)
    rw [bitsFrom, ih, List.length_cons, List.range_succ_eq_map, List.map_cons, List.map_map, List.sum_cons, Int.natCast_add]
    congr 1
    · show _ = (((if s.contains c = true then 2 ^ (k + 0) else 0) : Nat) : Int)
      split <;> simp
    · congr 1
      apply congrArg
      apply List.map_congr_left
      intro i _
      show _ = if s.contains (r.getD i 0) = true then 2 ^ (k + (i + 1)) else 0
      rw [Nat.add_right_comm, Nat.add_assoc]
theorem mask_eq {t s : List Int} (ht : Nn t) (hs : Nn s) : PySv24.mask t s = [bitsFrom s 0 t] := by
  show [((Sv24.mask (nz t) (nz s) : Nat) : Int)] = _
  unfold Sv24.mask
  rw [nz_len, mask_go hs ht, bits_range]
  simp only [Nat.zero_add]
/-! ### case -/
def smallZ (c : Int) : Int := if 65 ≤ c ∧ c ≤ 90 then c + 32 else c
def capZ (c : Int) : Int := if 97 ≤ c ∧ c ≤ 122 then c - 32 else c
def otherZ (c : Int) : Int := if 65 ≤ c ∧ c ≤ 90 then c + 32 else capZ c
def letterZ (c : Int) : Bool := (decide (65 ≤ c) && decide (c ≤ 90)) || (decide (97 ≤ c) && decide (c ≤ 122))
theorem small_z {c : Int} (h : 0 ≤ c) : Sv24.small c.toNat = (smallZ c).toNat := by
  unfold Sv24.small smallZ; split <;> split <;> omega
theorem cap_z {c : Int} (h : 0 ≤ c) : Sv24.capital c.toNat = (capZ c).toNat := by
  unfold Sv24.capital capZ; split <;> split <;> omega
theorem other_z {c : Int} (h : 0 ≤ c) : (if 65 ≤ c.toNat ∧ c.toNat ≤ 90 then c.toNat + 32 else Sv24.capital c.toNat) = (otherZ c).toNat := by
  unfold otherZ; rw [cap_z h]; split <;> split <;> omega
theorem letter_z {c : Int} (h : 0 ≤ c) : Sv24.letter c.toNat = letterZ c := by
  unfold Sv24.letter letterZ
  have e1 : (65 ≤ c.toNat) = (65 ≤ c) := by apply propext; omega
  have e2 : (c.toNat ≤ 90) = (c ≤ 90) := by apply propext; omega
  have e3 : (97 ≤ c.toNat) = (97 ≤ c) := by apply propext; omega
  have e4 : (c.toNat ≤ 122) = (c ≤ 122) := by apply propext; omega
  simp only [e1, e2, e3, e4]
theorem small_nn {c : Int} (h : 0 ≤ c) : 0 ≤ smallZ c := by unfold smallZ; split <;> omega
theorem cap_nn {c : Int} (h : 0 ≤ c) : 0 ≤ capZ c := by unfold capZ; split <;> omega
theorem other_nn {c : Int} (h : 0 ≤ c) : 0 ≤ otherZ c := by unfold otherZ capZ; split <;> (try split) <;> omega
def titledZ : Bool → List Int → List Int
  | _, [] => []
  | b, c :: r => (if b = true then smallZ c else capZ c) :: titledZ (letterZ c) r
theorem titled_z : ∀ {l : List Int} {b : Bool}, Nn l → Sv24.titled b (nz l) = nz (titledZ b l) ∧ Nn (titledZ b l)
  | [], b, _ => ⟨by cases b <;> rfl, by cases b <;> exact fun x hx => (nomatch hx)⟩
  | c :: r, b, h => by
    obtain ⟨e, hn⟩ := titled_z (b := letterZ c) h.tail
    constructor
    · rw [nz_cons, Sv24.titled, titledZ, nz_cons, letter_z h.head, e, small_z h.head, cap_z h.head]
      cases b <;> rfl
    · intro x hx
      rw [titledZ] at hx
      rcases List.mem_cons.1 hx with rfl | hx
      · cases b
        · exact cap_nn h.head
        · exact small_nn h.head
      · exact hn x hx
def casedZ (how : Int) (t : List Int) : List Int := if how = 0 then t.map smallZ else if how = 1 then t.map capZ else if how = 2 then t.map otherZ else if how = 3 then titledZ false t else t
theorem nn_map {l : List Int} {g : Int → Int} (h : Nn l) (hg : ∀ c, 0 ≤ c → 0 ≤ g c) : Nn (l.map g) := by
  intro x hx
  obtain ⟨y, hy, rfl⟩ := List.mem_map.1 hx
  exact hg y (h y hy)
theorem cased_eq {how : Int} {t : List Int} (ht : Nn t) : PySv24.cased how t = tell (casedZ how t) := by
  show (Sv24.text (Sv24.cased (nz t) how)).v :: (Sv24.text (Sv24.cased (nz t) how)).l = _
  have e : Sv24.cased (nz t) how = nz (casedZ how t) ∧ Nn (casedZ how t) := by
    unfold Sv24.cased casedZ
    split
    · exact ⟨nz_map (fun x hx => small_z (ht x hx)), nn_map ht (fun c h => small_nn h)⟩
    · split
      · exact ⟨nz_map (fun x hx => cap_z (ht x hx)), nn_map ht (fun c h => cap_nn h)⟩
      · split
        · exact ⟨nz_map (fun x hx => other_z (ht x hx)), nn_map ht (fun c h => other_nn h)⟩
        · split
          · exact titled_z ht
          · exact ⟨rfl, ht⟩
  rw [e.1]
  exact told e.2
/-! ### trim -/
def trimZ (how : Int) (t s : List Int) : List Int :=
  let a := if how % 2 = 1 then t.dropWhile s.contains else t
  if how / 2 % 2 = 1 then (a.reverse.dropWhile s.contains).reverse else a
theorem nn_sub {a b : List Int} (h : Nn b) (hs : a.Sublist b) : Nn a := fun x hx => h x (hs.subset hx)
theorem trim_eq {how : Int} {t s : List Int} (ht : Nn t) (hs : Nn s) : PySv24.trim how t s = tell (trimZ how t s) := by
  show (Sv24.text (Sv24.trim (nz t) (nz s) how)).v :: (Sv24.text (Sv24.trim (nz t) (nz s) how)).l = _
  have hc : ∀ {l : List Int}, Nn l → (nz l).dropWhile (nz s).contains = nz (l.dropWhile s.contains) := fun h => nz_dropWhile (fun x hx => nz_has hs (h x hx))
  have e : Sv24.trim (nz t) (nz s) how = nz (trimZ how t s) ∧ Nn (trimZ how t s) := by
    unfold Sv24.trim trimZ
    have h1 : (if how % 2 = 1 then (nz t).dropWhile (nz s).contains else nz t) = nz (if how % 2 = 1 then t.dropWhile s.contains else t) := by
      split
      · exact hc ht
      · rfl
    have h2 : Nn (if how % 2 = 1 then t.dropWhile s.contains else t) := by
      split
      · exact nn_sub ht (List.dropWhile_sublist _)
      · exact ht
    dsimp only
    rw [h1]
    generalize (if how % 2 = 1 then t.dropWhile s.contains else t) = a at h2
    have h3 : Nn a.reverse := fun x hx => h2 x (List.mem_reverse.1 hx)
    split
    · rw [nz_rev, hc h3, nz_rev]
      exact ⟨rfl, fun x hx => nn_sub h3 (List.dropWhile_sublist _) x (List.mem_reverse.1 hx)⟩
    · exact ⟨rfl, h2⟩
  rw [e.1]
  exact told e.2
/-! ### compare -/
def beforeZ : List Int → List Int → Bool
  | a :: r, b :: s => decide (a < b) || (a == b && beforeZ r s)
  | [], _ :: _ => true
  | _, [] => false
theorem before_z : ∀ {a b : List Int}, Nn a → Nn b → Sv24.before (nz a) (nz b) = beforeZ a b
  | [], [], _, _ => rfl
  | [], _ :: _, _, _ => rfl
  | _ :: _, [], _, _ => rfl
  | x :: r, y :: s, ha, hb => by
    rw [nz_cons, nz_cons, Sv24.before, beforeZ, before_z ha.tail hb.tail]
    have h1 := ha.head
    have h2 := hb.head
    have e1 : (x.toNat < y.toNat) = (x < y) := by apply propext; omega
    have e2 : (x.toNat == y.toNat) = (x == y) := by rw [Bool.eq_iff_iff, beq_iff_eq, beq_iff_eq]; omega
    simp only [e1, e2]
def compareZ (how : Int) (a b : List Int) : Int :=
  let x := if how = 1 then a.map smallZ else a
  let y := if how = 1 then b.map smallZ else b
  if how ≠ 0 ∧ how ≠ 1 ∧ x.length ≠ y.length then (if x.length < y.length then -1 else 1) else if beforeZ x y = true then -1 else if beforeZ y x = true then 1 else 0
theorem compare_eq {how : Int} {a b : List Int} (ha : Nn a) (hb : Nn b) : PySv24.compare how a b = [compareZ how a b] := by
  show [Sv24.compare (nz a) (nz b) how] = _
  unfold Sv24.compare compareZ
  have h1 : ∀ {l : List Int}, Nn l → (if how = 1 then (nz l).map Sv24.small else nz l) = nz (if how = 1 then l.map smallZ else l) ∧ Nn (if how = 1 then l.map smallZ else l) := by
    intro l h
    split
    · exact ⟨nz_map (fun x hx => small_z (h x hx)), nn_map h (fun c h => small_nn h)⟩
    · exact ⟨rfl, h⟩
  dsimp only
  rw [(h1 ha).1, (h1 hb).1, nz_len, nz_len, before_z (h1 ha).2 (h1 hb).2, before_z (h1 hb).2 (h1 ha).2]
/-! ### pieces -/
def betweenZ : Nat → List Int → List Int → List Int → List (List Int)
  | 0, _, _, w => [w]
  | f + 1, t, p, w => match t with
    | [] => [w]
    | c :: r => if p.isPrefixOf t = true then w :: betweenZ f (t.drop p.length) p [] else betweenZ f r p (w ++ [c])
theorem prefix_z : ∀ {p t : List Int}, Nn p → Nn t → (nz p).isPrefixOf (nz t) = p.isPrefixOf t
  | [], _, _, _ => by rw [nz_nil, List.isPrefixOf, List.isPrefixOf]
  | _ :: _, [], _, _ => rfl
  | x :: r, y :: s, hp, ht => by
    rw [nz_cons, nz_cons, List.isPrefixOf, List.isPrefixOf, prefix_z hp.tail ht.tail]
    have h1 := hp.head
    have h2 := ht.head
    have e2 : (x.toNat == y.toNat) = (x == y) := by rw [Bool.eq_iff_iff, beq_iff_eq, beq_iff_eq]; omega
    rw [e2]
theorem nn_one {c : Int} (h : 0 ≤ c) : Nn [c] := fun x hx => by rcases List.mem_singleton.1 hx with rfl; exact h
theorem between_z : ∀ (f : Nat) {t p w : List Int}, Nn t → Nn p → Nn w → Sv24.between f (nz t) (nz p) (nz w) = (betweenZ f t p w).map nz ∧ ∀ x ∈ betweenZ f t p w, Nn x
  | 0, t, p, w, _, _, hw => by
    rw [Sv24.between, betweenZ]
    exact ⟨rfl, fun _ hx => by rcases List.mem_singleton.1 hx with rfl; exact hw⟩
  | f + 1, [], p, w, _, _, hw => by
    rw [nz_nil, Sv24.between, betweenZ]
    exact ⟨rfl, fun x hx => by rcases List.mem_singleton.1 hx with rfl; exact hw⟩
  | f + 1, c :: r, p, w, ht, hp, hw => by
    have e1 := between_z f (ht.drop p.length) hp (w := []) (fun x hx => (nomatch hx))
    have e2 := between_z f ht.tail hp (hw.app (nn_one ht.head))
    rw [nz_cons, Sv24.between, betweenZ, ← nz_cons, prefix_z hp ht]
    split
    · constructor
      · rw [nz_len, nz_drop, List.map_cons, ← e1.1]; rfl
      · intro x hx
        rcases List.mem_cons.1 hx with rfl | hx
        · exact hw
        · exact e1.2 x hx
    · constructor
      · rw [← e2.1, ← nz_app]; rfl
      · exact e2.2
def countZ (t p : List Int) : Int := if p = [] then (t.length : Int) + 1 else (((betweenZ (t.length + 1) t p []).length - 1 : Nat) : Int)
theorem nn_nil : Nn [] := fun x hx => (nomatch hx)
theorem count_eq {t p : List Int} (ht : Nn t) (hp : Nn p) : PySv24.count t p = [countZ t p] := by
  show [((Sv24.count (nz t) (nz p) : Nat) : Int)] = _
  unfold Sv24.count countZ
  simp only [nz_eqnil, nz_len]
  have e := (between_z (t.length + 1) ht hp nn_nil).1
  rw [nz_nil] at e
  rw [e, List.length_map]
  split
  · rw [Int.natCast_add]; rfl
  · rfl
def replaceZ (t p r : List Int) : List Int := if p = [] then t else r.intercalate (betweenZ (t.length + 1) t p [])
theorem nz_flat : ∀ (l : List (List Int)), (l.map nz).flatten = nz l.flatten
  | [] => rfl
  | a :: r => by rw [List.map_cons, List.flatten_cons, List.flatten_cons, nz_flat r, nz_app]
theorem nz_inter (r : List Int) : ∀ (l : List (List Int)), List.intersperse (nz r) (l.map nz) = (List.intersperse r l).map nz
  | [] => rfl
  | [_] => rfl
  | a :: b :: l => by
    have ih := nz_inter r (b :: l)
    rw [List.map_cons] at ih
    rw [List.map_cons, List.map_cons, List.intersperse_cons_cons, List.intersperse_cons_cons, ih]
    rfl
theorem nz_sep (r : List Int) : ∀ (l : List (List Int)), (nz r).intercalate (l.map nz) = nz (r.intercalate l) := by
  intro l
  unfold List.intercalate
  rw [← nz_flat, nz_inter]
theorem mem_sep {x : Int} {r : List Int} {l : List (List Int)} (h : x ∈ r.intercalate l) : x ∈ r ∨ ∃ y ∈ l, x ∈ y := by
  unfold List.intercalate at h
  obtain ⟨y, hy, hx⟩ := List.mem_flatten.1 h
  induction l with
  | nil => cases hy
  | cons a l ih =>
    cases l with
    | nil =>
      rw [List.intersperse_singleton] at hy
      rcases List.mem_singleton.1 hy with rfl
      exact .inr ⟨y, List.mem_cons_self, hx⟩
    | cons b l =>
      rw [List.intersperse_cons_cons] at hy
      rcases List.mem_cons.1 hy with rfl | hy
      · exact .inr ⟨y, List.mem_cons_self, hx⟩
      · rcases List.mem_cons.1 hy with rfl | hy
        · exact .inl hx
        · have h2 : x ∈ (List.intersperse r (b :: l)).flatten := List.mem_flatten.2 ⟨y, hy, hx⟩
          rcases ih h2 hy with h3 | ⟨z, hz, hxz⟩
          · exact .inl h3
          · exact .inr ⟨z, List.mem_cons_of_mem _ hz, hxz⟩
theorem replace_eq {t p r : List Int} (ht : Nn t) (hp : Nn p) (hr : Nn r) : PySv24.replace t p r = tell (replaceZ t p r) := by
  show (Sv24.text (Sv24.replace (nz t) (nz p) (nz r))).v :: (Sv24.text (Sv24.replace (nz t) (nz p) (nz r))).l = _
  have e := between_z (t.length + 1) ht hp nn_nil
  rw [nz_nil] at e
  have e2 : Sv24.replace (nz t) (nz p) (nz r) = nz (replaceZ t p r) ∧ Nn (replaceZ t p r) := by
    unfold Sv24.replace replaceZ
    simp only [nz_eqnil, nz_len]
    split
    · exact ⟨rfl, ht⟩
    · rw [e.1, nz_sep]
      refine ⟨rfl, fun x hx => ?_⟩
      rcases mem_sep hx with h | ⟨y, hy, h⟩
      · exact hr x h
      · exact e.2 y hy x h
  rw [e2.1]
  exact told e2.2
end My

namespace My
/-! ## digits, over whole numbers -/
def digZ (d : Int) : Int := if d < 10 then 48 + d else 87 + d
theorem dig_z {d : Nat} : ((Sv24.digit d : Nat) : Int) = digZ (d : Int) := by
  unfold Sv24.digit digZ; split <;> split <;> omega
/-- the digits of n, the highest first -/
theorem digits_step {f base n : Nat} (_ : 2 ≤ base) (_ : n < base ^ (f + 1)) :
    Sv24.digits (f + 1) base n = if n < base then [Sv24.digit n] else Sv24.digits f base (n / base) ++ [Sv24.digit (n % base)] := rfl
theorem digits_fuel : ∀ {f g base n : Nat}, 2 ≤ base → n < base ^ f → n < base ^ g → 0 < f → 0 < g → Sv24.digits f base n = Sv24.digits g base n
  | 0, _, _, _, _, _, _, h, _ => by omega
  | _ + 1, 0, _, _, _, _, _, _, h => by omega
  | f + 1, g + 1, base, n, h2, hf, hg, _, _ => by
    rw [digits_step h2 hf, digits_step h2 hg]
    split
    · rfl
    · rename_i hn
      have hd : ∀ {k : Nat}, n < base ^ (k + 1) → n / base < base ^ k := by
        intro k hk
        rw [Nat.pow_succ] at hk
        exact Nat.div_lt_of_lt_mul (by rw [Nat.mul_comm]; exact hk)
      have hpos : ∀ {k : Nat}, n < base ^ (k + 1) → 0 < k := by
        intro k hk
        cases k with
        | zero => exact absurd (by simpa using hk) hn
        | succ k => omega
      rw [digits_fuel h2 (hd hf) (hd hg) (hpos hf) (hpos hg)]
theorem pow_le_64 {base : Nat} (h : 2 ≤ base) : 2 ^ 64 ≤ base ^ 64 := Nat.pow_le_pow_left h 64
/-- the digits with enough room for any long -/
def digs (base n : Nat) : List Nat := Sv24.digits 65 base n
theorem digs_eq {base n : Nat} (h2 : 2 ≤ base) (hn : n < 2 ^ 64) : digs base n = if n < base then [Sv24.digit n] else digs base (n / base) ++ [Sv24.digit (n % base)] := by
  have h64 : n < base ^ 64 := Nat.lt_of_lt_of_le hn (pow_le_64 h2)
  have h65 : n < base ^ (64 + 1) := Nat.lt_of_lt_of_le h64 (Nat.pow_le_pow_right (by omega) (by omega))
  unfold digs
  rw [digits_step h2 h65]
  split
  · rfl
  · rename_i h
    have hd : n / base < base ^ 64 := Nat.lt_of_le_of_lt (Nat.div_le_self _ _) h64
    rw [digits_fuel (g := 65) h2 hd (Nat.lt_of_lt_of_le hd (Nat.pow_le_pow_right (by omega) (by omega))) (by omega) (by omega)]
/-! ## numbers read -/
def worthZ (c : Int) : Int := if 48 ≤ c ∧ c ≤ 57 then c - 48 else if 97 ≤ c ∧ c ≤ 122 then c - 87 else if 65 ≤ c ∧ c ≤ 90 then c - 55 else -1
theorem worth_z {c : Int} (h : 0 ≤ c) : Sv24.digitOf c.toNat = if worthZ c < 0 then none else some (worthZ c).toNat := by
  have e0 : worthZ c = if 48 ≤ c ∧ c ≤ 57 then c - 48 else if 97 ≤ c ∧ c ≤ 122 then c - 87 else if 65 ≤ c ∧ c ≤ 90 then c - 55 else -1 := rfl
  generalize worthZ c = w at e0
  unfold Sv24.digitOf
  split
  · rw [if_pos (by omega)] at e0
    rw [if_neg (by omega)]
    congr 1; omega
  · rw [if_neg (by omega)] at e0
    split
    · rw [if_pos (by omega)] at e0
      rw [if_neg (by omega)]
      congr 1; omega
    · rw [if_neg (by omega)] at e0
      split
      · rw [if_pos (by omega)] at e0
        rw [if_neg (by omega)]
        congr 1; omega
      · rw [if_neg (by omega)] at e0
        rw [if_pos (by omega)]
theorem worth_lo {c : Int} : -1 ≤ worthZ c ∧ worthZ c ≤ 35 := by
  unfold worthZ; split <;> (try split) <;> (try split) <;> omega
/-- digits read from n on -/
def readZ (base : Int) : Int → List Int → Option Int
  | n, [] => some n
  | n, c :: r => if 0 ≤ worthZ c ∧ worthZ c < base then readZ base (base * n + worthZ c) r else none
theorem read_z {base : Int} (hb : 0 ≤ base) : ∀ {l : List Int} {n : Nat}, (∀ x ∈ l, (0 : Int) ≤ x) →
    (((l.map Int.toNat).mapM fun c => (Sv24.digitOf c).bind fun x => if x < base.toNat then some x else none).map fun l => ((l.foldl (fun n x => base.toNat * n + x) n : Nat) : Int)) = readZ base (n : Int) l
  | [], n, _ => rfl
  | c :: r, n, h => by
    have ih := fun m => read_z hb (l := r) (n := m) (fun x hx => h x (List.mem_cons_of_mem _ hx))
    have hc := h c List.mem_cons_self
    rw [List.map_cons, List.mapM_cons, worth_z hc, readZ]
    by_cases hw : worthZ c < 0
    · rw [if_pos hw, if_neg (by omega)]; rfl
    · rw [if_neg hw]
      by_cases hw2 : worthZ c < base
      · rw [if_pos (by omega)]
        have e : (Option.some (worthZ c).toNat).bind (fun x => if x < base.toNat then some x else none) = some (worthZ c).toNat := by
          show (if (worthZ c).toNat < base.toNat then some (worthZ c).toNat else none) = _
          rw [if_pos (by omega)]
        rw [e]
        have e2 := ih (base.toNat * n + (worthZ c).toNat)
        have e3 : ((base.toNat * n + (worthZ c).toNat : Nat) : Int) = base * (n : Int) + worthZ c := by
          rw [Int.natCast_add, Int.natCast_mul, Int.toNat_of_nonneg hb, Int.toNat_of_nonneg (by omega)]
        rw [e3] at e2
        rw [← e2]
        simp only [Option.pure_def, Option.bind_eq_bind, Option.bind_some]
        cases ((r.map Int.toNat).mapM fun c => (Sv24.digitOf c).bind fun x => if x < base.toNat then some x else none) <;> rfl
      · rw [if_neg (by omega)]
        have e : (Option.some (worthZ c).toNat).bind (fun x => if x < base.toNat then some x else none) = none := by
          show (if (worthZ c).toNat < base.toNat then some (worthZ c).toNat else none) = _
          rw [if_neg (by omega)]
        rw [e]; rfl
end My

namespace My
/-- one byte that fits, then a pattern -/
def stepM (fits : Nat → Bool) (k : List Nat → Bool) : List Nat → Bool
  | [] => false
  | d :: r => fits d && k r
/-- matching, told by the pattern -/
def mt : Nat → List Nat → List Nat → Bool
  | 0, _, t => t.isEmpty
  | f + 1, p, t => match p with
    | [] => t.isEmpty
    | 42 :: q => (List.range (t.length + 1)).any fun i => mt f q (t.drop i)
    | 63 :: q => stepM (fun _ => true) (mt f q) t
    | 92 :: c :: q => stepM (fun d => d == c) (mt f q) t
    | c :: q => stepM (fun d => d == c) (mt f q) t
theorem spread_len : ∀ (m : List Bool) (b : Bool), (Sv24.spread b m).length = m.length
  | [], _ => rfl
  | x :: r, b => by rw [Sv24.spread, List.length_cons, List.length_cons, spread_len r]
theorem spread_at : ∀ (m : List Bool) (b : Bool) (i : Nat), i < m.length → ((Sv24.spread b m).getD i false = true ↔ b = true ∨ ∃ j, j ≤ i ∧ m.getD j false = true)
  | [], _, _, h => by simp at h
  | x :: r, b, 0, _ => by
    rw [Sv24.spread]
    show (b || x) = true ↔ _
    rw [Bool.or_eq_true]
    constructor
    · rintro (h | h)
      · exact .inl h
      · exact .inr ⟨0, Nat.le_refl _, h⟩
    · rintro (h | ⟨j, hj, h⟩)
      · exact .inl h
      · have : j = 0 := by omega
        subst this
        exact .inr h
  | x :: r, b, i + 1, h => by
    rw [Sv24.spread]
    show (Sv24.spread (b || x) r).getD i false = true ↔ _
    rw [spread_at r (b || x) i (by simpa using h), Bool.or_eq_true]
    constructor
    · rintro ((h | h) | ⟨j, hj, h⟩)
      · exact .inl h
      · exact .inr ⟨0, by omega, h⟩
      · exact .inr ⟨j + 1, by omega, h⟩
    · rintro (h | ⟨j, hj, h⟩)
      · exact .inl (.inl h)
      · cases j with
        | zero => exact .inl (.inr h)
        | succ j => exact .inr ⟨j, by omega, h⟩
theorem onward_len {fits : Nat → Bool} {t : List Nat} {m : List Bool} (h : m.length = t.length + 1) : (Sv24.onward fits t m).length = t.length + 1 := by
  unfold Sv24.onward
  rw [List.length_cons, List.length_map, List.length_zip, h]
  omega
theorem onward_at {fits : Nat → Bool} {t : List Nat} {m : List Bool} (h : m.length = t.length + 1) (i : Nat) :
    (Sv24.onward fits t m).getD (i + 1) false = true ↔ ∃ d, t[i]? = some d ∧ m.getD i false = true ∧ fits d = true := by
  unfold Sv24.onward
  rw [List.getD_cons_succ, List.getD_eq_getElem?_getD, List.getElem?_map]
  cases ht : t[i]? with
  | none =>
    have : (t.zip m)[i]? = none := by
      rw [List.getElem?_eq_none_iff] at ht ⊢
      rw [List.length_zip]; omega
    rw [this]
    simp
  | some d =>
    have hi : i < t.length := (List.getElem?_eq_some_iff.1 ht).1
    have hm : m[i]? = some (m.getD i false) := by
      rw [List.getD_eq_getElem?_getD, List.getElem?_eq_getElem (by omega)]; rfl
    have : (t.zip m)[i]? = some (d, m.getD i false) := List.getElem?_zip_eq_some.2 ⟨ht, hm⟩
    rw [this]
    simp
/-- some marked place from which the pattern goes to the end -/
def Reach (t : List Nat) (m : List Bool) (k : List Nat → Bool) : Prop := ∃ i, i ≤ t.length ∧ m.getD i false = true ∧ k (t.drop i) = true
theorem reach_step {fits : Nat → Bool} {t : List Nat} {m : List Bool} {k : List Nat → Bool} (h : m.length = t.length + 1) :
    Reach t (Sv24.onward fits t m) k ↔ Reach t m (stepM fits k) := by
  constructor
  · rintro ⟨i, hi, h1, h2⟩
    cases i with
    | zero => simp [Sv24.onward] at h1
    | succ i =>
      obtain ⟨d, hd, hm, hf⟩ := (onward_at h i).1 h1
      refine ⟨i, by omega, hm, ?_⟩
      obtain ⟨hl, he⟩ := List.getElem?_eq_some_iff.1 hd
      rw [List.drop_eq_getElem_cons hl, he, stepM, hf, h2]; rfl
  · rintro ⟨i, hi, hm, h2⟩
    by_cases hl : i < t.length
    · rw [List.drop_eq_getElem_cons hl, stepM, Bool.and_eq_true] at h2
      exact ⟨i + 1, by omega, (onward_at h i).2 ⟨t[i], List.getElem?_eq_getElem hl, hm, h2.1⟩, h2.2⟩
    · rw [List.drop_of_length_le (by omega), stepM] at h2
      cases h2
theorem reach_star {t : List Nat} {m : List Bool} {k : List Nat → Bool} (h : m.length = t.length + 1) :
    Reach t (Sv24.spread false m) k ↔ Reach t m (fun u => (List.range (u.length + 1)).any fun i => k (u.drop i)) := by
  constructor
  · rintro ⟨i, hi, h1, h2⟩
    rcases (spread_at m false i (by omega)).1 h1 with h0 | ⟨j, hj, hm⟩
    · cases h0
    · refine ⟨j, by omega, hm, List.any_eq_true.2 ⟨i - j, List.mem_range.2 (by rw [List.length_drop]; omega), ?_⟩⟩
      rw [List.drop_drop]
      have e : j + (i - j) = i := by omega
      rw [e]; exact h2
  · rintro ⟨j, hj, hm, h2⟩
    obtain ⟨i, hi, h2⟩ := List.any_eq_true.1 h2
    rw [List.mem_range, List.length_drop] at hi
    rw [List.drop_drop] at h2
    exact ⟨j + i, by omega, (spread_at m false (j + i) (by omega)).2 (.inr ⟨j, by omega, hm⟩), h2⟩
theorem reach_end {t : List Nat} {m : List Bool} (h : m.length = t.length + 1) : m.getLastD false = true ↔ Reach t m List.isEmpty := by
  have e : m.getLastD false = m.getD t.length false := by
    cases m with
    | nil => simp at h
    | cons x r =>
      rw [List.getLastD_cons, List.getD_eq_getElem?_getD]
      rw [List.length_cons] at h
      have h' : r.length = t.length := by omega
      rw [← h', List.getLastD_eq_getLast?]
      cases r with
      | nil => rfl
      | cons y s =>
        rw [List.getLast?_eq_getElem?]
        simp
  rw [e]
  constructor
  · intro hm
    exact ⟨t.length, Nat.le_refl _, hm, by rw [List.drop_length]; rfl⟩
  · rintro ⟨i, hi, hm, h2⟩
    have : t.drop i = [] := List.isEmpty_iff.1 h2
    have := List.drop_eq_nil_iff.1 this
    have e : i = t.length := by omega
    exact e ▸ hm
theorem like_from {t : List Nat} : ∀ (f : Nat) (p : List Nat) (m : List Bool), m.length = t.length + 1 → p.length ≤ f →
    ((Sv24.likeFrom t f p m).getLastD false = true ↔ Reach t m (mt f p))
  | 0, p, m, h, hp => by
    rw [Sv24.likeFrom]
    have : p = [] := List.eq_nil_of_length_eq_zero (by omega)
    exact reach_end h
  | f + 1, p, m, h, hp => by
    unfold Sv24.likeFrom
    have hmt : mt (f + 1) p = fun t => mt (f + 1) p t := rfl
    rw [hmt]
    simp only [mt]
    split
    · exact reach_end h
    · rename_i q
      rw [like_from f q _ (by rw [spread_len, h]) (by simpa using hp)]
      exact reach_star h
    · rename_i q
      rw [like_from f q _ (onward_len h) (by simpa using hp)]
      exact reach_step h
    · rename_i c q
      rw [like_from f q _ (onward_len h) (by simp only [List.length_cons] at hp; omega)]
      exact reach_step h
    · rename_i c q n1 n2 n3
      rw [like_from f q _ (onward_len h) (by simpa using hp)]
      have e : (fun t => match c :: q with
          | [] => t.isEmpty
          | 42 :: q => (List.range (t.length + 1)).any fun i => mt f q (t.drop i)
          | 63 :: q => stepM (fun _ => true) (mt f q) t
          | 92 :: c :: q => stepM (fun d => d == c) (mt f q) t
          | c :: q => stepM (fun d => d == c) (mt f q) t) = stepM (fun d => d == c) (mt f q) := by
        funext u
        split
        · rename_i e; cases e
        · rename_i e; cases e; exact absurd rfl n1
        · rename_i e; cases e; exact absurd rfl n2
        · rename_i e; cases e; exact (n3 _ _ rfl rfl).elim
        · rename_i e; cases e; rfl
      rw [e]
      exact reach_step h
theorem like_mt (p t : List Nat) : Sv24.like p t = mt p.length p t := by
  rw [Bool.eq_iff_iff]
  unfold Sv24.like
  rw [like_from p.length p _ (by simp) (Nat.le_refl _)]
  constructor
  · rintro ⟨i, hi, hm, h⟩
    cases i with
    | zero => exact h
    | succ i =>
      exfalso
      rw [List.getD_cons_succ, List.getD_eq_getElem?_getD, List.getElem?_map] at hm
      cases hx : t[i]? with
      | none => rw [hx] at hm; cases hm
      | some d => rw [hx] at hm; cases hm
  · intro h
    exact ⟨0, Nat.zero_le _, rfl, h⟩
end My

namespace My
/-! ## hexadecimal -/
def hexZ (t : List Int) : List Int := t.flatMap fun c => [digZ (c / 16), digZ (c % 16)]
theorem digZ_nn {d : Int} (h : 0 ≤ d) : 0 ≤ digZ d := by unfold digZ; split <;> omega
theorem dig_nz {d : Int} (h : 0 ≤ d) : Sv24.digit d.toNat = (digZ d).toNat := by
  unfold Sv24.digit digZ; split <;> split <;> omega
theorem hex_z : ∀ {t : List Int}, Nn t → Sv24.hex (nz t) = nz (hexZ t) ∧ Nn (hexZ t)
  | [], _ => ⟨rfl, nn_nil⟩
  | c :: r, h => by
    obtain ⟨e, hn⟩ := hex_z h.tail
    have hc := h.head
    unfold Sv24.hex hexZ at *
    rw [nz_cons, List.flatMap_cons, List.flatMap_cons, e, ← nz_app]
    have h1 : 0 ≤ c / 16 := Int.ediv_nonneg hc (by decide)
    have h2 : 0 ≤ c % 16 := Int.emod_nonneg _ (by decide)
    refine ⟨?_, Nn.app ?_ hn⟩
    · show [Sv24.digit (c.toNat / 16), Sv24.digit (c.toNat % 16)] ++ _ = [(digZ (c / 16)).toNat, (digZ (c % 16)).toNat] ++ _
      rw [← dig_nz h1, ← dig_nz h2]
      have e1 : c.toNat / 16 = (c / 16).toNat := by omega
      have e2 : c.toNat % 16 = (c % 16).toNat := by omega
      rw [e1, e2]
    · intro x hx
      rcases List.mem_cons.1 hx with rfl | hx
      · exact digZ_nn h1
      · rcases List.mem_singleton.1 hx with rfl
        exact digZ_nn h2
theorem hex_eq {t : List Int} (ht : Nn t) : PySv24.hex_of t = tell (hexZ t) := by
  show (Sv24.text (Sv24.hex (nz t))).v :: (Sv24.text (Sv24.hex (nz t))).l = _
  rw [(hex_z ht).1]
  exact told (hex_z ht).2
def unhexZ : List Int → Option (List Int)
  | [] => some []
  | [_] => none
  | a :: b :: r => if (0 ≤ worthZ a ∧ worthZ a < 16) ∧ (0 ≤ worthZ b ∧ worthZ b < 16) then (unhexZ r).map fun l => (16 * worthZ a + worthZ b) :: l else none
theorem unhex_z : ∀ {t : List Int}, Nn t → Sv24.unhex (nz t) = (unhexZ t).map nz ∧ ∀ l, unhexZ t = some l → Nn l
  | [], _ => ⟨rfl, fun l h => by cases h; exact nn_nil⟩
  | [_], _ => ⟨rfl, fun l h => by cases h⟩
  | a :: b :: r, h => by
    obtain ⟨e, hn⟩ := unhex_z h.tail.tail
    have ha := h.head
    have hb := h.tail.head
    rw [nz_cons, nz_cons, Sv24.unhex, unhexZ, worth_z ha, worth_z hb, e]
    by_cases h1 : worthZ a < 0
    · rw [if_pos h1, if_neg (show ¬((0 ≤ worthZ a ∧ worthZ a < 16) ∧ (0 ≤ worthZ b ∧ worthZ b < 16)) by omega)]
      exact ⟨rfl, fun l h => by cases h⟩
    · rw [if_neg h1]
      by_cases h2 : worthZ b < 0
      · rw [if_pos h2, if_neg (show ¬((0 ≤ worthZ a ∧ worthZ a < 16) ∧ (0 ≤ worthZ b ∧ worthZ b < 16)) by omega)]
        exact ⟨rfl, fun l h => by cases h⟩
      · rw [if_neg h2]
        show ((if 16 ≤ (worthZ a).toNat ∨ 16 ≤ (worthZ b).toNat then none else (Option.map nz (unhexZ r)).map fun l => (16 * (worthZ a).toNat + (worthZ b).toNat) :: l) = _) ∧ _
        by_cases h3 : worthZ a < 16 ∧ worthZ b < 16
        · rw [if_neg (by omega), if_pos (by omega)]
          cases hr : unhexZ r with
          | none => exact ⟨rfl, fun l h => by cases h⟩
          | some l =>
            refine ⟨?_, fun l' h' => ?_⟩
            · show some ((16 * (worthZ a).toNat + (worthZ b).toNat) :: nz l) = some (nz ((16 * worthZ a + worthZ b) :: l))
              rw [nz_cons]
              congr 2
              omega
            · have : (16 * worthZ a + worthZ b) :: l = l' := Option.some.inj h'
              subst this
              intro x hx
              rcases List.mem_cons.1 hx with rfl | hx
              · omega
              · exact hn l hr x hx
        · rw [if_pos (by omega), if_neg (by omega)]
          exact ⟨rfl, fun l h => by cases h⟩
theorem unhex_eq {t : List Int} (ht : Nn t) : PySv24.unhex t = tell ((unhexZ t).getD []) := by
  show (Sv24.text ((Sv24.unhex (nz t)).getD [])).v :: (Sv24.text ((Sv24.unhex (nz t)).getD [])).l = _
  obtain ⟨e, hn⟩ := unhex_z ht
  rw [e]
  cases hr : unhexZ t with
  | none => exact told (l := []) nn_nil
  | some l => exact told (l := l) (hn l hr)
/-! ## several texts -/
def tells (l : List (List Int)) : List Int := (l.length : Int) :: l.flatMap fun b => (b.length : Int) :: b
theorem texts_z : ∀ {l : List (List Int)}, (∀ x ∈ l, Nn x) → (Sv24.texts (l.map nz)).v :: (Sv24.texts (l.map nz)).l = tells l := by
  intro l h
  show (((l.map nz).length : Nat) : Int) :: ((l.map nz).flatMap fun b => ((b.length : Nat) : Int) :: Sv24.numbers b) = _
  unfold tells
  rw [List.length_map, List.flatMap_map]
  congr 1
  induction l with
  | nil => rfl
  | cons a r ih =>
    rw [List.flatMap_cons, List.flatMap_cons, ih (fun x hx => h x (List.mem_cons_of_mem _ hx)), nz_len, nz_back (h a List.mem_cons_self)]
theorem split_eq {c : Int} {t : List Int} (ht : Nn t) : PySv24.split c t = if c < 0 ∨ 255 < c then [-2] else tells (betweenZ (t.length + 1) t [c] []) := by
  show (let y := (if c < 0 ∨ 255 < c then Sv24.ok (-2) else Sv24.texts (Sv24.split (nz t) c.toNat)); y.v :: y.l) = _
  split
  · rfl
  · have hc : 0 ≤ c := by omega
    have e := between_z (t.length + 1) ht (nn_one hc) nn_nil
    have e2 : Sv24.split (nz t) c.toNat = (betweenZ (t.length + 1) t [c] []).map nz := by
      unfold Sv24.split
      rw [nz_len]
      exact e.1
    dsimp only
    rw [e2]
    exact texts_z e.2
theorem merge_nz : ∀ {l r : List (List Int)}, (∀ x ∈ l, Nn x) → (∀ x ∈ r, Nn x) →
    List.merge (l.map nz) (r.map nz) (fun a b => !Sv24.before b a) = (List.merge l r (fun a b => !beforeZ b a)).map nz := by
  intro l r hl hr
  rw [List.map_merge]
  intro a ha b hb
  rw [before_z (hr b hb) (hl a ha)]
theorem sort_z {rows : List (List Int)} (h : ∀ x ∈ rows, Nn x) : (rows.map nz).mergeSort (fun a b => !Sv24.before b a) = (rows.mergeSort (fun a b => !beforeZ b a)).map nz := by
  rw [List.map_mergeSort]
  intro a ha b hb
  rw [before_z (h b hb) (h a ha)]
theorem sort_eq {rows : List (List Int)} (h : ∀ x ∈ rows, Nn x) : PySv24.sort rows = tells (rows.mergeSort (fun a b => !beforeZ b a)) := by
  show (Sv24.texts ((rows.map nz).mergeSort (fun a b => !Sv24.before b a))).v :: (Sv24.texts ((rows.map nz).mergeSort (fun a b => !Sv24.before b a))).l = _
  rw [sort_z h]
  exact texts_z (fun x hx => h x (List.mem_mergeSort.1 hx))
/-! ## numbers -/
def numberZ (base : Int) (t : List Int) : List Int :=
  if base < 2 ∨ 36 < base then [-2] else
  let d := if t.head? = some 45 ∨ t.head? = some 43 then t.drop 1 else t
  if d = [] then [-3] else
  match readZ base 0 d with
  | none => [-3]
  | some n => let z := if t.head? = some 45 then -n else n
    if z < -(2 ^ 63) ∨ 2 ^ 63 ≤ z then [-7] else [0, z]
theorem head_z {t : List Int} (ht : Nn t) {k : Nat} : ((nz t).head? = some k) ↔ t.head? = some (k : Int) := by
  cases t with
  | nil => simp [nz, Sv24Neutral.n]
  | cons a r =>
    have := ht.head
    simp only [nz_cons, List.head?_cons, Option.some.injEq]
    omega
theorem number_eq {base : Int} {t : List Int} (ht : Nn t) : PySv24.number base t = numberZ base t := by
  show (let y := (if base < 2 ∨ 36 < base then Sv24.ok (-2) else (match Sv24.number (nz t) base.toNat with
    | none => Sv24.ok (-3)
    | some z => if z < -(2 ^ 63) ∨ 2 ^ 63 ≤ z then Sv24.ok (-7) else ⟨0, [z]⟩)); y.v :: y.l) = _
  unfold numberZ
  by_cases hb : base < 2 ∨ 36 < base
  · rw [if_pos hb, if_pos hb]; rfl
  · rw [if_neg hb, if_neg hb]
    have hneg : ((nz t).head? == some 45) = decide (t.head? = some 45) := by
      rw [Bool.eq_iff_iff, beq_iff_eq, decide_eq_true_eq, head_z ht]; rfl
    have hpos : ((nz t).head? = some 43) = (t.head? = some 43) := propext (head_z ht)
    have e : Sv24.number (nz t) base.toNat = (let d := if t.head? = some 45 ∨ t.head? = some 43 then t.drop 1 else t
        if d = [] then none else (readZ base 0 d).map fun n => if t.head? = some 45 then -n else n) := by
      unfold Sv24.number
      dsimp only
      rw [hneg]
      simp only [decide_eq_true_eq, hpos]
      have e1 : (if t.head? = some 45 ∨ t.head? = some 43 then (nz t).drop 1 else nz t) = nz (if t.head? = some 45 ∨ t.head? = some 43 then t.drop 1 else t) := by
        split
        · exact nz_drop 1 t
        · rfl
      rw [e1]
      have hn : Nn (if t.head? = some 45 ∨ t.head? = some 43 then t.drop 1 else t) := by
        split
        · exact ht.drop 1
        · exact ht
      generalize (if t.head? = some 45 ∨ t.head? = some 43 then t.drop 1 else t) = d at hn
      simp only [nz_eqnil]
      split
      · rfl
      · rw [show (0 : Int) = ((0 : Nat) : Int) from rfl, ← read_z (by omega) hn, Option.map_map]
        rfl
    rw [e]
    dsimp only
    generalize (if t.head? = some 45 ∨ t.head? = some 43 then t.drop 1 else t) = d
    by_cases hd : d = []
    · rw [if_pos hd, if_pos hd]; rfl
    · rw [if_neg hd, if_neg hd]
      cases readZ base 0 d with
      | none => rfl
      | some n =>
        show (let y := (if (if t.head? = some 45 then -n else n) < -(2 ^ 63) ∨ 2 ^ 63 ≤ (if t.head? = some 45 then -n else n) then Sv24.ok (-7) else ⟨0, [if t.head? = some 45 then -n else n]⟩); y.v :: y.l) = _
        dsimp only
        split <;> split <;> rfl
theorem nz_numbers (l : List Nat) : nz (Sv24.numbers l) = l := by
  unfold nz Sv24Neutral.n Sv24.numbers
  rw [List.map_map]
  conv => rhs; rw [← List.map_id l]
  rfl
theorem nn_numbers (l : List Nat) : Nn (Sv24.numbers l) := by
  intro x hx
  obtain ⟨y, _, rfl⟩ := List.mem_map.1 hx
  exact Int.natCast_nonneg y
theorem text_told (l : List Nat) : (Sv24.text l).v :: (Sv24.text l).l = tell (Sv24.numbers l) := by
  have := told (nn_numbers l)
  rw [nz_numbers] at this
  exact this
theorem digits_eq {v base : Int} : PySv24.digits v base = tell (if base < 2 ∨ 36 < base then [] else (if v < 0 then [45] else []) ++ Sv24.numbers (digs base.toNat v.natAbs)) := by
  show (Sv24.text (if base < 2 ∨ 36 < base then [] else Sv24.written v base.toNat)).v :: (Sv24.text (if base < 2 ∨ 36 < base then [] else Sv24.written v base.toNat)).l = _
  rw [text_told]
  congr 1
  split
  · rfl
  · unfold Sv24.written digs Sv24.numbers
    rw [List.map_append]
    congr 1
    split <;> rfl
theorem hash_eq {t : List Int} : PySv24.hash_of t = [((Sv24.hash (nz t) : Nat) : Int)] := rfl
theorem like_eq {t p : List Int} : PySv24.like t p = [if mt p.length (nz p) (nz t) = true then 1 else 0] := by
  show [(if Sv24.like (nz p) (nz t) = true then 1 else 0 : Int)] = _
  rw [like_mt, nz_len]
end My

namespace My
/-! ## numbers as the program reads them -/
def worthP (c : Int) : Int := if 48 ≤ c ∧ c ≤ 57 then c - 48 else if smallZ c = capZ c then 36 else smallZ c - 87
theorem worthP_eq (c : Int) : worthP c = if worthZ c < 0 then 36 else worthZ c := by
  unfold worthP worthZ smallZ capZ
  repeat' split
  all_goals omega
theorem worthP_ok {base c : Int} (hb : base ≤ 36) : worthP c < base ↔ 0 ≤ worthZ c ∧ worthZ c < base := by
  rw [worthP_eq]
  split <;> omega
/-- the worth as the walk tells it -/
theorem chain_eq (k : Int) : (if 48 ≤ k ∧ k ≤ 48 + 9 then k - 48
    else if 48 ≤ k ∧ ¬k ≤ 48 + 9 ∧ ¬smallZ k = capZ k then smallZ k - 87
      else if 48 ≤ k ∧ ¬k ≤ 48 + 9 ∧ smallZ k = capZ k then 36
        else if ¬smallZ k = capZ k then smallZ k - 87 else 36) = worthP k := by
  unfold worthP
  by_cases h : smallZ k = capZ k
  · simp only [h, not_true_eq_false, and_false, and_true, if_false, if_true]
    repeat' split
    all_goals omega
  · simp only [h, not_false_eq_true, and_false, and_true, if_false, if_true]
    repeat' split
    all_goals omega
theorem read_ok {base : Int} (hb : base ≤ 36) : ∀ (d : List Int) (n : Int), (∀ c ∈ d, worthP c < base) → readZ base n d = some (d.foldl (fun a c => a * base + worthP c) n)
  | [], n, _ => rfl
  | c :: r, n, h => by
    have hc := h c List.mem_cons_self
    have hz := (worthP_ok hb).1 hc
    rw [readZ, if_pos hz, List.foldl_cons, read_ok hb r _ (fun x hx => h x (List.mem_cons_of_mem _ hx))]
    have e : worthP c = worthZ c := by rw [worthP_eq, if_neg (by omega)]
    rw [e, Int.mul_comm base n]
theorem read_no {base : Int} (hb : base ≤ 36) : ∀ (d : List Int) (n : Int) {c : Int}, c ∈ d → base ≤ worthP c → readZ base n d = none
  | x :: r, n, c, h, hc => by
    rw [readZ]
    rcases List.mem_cons.1 h with rfl | h
    · rw [if_neg]
      intro hz
      have := (worthP_ok hb).2 hz
      omega
    · split
      · exact read_no hb r _ h hc
      · rfl
def dOf (t : List Int) : List Int := if t.head? = some 45 ∨ t.head? = some 43 then t.drop 1 else t
theorem getD0 {t : List Int} (h : 0 < t.length) : t.head? = some (t.getD (Int.toNat 0) 0) := by
  cases t with
  | nil => simp at h
  | cons a r => rfl
theorem dA {t : List Int} (h : ([43, 45].any fun x => x == t.getD (Int.toNat 0) 0) = true) : dOf t = t.drop 1 := by
  unfold dOf
  cases t with
  | nil => simp at h
  | cons a r =>
    have h : ([43, 45].any fun x => x == a) = true := h
    simp only [List.any_cons, List.any_nil, Bool.or_false, Bool.or_eq_true, beq_iff_eq] at h
    rw [if_pos]
    rcases h with rfl | rfl
    · exact .inr rfl
    · exact .inl rfl
theorem dB {t : List Int} (h : ([43, 45].any fun x => x == t.getD (Int.toNat 0) 0) = false) : dOf t = t.drop 0 := by
  unfold dOf
  cases t with
  | nil => rfl
  | cons a r =>
    have h : ([43, 45].any fun x => x == a) = false := h
    simp only [List.any_cons, List.any_nil, Bool.or_false, Bool.or_eq_false_iff, beq_eq_false_iff_ne] at h
    rw [if_neg]
    · rfl
    · rintro (e | e)
      · exact h.2 (Option.some.inj e).symm
      · exact h.1 (Option.some.inj e).symm
theorem dC {t : List Int} (h : ¬ (0 : Int) < (t.length : Int)) : dOf t = t.drop 0 := by
  have : t = [] := List.length_eq_zero_iff.1 (by omega)
  subst this
  rfl
section
variable {base M : Int} {t : List Int} {f : Int → Int} {i : Nat}
theorem num_eq (hb : 2 ≤ base) (hb2 : base ≤ 36) : numberZ base t = if dOf t = [] then [-3] else match readZ base 0 (dOf t) with
    | none => [-3]
    | some n => let z := if t.head? = some 45 then -n else n
      if z < -(2 ^ 63) ∨ 2 ^ 63 ≤ z then [-7] else [0, z] := by
  unfold numberZ dOf
  rw [if_neg (by omega)]
  all_goals rfl
theorem n2 (h : base < 2 ∨ 36 < base) : numberZ base t = [-2] := by unfold numberZ; rw [if_pos h]
theorem n3_empty (h : ((List.map f (t.drop i)).length : Int) = 0) (hd : dOf t = t.drop i) (hb : 2 ≤ base) (hb2 : base ≤ 36) : numberZ base t = [-3] := by
  rw [num_eq hb hb2, if_pos]
  rw [hd]
  rw [List.length_map] at h
  exact List.length_eq_zero_iff.1 (by omega)
theorem n3_max (hf : ∀ k, f k = worthP k) (h : M ∈ List.map f (t.drop i)) (hM : base ≤ M) (hd : dOf t = t.drop i) (hb : 2 ≤ base) (hb2 : base ≤ 36) : numberZ base t = [-3] := by
  obtain ⟨c, hc, rfl⟩ := List.mem_map.1 h
  rw [num_eq hb hb2, hd, if_neg (by intro e; rw [e] at hc; cases hc), read_no hb2 _ 0 hc (by rw [← hf]; exact hM)]
theorem fold_map (f : Int → Int) (hf : ∀ k, f k = worthP k) : ∀ (d : List Int) (n : Int), List.foldl (fun a' => HAdd.hAdd (a' * base)) n (List.map f d) = d.foldl (fun a c => a * base + worthP c) n
  | [], _ => rfl
  | c :: r, n => by rw [List.map_cons, List.foldl_cons, List.foldl_cons, fold_map f hf r, hf]
theorem num_read (hf : ∀ k, f k = worthP k) (hne : ((List.map f (t.drop i)).length : Int) ≠ 0) (hall : ∀ a, a ∈ List.map f (t.drop i) → a ≤ M) (hM : ¬ base ≤ M) (hd : dOf t = t.drop i) (hb : 2 ≤ base) (hb2 : base ≤ 36) :
    numberZ base t = let n := List.foldl (fun a' => HAdd.hAdd (a' * base)) 0 (List.map f (t.drop i))
      let z := if t.getD (Int.toNat 0) 0 = 45 then -n else n
      if z < -(2 ^ 63) ∨ 2 ^ 63 ≤ z then [-7] else [0, z] := by
  rw [List.length_map] at hne
  rw [num_eq hb hb2, hd, if_neg (by intro e; rw [e] at hne; exact hne rfl), read_ok hb2 _ 0 (fun c hc => by
    have := hall _ (List.mem_map_of_mem hc)
    rw [hf] at this
    omega), fold_map f hf]
  have hl : 0 < t.length := by rw [List.length_drop] at hne; omega
  rw [getD0 hl]
  simp only [Option.some.injEq]
theorem pow63 : (2 : Int) ^ Int.toNat 63 = 2 ^ 63 := rfl
theorem n0_neg (hf : ∀ k, f k = worthP k) (hne : ((List.map f (t.drop i)).length : Int) ≠ 0) (hall : ∀ a, a ∈ List.map f (t.drop i) → a ≤ M) (hM : ¬ base ≤ M) (h45 : t.getD (Int.toNat 0) 0 = 45)
    (lo : -2 ^ Int.toNat 63 ≤ -List.foldl (fun a' => HAdd.hAdd (a' * base)) 0 (List.map f (t.drop i))) (hi : -List.foldl (fun a' => HAdd.hAdd (a' * base)) 0 (List.map f (t.drop i)) < 2 ^ Int.toNat 63)
    (hd : dOf t = t.drop i) (hb : 2 ≤ base) (hb2 : base ≤ 36) : numberZ base t = [0, -List.foldl (fun a' => HAdd.hAdd (a' * base)) 0 (List.map f (t.drop i))] := by
  rw [num_read hf hne hall hM hd hb hb2]
  dsimp only
  rw [if_pos h45]
  rw [pow63] at lo hi
  rw [if_neg (by omega)]
theorem n7_neg (hf : ∀ k, f k = worthP k) (hne : ((List.map f (t.drop i)).length : Int) ≠ 0) (hall : ∀ a, a ∈ List.map f (t.drop i) → a ≤ M) (hM : ¬ base ≤ M) (h45 : t.getD (Int.toNat 0) 0 = 45)
    (h : ¬ -2 ^ Int.toNat 63 ≤ -List.foldl (fun a' => HAdd.hAdd (a' * base)) 0 (List.map f (t.drop i)) ∨ ¬ -List.foldl (fun a' => HAdd.hAdd (a' * base)) 0 (List.map f (t.drop i)) < 2 ^ Int.toNat 63)
    (hd : dOf t = t.drop i) (hb : 2 ≤ base) (hb2 : base ≤ 36) : numberZ base t = [-7] := by
  rw [num_read hf hne hall hM hd hb hb2]
  dsimp only
  rw [if_pos h45]
  rw [pow63] at h
  rw [if_pos (by omega)]
theorem n0_pos (hf : ∀ k, f k = worthP k) (hne : ((List.map f (t.drop i)).length : Int) ≠ 0) (hall : ∀ a, a ∈ List.map f (t.drop i) → a ≤ M) (hM : ¬ base ≤ M) (h45 : ¬ t.getD (Int.toNat 0) 0 = 45)
    (lo : -2 ^ Int.toNat 63 ≤ List.foldl (fun a' => HAdd.hAdd (a' * base)) 0 (List.map f (t.drop i))) (hi : List.foldl (fun a' => HAdd.hAdd (a' * base)) 0 (List.map f (t.drop i)) < 2 ^ Int.toNat 63)
    (hd : dOf t = t.drop i) (hb : 2 ≤ base) (hb2 : base ≤ 36) : numberZ base t = [0, List.foldl (fun a' => HAdd.hAdd (a' * base)) 0 (List.map f (t.drop i))] := by
  rw [num_read hf hne hall hM hd hb hb2]
  dsimp only
  rw [if_neg h45]
  rw [pow63] at lo hi
  rw [if_neg (by omega)]
theorem n7_pos (hf : ∀ k, f k = worthP k) (hne : ((List.map f (t.drop i)).length : Int) ≠ 0) (hall : ∀ a, a ∈ List.map f (t.drop i) → a ≤ M) (hM : ¬ base ≤ M) (h45 : ¬ t.getD (Int.toNat 0) 0 = 45)
    (h : ¬ -2 ^ Int.toNat 63 ≤ List.foldl (fun a' => HAdd.hAdd (a' * base)) 0 (List.map f (t.drop i)) ∨ ¬ List.foldl (fun a' => HAdd.hAdd (a' * base)) 0 (List.map f (t.drop i)) < 2 ^ Int.toNat 63)
    (hd : dOf t = t.drop i) (hb : 2 ≤ base) (hb2 : base ≤ 36) : numberZ base t = [-7] := by
  rw [num_read hf hne hall hM hd hb hb2]
  dsimp only
  rw [if_neg h45]
  rw [pow63] at h
  rw [if_pos (by omega)]
theorem n_not (hne : ((List.map f (t.drop i)).length : Int) ≠ 0) (h : ¬ (0 : Int) < (t.length : Int)) : False := by
  rw [List.length_map, List.length_drop] at hne
  omega
end
end My


namespace My
theorem w_bytes {l : List Int} (h : Codec.within (.list 0 31 (.int (Int.ofNat 0) (Int.ofNat 255))) l = true) : l.length ≤ 31 ∧ Bs l := by
  have h : (Codec.inNat 0 31 l.length && l.all (Codec.inInt 0 255)) = true := h
  have k := Codec.and_of h
  exact ⟨(Codec.inNat_iff.mp k.1).2, fun x hx => Codec.inInt_iff.mp (List.all_eq_true.mp k.2 x hx)⟩
theorem w_int {lo hi x : Int} (h : Codec.within (.int lo hi) x = true) : lo ≤ x ∧ x ≤ hi := Codec.inInt_iff.mp h
theorem fin {X Y : List Int} (h : X = Y) : WData.list (ofPys (X.map PyData.int)) = WData.list (Y.map WData.int) := by rw [os_ofPys_ints, h]
theorem fin1 {k : Int} {Y : List Int} (h : Y = [k]) : ofPy (PyData.list [PyData.int k]) = WData.list (Y.map WData.int) := by
  rw [h]
  exact os_list rfl
end My

theorem My.said : PySem.Challenge.rw_shorttextsdesk_s17_unhex.wellSaid = true := by decide +kernel
theorem My.bnd {x0 : List Int} (h : PySem.Challenge.rw_shorttextsdesk_s17_unhex.pre [ofPy (.list (x0.map PyData.int))] = true) :
    (x0.length ≤ 31 ∧ My.Bs x0) := by
  obtain ⟨a, w, q, e⟩ := os_pre My.said h
  obtain ⟨y0, u⟩ := a
  have e0 := os_j_ints (List.cons.inj e).1
  subst e0
  exact My.w_bytes (Codec.and_of w).1

theorem My.name {x0 : List Int} (_ : PySem.Challenge.rw_shorttextsdesk_s17_unhex.pre [ofPy (.list (x0.map PyData.int))] = true) : ∃ (t : List Int), t = x0 := ⟨_, rfl⟩
/- max(xs, default=d): a step of the walk -/
namespace My
section
open PySem PySem.W PySem.Calls PyProof.Rows PySem.Spec
abbrev dfl (d : Value) : List (Str × Value) := [(Str.ofString "default", d)]
theorem mxd_args (a d : Value) : argsOk "max" ⟨[a], dfl d⟩ := by unfold argsOk; kernel_rfl
theorem mxd_name : (toString "max" ++ toString ".loop" : String) = "max.loop" := by decide
variable {prog : Program} {w : World} {A : Around} {E : Value → Shared → Prop} {s : Shared} {h₀ : Heap} {L : Addr} {m : Str → Option Value}
variable {R : Result → Shared → Prop} {I : Addr} {fp wr : List Addr} {n : Nat} {P : Nat → Value → Prop} {St : Nat → Heap → Prop}
theorem mxd_go (d : Value) (W : Walks prog w A.in1 I fp wr n P St) (bt : Nat → Nat → Bool) (hcmp : CmpOf prog w A.in1 .Gt P bt) (S : Addr) (hSf : S ∉ fp) :
    ∀ (left j : Nat) (q : Shared) (vb : Value) (c : Nat), n - (j + 1) = left → j + 1 ≤ n → St (j + 1) q.heap → P (argBest bt j) vb →
    q.heap.get? S = some { cls := .type "list", dict := none, data := .seq #[vb, vb] c, slots := #[] } →
    (∀ v h' tk, P (argBest bt (n - 1)) v → (∀ b o, b ∉ wr → b ≠ S → q.heap.get? b = some o → h'.get? b = some o) → R (.ok (.ret v)) { q with heap := h', toks := tk }) →
    codeAny (model prog w) A (.builtin "max.loop" ⟨[.ref I, .none, .ref S], dfl d⟩) R q := by
  have hSw : S ∉ wr := fun hS => hSf (W.sub _ hS)
  intro left
  induction left with
  | zero =>
    intro j q vb c hleft hj hst hPb hS hR
    have hin : j + 1 = n := by omega
    refine codeAny_builtin PySem.F.entry_max_loop ?_
    rw [Around.under_plainId PySem.F.plain_max_loop _]
    show wpAny _ A.in1 (seqItems? (.ref S) >>= _) _ _ q
    refine wpAny_bind (wpAny_seqItems hS rfl ?_)
    show wpAny _ A.in1 (tryCatch (pyNext (.ref I)) _ >>= _) _ _ q
    refine wpAny_bind (wpAny_tryCatch (W.done q _ _ (hin ▸ hst) fun h' tk hk' => ?_))
    have hS' := hk' S _ hSw hS
    show wpAny _ A.in1 (updateSeq S (fun _ => #[]) >>= _) _ _ _
    refine wpAny_bind (wpAny_updateSeq hS' rfl (wpAny_bind (wpAny_letGo (wpAny_pure ?_))))
    exact hR vb _ tk (by rw [← hin]; exact hPb) fun b o hbw hbS e => (Heap.get?_update_other _ _ (Ne.symm hbS)).trans (hk' b o hbw e)
  | succ left ih =>
    intro j q vb c hleft hj hst hPb hS hR
    have hlt : j + 1 < n := by omega
    refine codeAny_builtin PySem.F.entry_max_loop ?_
    rw [Around.under_plainId PySem.F.plain_max_loop _]
    show wpAny _ A.in1 (seqItems? (.ref S) >>= _) _ _ q
    refine wpAny_bind (wpAny_seqItems hS rfl ?_)
    show wpAny _ A.in1 (tryCatch (pyNext (.ref I)) _ >>= _) _ _ q
    refine wpAny_bind (wpAny_tryCatch (W.item (j + 1) q _ _ hlt hst fun v h' tk hP hst' hk' => ?_))
    have hS' := hk' S _ hSw hS
    show wpAny _ A.in1 (tryCatch (holding [v, v] (richCompare .Gt v vb >>= _)) _ >>= _) _ _ _
    refine wpAny_bind (wpAny_tryCatch (wpAny_holding (wpAny_bind (hcmp (j + 1) (argBest bt j) v vb _ _ _ hP hPb ?_))))
    refine wpAny_bind (wpAny_holding (wpAny_truthy_bool (wpAny_bind (wpAny_letGo (wpAny_pure ?_)))))
    cases hb : bt (j + 1) (argBest bt j) with
    | true =>
      simp only [if_true]
      refine wpAny_bind (wpAny_updateSeq hS' rfl (wpAny_bind (wpAny_letGo ?_)))
      rw [mxd_name]
      refine wpAny_pure ⟨plainId_quiet PySem.F.plain_max_loop _, ih (j + 1) _ v _ (by omega) hlt (W.frame _ _ _ hst' fun b hbf o e => (Heap.get?_update_other _ _ (fun q' : S = b => hSf (by rw [q']; exact hbf))).trans e)
        (by simp only [argBest, hb, if_true]; exact hP) (Heap.get?_update_self _ hS' rfl) fun v' h'' tk'' hP' hk'' => ?_⟩
      exact hR v' h'' tk'' hP' fun b o hbw hbS e => hk'' b o hbw hbS ((Heap.get?_update_other _ _ (Ne.symm hbS)).trans (hk' b o hbw e))
    | false =>
      simp only [Bool.false_eq_true, if_false]
      refine wpAny_bind (wpAny_letGo ?_)
      rw [mxd_name]
      refine wpAny_pure ⟨plainId_quiet PySem.F.plain_max_loop _, ih (j + 1) _ vb c (by omega) hlt hst' (by simp only [argBest, hb, Bool.false_eq_true, if_false]; exact hPb) hS'
        fun v' h'' tk'' hP' hk'' => hR v' h'' tk'' hP' fun b o hbw hbS e => hk'' b o hbw hbS (hk' b o hbw e)⟩
theorem mxd_first (d : Value) (W : Walks prog w A.in1 I fp wr n P St) (bt : Nat → Nat → Bool) (hcmp : CmpOf prog w A.in1 .Gt P bt) (S : Addr) (hSf : S ∉ fp) {q : Shared} {c : Nat} (hst : St 0 q.heap)
    (hS : q.heap.get? S = some { cls := .type "list", dict := none, data := .seq #[] c, slots := #[] })
    (hR : ∀ v h' tk, (if n = 0 then v = d else P (argBest bt (n - 1)) v) → (∀ b o, b ∉ wr → b ≠ S → q.heap.get? b = some o → h'.get? b = some o) → R (.ok (.ret v)) { q with heap := h', toks := tk }) :
    codeAny (model prog w) A (.builtin "max.loop" ⟨[.ref I, .none, .ref S], dfl d⟩) R q := by
  have hSw : S ∉ wr := fun hS => hSf (W.sub _ hS)
  refine codeAny_builtin PySem.F.entry_max_loop ?_
  rw [Around.under_plainId PySem.F.plain_max_loop _]
  show wpAny _ A.in1 (seqItems? (.ref S) >>= _) _ _ q
  refine wpAny_bind (wpAny_seqItems hS rfl ?_)
  show wpAny _ A.in1 (tryCatch (pyNext (.ref I)) _ >>= _) _ _ q
  by_cases hn : n = 0
  · subst hn
    refine wpAny_bind (wpAny_tryCatch (W.done q _ _ hst fun h' tk hk' => ?_))
    show wpAny _ A.in1 (rule _ >>= fun _ => ret d) _ _ _
    refine wpAny_bind (wpAny_rule (wpAny_pure ?_))
    exact hR d h' tk (by rw [if_pos rfl]) fun b o hbw _ e => hk' b o hbw e
  · have hn' : 0 < n := by omega
    refine wpAny_bind (wpAny_tryCatch (W.item 0 q _ _ hn' hst fun v h' tk hP hst' hk' => ?_))
    have hS' := hk' S _ hSw hS
    show wpAny _ A.in1 (updateSeq S (fun _ => #[v, v]) >>= _) _ _ _
    refine wpAny_bind (wpAny_updateSeq hS' rfl ?_)
    rw [mxd_name]
    refine wpAny_pure ⟨plainId_quiet PySem.F.plain_max_loop _, mxd_go d W bt hcmp S hSf _ 0 _ v _ rfl hn' (W.frame _ _ _ hst' fun b hbf o e => (Heap.get?_update_other _ _ (fun q' : S = b => hSf (by rw [q']; exact hbf))).trans e) hP
      (Heap.get?_update_self _ hS' rfl) fun v' h'' tk'' hP' hk'' => ?_⟩
    exact hR v' h'' tk'' (by rw [if_neg hn]; exact hP') fun b o hbw hbS e => hk'' b o hbw hbS ((Heap.get?_update_other _ _ (Ne.symm hbS)).trans (hk' b o hbw e))
theorem mxd_list {l : Addr} {xs : Array (Int × Tok)} {d : Value} {Q : Value → Shared → Prop} (hh : A.handled = none) (hl : s.heap.IsList l (intItems xs))
    (h : ∀ v h' tk, (if xs.size = 0 then v = d else (intItems xs)[argBest (fun i j => decide (numAt xs i > numAt xs j)) (xs.size - 1)]? = some v) → (∀ b o, s.heap.get? b = some o → h'.get? b = some o) → Q v { s with heap := h', toks := tk }) :
    wpAny (model prog w) A (call (.builtin "max") [.ref l] (dfl d)) Q E s := by
  refine kmb_tree PySem.F.kind_max PySem.F.plain_max PySem.F.entry_max (mxd_args _ _) ?_
  show wpAny _ A.in1 (Builtin.Builtins.bindParams "max" ["key", "default"] 0 ⟨[], dfl d⟩ >>= _) _ _ s
  refine wpAny_bind (wpAny_of_eq (show Builtin.Builtins.bindParams "max" ["key", "default"] 0 ⟨[], dfl d⟩ = pure [none, some d] from rfl) (wpAny_bind (wpAny_pure ?_)))
  refine wpAny_bind (iter_intList hl fun s₂ e st hfp hlI => ?_)
  subst e
  refine wpAny_bind (wpAny_newObj_type ?_)
  rw [mxd_name]
  have W := Walks.list (prog := prog) (w := w) (A := A.in1) hh s.heap.objs.size l hlI (intItems xs)
  have hz : (intItems xs).size = xs.size := by simp [intItems]
  refine wpAny_pure ⟨plainId_quiet PySem.F.plain_max_loop _, mxd_first d W _ (CmpOf.ints_gt (numAt xs) (fun _ _ => intItems_at)) _ (fun hm => Nat.lt_irrefl _ (hfp _ hm)) (W.frame _ _ _ st fun b _ o e => Heap.get?_push_of_some _ e)
    (Heap.get?_push_size _ rfl) fun v h' tk hP hk => ?_⟩
  rw [hz] at hP
  exact h v h' tk hP (old_kept fun b o hbw e => hk b o hbw (Nat.ne_of_lt (Heap.lt_size e)) (Heap.get?_push_of_some _ e))
theorem mxd_ints {l : Addr} {vs : List Value} {ns : List Int} {news : List (Addr × Obj)} {k : Int} {u : Tok} {Q : Value → Shared → Prop} (hh : A.handled = none) (F : Fr h₀ L s.heap m) (N : News h₀ L s.heap news)
    (hl : s.heap.IsList l vs.toArray) (hi : IntsAre vs ns)
    (h : ∀ h' M (t : Tok) tk, Fr h₀ L h' m → News h₀ L h' news → (ns = [] → M = k) → (ns ≠ [] → M ∈ ns) → (∀ a, a ∈ ns → a ≤ M) → Q (.int M t) { s with heap := h', toks := tk }) :
    wpAny (model prog w) A (call (.builtin "max") [.ref l] (dfl (.int k u))) Q E s := by
  obtain ⟨xs, e⟩ := hi.allInts.items
  have hns : ns = xs.toList.map (·.1) := by rw [← hi.numsOf, ← nums_intItems, ← e]
  have hlen : ns.length = xs.size := by rw [hns, List.length_map, Array.length_toList]
  rw [e] at hl
  refine mxd_list hh hl fun v h' tk hv hk => ?_
  by_cases h0 : xs.size = 0
  · rw [if_pos h0] at hv
    subst hv
    have hnil : ns = [] := List.length_eq_zero_iff.1 (by omega)
    refine h _ _ u tk (F.grownK hk) (N.grown hk) (fun _ => rfl) (fun hc => absurd hnil hc) fun a ha => ?_
    rw [hnil] at ha
    cases ha
  · rw [if_neg h0] at hv
    obtain ⟨t, rfl⟩ := intItems_at hv
    obtain ⟨h1, h2⟩ := argBest_gt (numAt xs) (xs.size - 1)
    refine h _ _ t tk (F.grownK hk) (N.grown hk) (fun hc => absurd (by rw [hc] at hlen; exact hlen.symm) h0) (fun _ => ?_) fun a ha => ?_
    · rw [hns, numAt_eq]; exact getD_mem (by rw [List.length_map, Array.length_toList]; omega)
    · rw [hns] at ha
      obtain ⟨j, hj, rfl⟩ := mem_getD ha
      rw [List.length_map, Array.length_toList] at hj
      rw [← numAt_eq]; exact h2 j (by omega)
end
end My

/- [e for k in range(0, b, 2)], b even: a step of the walk -/
namespace My
section
open PySem PySem.W PySem.Calls PyProof.Rows PySem.Spec
def evens (n : Nat) : List Int := (List.range n).map fun (i : Nat) => 0 + (i : Int) * 2
theorem evens_len (n : Nat) : (evens n).length = n := by simp [evens]
theorem evens_at {n i : Nat} (h : i < n) : (evens n)[i]? = some (0 + (i : Int) * 2) := by simp [evens, h]
theorem evens_mem {n : Nat} {k : Int} (h : k ∈ evens n) : 0 ≤ k ∧ k + 1 < 2 * (n : Int) := by
  obtain ⟨i, hi, rfl⟩ := List.mem_map.1 h
  have := List.mem_range.1 hi
  omega
theorem two_size {n : Nat} : Builtin.Range.rangeSize 0 (2 * (n : Int)) 2 = (n : Int) := by
  unfold Builtin.Range.rangeSize
  rw [if_pos (by decide)]
  split <;> omega
theorem two_small {n : Nat} (h : n ≤ 64) : Builtin.Range.small 0 (2 * (n : Int)) 2 = true := by
  unfold Builtin.Range.small
  rw [two_size]
  have fits : ∀ i : Int, -1000 ≤ i → i ≤ 1000 → Builtin.Range.rangeFitsLong i = true := fun i a b => by
    unfold Builtin.Range.rangeFitsLong
    rw [Bool.and_eq_true, decide_eq_true_eq, decide_eq_true_eq]
    omega
  rw [fits 0 (by decide) (by decide), fits (2 * (n : Int)) (by omega) (by omega), fits 2 (by decide) (by decide), fits (n : Int) (by omega) (by omega), if_pos (by decide), fits (2 * (n : Int) + (2 - 1)) (by omega) (by omega)]
  simp
variable {prog : Program} {w : World} {A : Around} {E : Value → Shared → Prop} {s : Shared} {h₀ : Heap} {L : Addr} {m : Str → Option Value} {env : Env}
def TwoSrc (prog : Program) (w : World) (A : Around) (h₀ : Heap) (L : Addr) (m : Str → Option Value) (env : Env) (elt : PySem.Expr) (x : Str) (scope : Scope) (cl : List (Str × Addr)) (Fin : Shared → List Value → List (Addr × Obj) → Prop) (xv : Value) (s₁ : Shared) : Prop :=
  ∃ r t u v news, ∃ n : Nat, xv = .ref r ∧ A.handled = none ∧ Fr h₀ L s₁.heap m ∧ News h₀ L s₁.heap news ∧ IsRange s₁.heap r 0 (2 * (n : Int)) 2 t u v ∧ n ≤ 64 ∧
    ∀ s₂ : Shared, (∃ h, s₂ = { s₁ with heap := h }) → LCg.CompRest prog w A h₀ L m env elt x scope cl s₂ (fun _ => True) (fun i v => ∃ t, v = .int (0 + (i : Int) * 2) t) (Fin s₂) n 0 [] news
theorem two_ListComp {elt f e1 e2 e3 : PySem.Expr} {kws : List PySem.Keyword} {cpos : Pos} {x : Str} {px : Pos} {scope : Scope} {cl : List (Str × Addr)} {pos : Pos} {Q : Value → Shared → Prop} (_F₀ : Fr h₀ L s.heap m)
    (hclos : closureFor scope env = pure cl) (hcell : ∀ y ∈ scope.names, y.2 ≠ .cell) (hkind : scope.kind = .function)
    (hnames : ∀ y ∈ scope.names, y.2 = .local → scope.names.lookup y.1 = some .local) (hx : scope.names.lookup x = some .local)
    (h : wpAny (model prog w) A (eval (.Call f [e1, e2, e3] kws cpos) env) (TwoSrc prog w A h₀ L m env elt x scope cl (fun s₂ => LCg.FinE h₀ L m s₂ Q)) E s)
    (hs : ∀ x, foldedSetIterable (.Call f [e1, e2, e3] kws cpos) env x = pure x := by intro _; rfl) :
    wpAny (model prog w) A (eval (.ListComp elt [⟨.Name x px, .Call f [e1, e2, e3] kws cpos, [], 0⟩] scope pos) env) Q E s := by
  rw [eval_ListComp]
  refine wpAny_comprehension_free (use := none) rfl hs hclos hkind hnames (wpAny_mono h (fun xv s₁ h₁ => ?_) fun _ _ e => e)
  obtain ⟨r, t, u, v, news, n, rfl, hh, F, N, hr, hn64, R⟩ := h₁
  refine wpAny_pyIter_range hr (two_small hn64) ?_
  refine LCg.block_U (Walks.range hh s₁.heap.objs.size 0 2 n) (by rw [PySem.sizeLine_eq]; omega) (fun i h st => ⟨_, st⟩)
    (fun i h h' o nw st e e' _ _ _ => by
      have st' : h.get? s₁.heap.objs.size = some _ := st
      show h'.get? s₁.heap.objs.size = some _
      rw [e', ← e]; exact st') hcell hkind hx (by show IsRangeIter _ _ _ _ _; rw [two_size]; simpa using Heap.get?_push_size _ rfl) (fun b hb => ?_)
    (F.keeps fun _ _ e => Heap.get?_push_of_some _ e) (N.grown fun _ _ e => Heap.get?_push_of_some _ e) (Nat.ne_of_lt F.ns.lt) (next_is_new F) (fun p hp => Nat.ne_of_lt (Heap.lt_size (N p hp).1)) trivial (R _ ⟨_, rfl⟩) ?_
  · rw [List.mem_singleton.mp hb]
    show s₁.heap.objs.size < (s₁.heap.push _).objs.size
    rw [Heap.size_push]; exact Nat.lt_succ_self _
  · intro D C h tk m' ys news' F' N' o1 hn hC₀ hD₀ hCL hDL hCD offC fin
    refine ⟨m', hn, fun h'' hs'' => fin D h'' tk (F'.change hs'' hCL hC₀) (fun p hp => ⟨hs''.extBut _ _ ?_ (N' p hp).1, (N' p hp).2⟩) o1⟩
    rcases List.mem_cons.mp hp with rfl | hp
    · exact Ne.symm hCD
    · exact offC p hp
theorem two_src {elt : PySem.Expr} {x : Str} {scope : Scope} {cl : List (Str × Addr)} {Fin : Shared → List Value → List (Addr × Obj) → Prop} {r : Addr} {b : Int} {t u v : Tok} {news : List (Addr × Obj)} {s₁ : Shared} (g : Int → Int)
    (hh : A.handled = none) (F : Fr h₀ L s₁.heap m) (N : News h₀ L s₁.heap news) (hr : IsRange s₁.heap r 0 b 2 t u v) (h0 : 0 ≤ b) (h1 : b ≤ 100) (hev : b % 2 = 0)
    (turn : ∀ gg k t I oI C oC D m₂ ys h tk (E' : Value → Shared → Prop), 0 ≤ k → k + 1 < b → LCg.NsObj oC m₂ → m₂ x = some (.int k t) → Fr h₀ L h m → News h₀ L h ((I, oI) :: (C, oC) :: (D, LCg.lst ys) :: news) → LCg.Off3 I C D news → ((@Ne Nat I C) ∧ (@Ne Nat I D) ∧ (@Ne Nat C D)) → KPfMark →
      wpAny (model prog w) A (eval elt (compEnvC scope cl C env)) (LCg.CompEnd h₀ L m { ({ s₁ with heap := gg } : Shared) with heap := h, toks := tk } I oI C oC D (LCg.lst ys) (fun _ => True) (fun y news' => KCfEl news (g k) y news')) E' { ({ s₁ with heap := gg } : Shared) with heap := h, toks := tk })
    (fin : ∀ gg ys, IntsAre ys ((evens (b / 2).toNat).map g) → ys.length ≤ 50 → ((evens (b / 2).toNat).map g).length ≤ 50 → (evens (b / 2).toNat).length ≤ 50 → Fin { s₁ with heap := gg } ys news) : TwoSrc prog w A h₀ L m env elt x scope cl Fin (.ref r) s₁ := by
  have e : b = 2 * (((b / 2).toNat : Nat) : Int) := by omega
  refine ⟨r, t, u, v, news, (b / 2).toNat, rfl, hh, F, N, by rw [← e]; exact hr, by omega, ?_⟩
  rintro s₂ ⟨gg, rfl⟩
  refine kcf_rest (ks := evens (b / 2).toNat) g (evens_len _) (fun i v hi hv => ?_) (fun k t I oI C oC D m₂ ys h tk E' hk hC hx F N off ne mk => ?_) (fun ys hy => ?_)
  · obtain ⟨t, e⟩ := hv
    exact ⟨_, t, evens_at hi, e⟩
  · have z := evens_mem hk
    exact turn gg k t I oI C oC D m₂ ys h tk E' z.1 (by rw [e]; exact z.2) hC hx F N off ne mk
  · have hl := hy.length
    have hm : ((evens (b / 2).toNat).map g).length ≤ 50 := by rw [List.length_map, evens_len]; omega
    exact fin gg ys hy (by rw [hl]; exact hm) hm (by rw [evens_len]; omega)
end
end My

namespace My
/-! ## pairs of digits as the program reads them -/
theorem evens_succ (n : Nat) : evens (n + 1) = 0 :: (evens n).map (fun k => k + 2) := by
  unfold evens
  rw [List.range_succ_eq_map, List.map_cons, List.map_map, List.map_map]
  congr 1
  apply List.map_congr_left
  intro i _
  simp only [Function.comp]
  omega
theorem unhex_odd : ∀ (t : List Int), t.length % 2 ≠ 0 → unhexZ t = none
  | [], h => by simp at h
  | [_], _ => rfl
  | a :: b :: r, h => by
    have ih := unhex_odd r (by simp only [List.length_cons] at h; omega)
    rw [unhexZ, ih]
    split <;> rfl
theorem unhex_bad : ∀ (t : List Int) {c : Int}, c ∈ t → 16 ≤ worthP c → unhexZ t = none
  | [_], _, _, _ => rfl
  | a :: b :: r, c, h, hc => by
    rw [unhexZ]
    rcases List.mem_cons.1 h with rfl | h
    · rw [if_neg]
      intro hz
      have := (worthP_ok (by decide)).2 hz.1
      omega
    · rcases List.mem_cons.1 h with rfl | h
      · rw [if_neg]
        intro hz
        have := (worthP_ok (by decide)).2 hz.2
        omega
      · rw [unhex_bad r h hc]
        split <;> rfl
def pairAt (ws : List Int) (k : Int) : Int := ws.getD k.toNat 0 * 16 + ws.getD (k + 1).toNat 0
theorem pair_shift {ws : List Int} {a b k : Int} (h : 0 ≤ k) : pairAt (a :: b :: ws) (k + 2) = pairAt ws k := by
  unfold pairAt
  have e1 : (k + 2).toNat = k.toNat + 2 := by omega
  have e2 : (k + 2 + 1).toNat = (k + 1).toNat + 2 := by omega
  rw [e1, e2]
  rfl
theorem unhex_good : ∀ (t : List Int), t.length % 2 = 0 → (∀ c ∈ t, worthP c < 16) → unhexZ t = some ((evens (t.length / 2)).map (pairAt (t.map worthP)))
  | [], _, _ => rfl
  | [_], h, _ => by simp at h
  | a :: b :: r, h, hw => by
    have h' : r.length % 2 = 0 := by simp only [List.length_cons] at h; omega
    have ih := unhex_good r h' (fun c hc => hw c (List.mem_cons_of_mem _ (List.mem_cons_of_mem _ hc)))
    have ha := hw a List.mem_cons_self
    have hb := hw b (List.mem_cons_of_mem _ List.mem_cons_self)
    have za := (worthP_ok (by decide)).1 ha
    have zb := (worthP_ok (by decide)).1 hb
    have ea : worthP a = worthZ a := by rw [worthP_eq, if_neg (by omega)]
    have eb : worthP b = worthZ b := by rw [worthP_eq, if_neg (by omega)]
    rw [unhexZ, if_pos ⟨za, zb⟩, ih]
    have hl : (a :: b :: r).length / 2 = r.length / 2 + 1 := by simp only [List.length_cons]; omega
    rw [hl, evens_succ, List.map_cons, List.map_cons, List.map_cons, List.map_map]
    show some ((16 * worthZ a + worthZ b) :: List.map (pairAt (List.map worthP r)) (evens (r.length / 2))) = _
    congr 2
    · show 16 * worthZ a + worthZ b = worthP a * 16 + worthP b
      rw [ea, eb, Int.mul_comm]
    · apply List.map_congr_left
      intro k hk
      exact (pair_shift (evens_mem hk).1).symm
theorem fm2 (n : Nat) : Int.fmod (n : Int) 2 = ((n % 2 : Nat) : Int) := by
  rw [Int.fmod_eq_emod_of_nonneg _ (by decide)]; rfl
section
variable {t : List Int} {f : Int → Int} {M : Int}
theorem u_odd (h : Int.fmod (t.length : Int) 2 ≠ 0) : (unhexZ t).getD [] = [] := by
  rw [fm2] at h
  rw [unhex_odd t (by omega)]
  rfl
theorem u_bad (hf : ∀ k, f k = worthP k) (h1 : List.map f t = [] → M = 0) (h2 : List.map f t ≠ [] → M ∈ List.map f t) (h : 16 ≤ M) : (unhexZ t).getD [] = [] := by
  have hne : List.map f t ≠ [] := fun e => by have := h1 e; omega
  obtain ⟨c, hc, rfl⟩ := List.mem_map.1 (h2 hne)
  rw [unhex_bad t hc (by rw [← hf]; exact h)]
  rfl
theorem u_good (hf : ∀ k, f k = worthP k) (hall : ∀ a, a ∈ List.map f t → a ≤ M) (hM : ¬ 16 ≤ M) (h : Int.fmod (t.length : Int) 2 = 0) :
    List.map (fun k' => (List.map f t).getD k'.toNat 0 * 16 + (List.map f t).getD (k' + 1).toNat 0) (evens ((t.length : Int) / 2).toNat) = (unhexZ t).getD [] := by
  rw [fm2] at h
  have e : f = worthP := funext hf
  subst e
  rw [unhex_good t (by omega) (fun c hc => by
    have := hall _ (List.mem_map_of_mem hc)
    omega)]
  have e2 : ((t.length : Int) / 2).toNat = t.length / 2 := by omega
  rw [e2]
  rfl
end
end My


namespace My
theorem tell_end {X Y : List Int} (h : X = Y) : [((List.take 31 X).length : Int)] ++ List.take 31 X = tell Y := by rw [h]; rfl
theorem fin0 {Y : List Int} (h : Y = []) : ofPy (PyData.list [PyData.int 0]) = WData.list (List.map WData.int (tell Y)) := by
  rw [h]
  exact os_list rfl
end My

open PySem.W PyProof.Rows in
local macro_rules
  | `(tactic| walk_at "eval ListComp") => `(tactic| (k_here; k_dflt (refine LCg.ListComp_U (F₀ := by k_asm) (by (with_unfolding_all rfl)) (by decide) (by rfl) (by decide) (by rfl) ?_)))
open PySem.W PyProof.Rows in
local macro_rules
  | `(tactic| walk_at "exec Assign cons ListComp") => `(tactic| (k_here; k_dflt (refine LCg.Assign_ListComp_U (F₀ := by k_asm) (by rfl) (by (with_unfolding_all rfl)) (by (with_unfolding_all rfl)) (by decide) (by rfl) (by decide) (by rfl) (by rfl) (by rfl) ?_)))
open PySem.W PyProof.Rows in
local macro_rules
  | `(tactic| walk_at "CompSrc") => `(tactic| (k_here; k_dflt (refine LCg.CompSrc.base (by rfl) (by k_asm) (by k_asm) (by assumption) (by size_fits) ?_; intro cg'; (refine' kcf_list _ (by assumption) (fun k' t' I' oI' C' oC' D' m' ys' h' tk' E' hk' hC' hx' F' N' off' ne' hMark' => ?_) ?_); (all_goals (try (simp only [LCg.Off3, and_true] at off'))); kcf_last)))

open PySem.W PyProof.Rows in
local macro_rules
  | `(tactic| walk_at "call builtin:max") => `(tactic| (k_here; (show wpAny _ _ (call (Value.builtin "max") [Value.ref _] [(PySem.Str.ofString "default", Value.int _ _)]) _ _ _); (with_unfolding_all refine' My.mxd_ints ?k1 ?k2 ?k3 ?k4 ?k5 ?_; (case k1 => with_unfolding_all rfl); (case k2 => k_asm); (case k3 => k_asm); (case k4 => kso_list); (case k5 => l_ints); k_whole); intro h' M' t' k' F' N' a' b' c'; (try k_sweep)))

open PySem.W PyProof.Rows in
local macro_rules
  | `(tactic| walk_at "eval ListComp") => `(tactic| (k_here; k_dflt (refine My.two_ListComp (by k_asm) (by (with_unfolding_all rfl)) (by decide) (by rfl) (by decide) (by rfl) ?_)))
open PySem.W PyProof.Rows in
local macro_rules
  | `(tactic| walk_at "TwoSrc") => `(tactic| (k_here; k_dflt (refine' My.two_src _ (by rfl) ?F ?N ?R ?z0 ?z1 ?ev (fun gg' k' t' I' oI' C' oC' D' m' ys' h' tk' E' hlo' hhi' hC' hx' F' N' off' ne' hMark' => ?_) (fun gg' ys' hy' hz1' hz2' hz3' => ?_); (case F => k_asm); (case N => k_asm); (case R => assumption); (case z0 => omega); (case z1 => omega); (case ev => (rw [← Int.fmod_eq_emod_of_nonneg _ (by decide)]; first | assumption | omega))); (all_goals (try (simp only [LCg.Off3, and_true] at off'))); kcf_last))

set_option maxRecDepth 100000 in
set_option maxHeartbeats 8000000 in
theorem PySem.Challenge.cw_shorttextsdesk_s17_unhex_holds : PySem.Challenge.rw_shorttextsdesk_s17_unhex.Holds := by
  k_with "tree" => first
    | simp only [My.smallZ]
    | simp only [My.capZ]
  k_with "call ref" => k_call_by "small" My.smallZ
  k_with "call ref" => k_call_by "capital" My.capZ
  w_on; k_headS; (case hw => exact ⟨[.list []], by decide +kernel, by decide +kernel⟩)
  k_goS0
  (with_reducible rename OpenSpec.pre _ _ = true => hcP)
  obtain ⟨hL0, hB0⟩ := My.bnd hcP
  obtain ⟨t, hn0⟩ := My.name hcP
  subst hn0
  (all_goals try k_fold); k_steps; (all_goals (try (w_end; sp_is; wrow_close))); (all_goals (try k_data))
  all_goals first | sp_left | w_report
  all_goals os_open My.said with a w q e
  all_goals obtain ⟨y0, u⟩ := a
  all_goals have e0 := os_j_ints (List.cons.inj e).1
  all_goals subst e0
  all_goals show _ = WData.list (List.map WData.int (PySv24.unhex t))
  all_goals rw [My.unhex_eq hB0.nn]
  all_goals first
    | exact My.fin0 (My.u_odd (by assumption))
    | exact My.fin0 (My.u_bad My.chain_eq (by assumption) (by assumption) (by assumption))
    | exact My.fin (My.tell_end (My.u_good My.chain_eq (by assumption) (by assumption) (by first | assumption | omega)))
#print axioms PySem.Challenge.cw_shorttextsdesk_s17_unhex_holds
