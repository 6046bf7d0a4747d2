import PyProof.Rows.All
import KE.OsGo
import KE.OsArgs
import PySem.Challenge.RW_shorttextsdesk_s06_replace
open PySem PySem.W
set_option Elab.async false
namespace My
/-! ## numbers from 0 on, bytes as whole numbers -/
def Nn (l : List Int) : Prop := ∀ x ∈ l, (0 : Int) ≤ x
def Bs (l : List Int) : Prop := ∀ x ∈ l, (0 : Int) ≤ x ∧ x ≤ 255
theorem Bs.nn {l : List Int} (h : Bs l) : Nn l := fun x hx => (h x hx).1
theorem Nn.take {l : List Int} (h : Nn l) (k : Nat) : Nn (l.take k) := fun x hx => h x (List.mem_of_mem_take hx)
theorem Nn.drop {l : List Int} (h : Nn l) (k : Nat) : Nn (l.drop k) := fun x hx => h x (List.mem_of_mem_drop hx)
theorem Nn.app {a b : List Int} (ha : Nn a) (hb : Nn b) : Nn (a ++ b) := fun x hx => (List.mem_append.1 hx).elim (ha x) (hb x)
theorem Nn.tail {a : Int} {l : List Int} (h : Nn (a :: l)) : Nn l := fun x hx => h x (List.mem_cons_of_mem _ hx)
theorem Nn.head {a : Int} {l : List Int} (h : Nn (a :: l)) : 0 ≤ a := h a List.mem_cons_self
theorem Bs.take {l : List Int} (h : Bs l) (k : Nat) : Bs (l.take k) := fun x hx => h x (List.mem_of_mem_take hx)
theorem Bs.drop {l : List Int} (h : Bs l) (k : Nat) : Bs (l.drop k) := fun x hx => h x (List.mem_of_mem_drop hx)
theorem Bs.tail {a : Int} {l : List Int} (h : Bs (a :: l)) : Bs l := fun x hx => h x (List.mem_cons_of_mem _ hx)
theorem Bs.head {a : Int} {l : List Int} (h : Bs (a :: l)) : 0 ≤ a ∧ a ≤ 255 := h a List.mem_cons_self
abbrev nz (l : List Int) : List Nat := Sv24Neutral.n l
theorem nz_nil : nz [] = [] := rfl
theorem nz_cons (a : Int) (l : List Int) : nz (a :: l) = a.toNat :: nz l := rfl
theorem nz_len (l : List Int) : (nz l).length = l.length := by simp [nz, Sv24Neutral.n]
theorem nz_back {l : List Int} (h : Nn l) : Sv24.numbers (nz l) = l := by
  induction l with
  | nil => rfl
  | cons a r ih =>
    have h2 := ih h.tail
    have h1 := h.head
    show ((a.toNat : Nat) : Int) :: Sv24.numbers (nz r) = _
    rw [h2, Int.toNat_of_nonneg h1]
theorem nz_app (a b : List Int) : nz a ++ nz b = nz (a ++ b) := by simp [nz, Sv24Neutral.n]
theorem nz_take (k : Nat) (a : List Int) : (nz a).take k = nz (a.take k) := by simp [nz, Sv24Neutral.n, List.map_take]
theorem nz_drop (k : Nat) (a : List Int) : (nz a).drop k = nz (a.drop k) := by simp [nz, Sv24Neutral.n, List.map_drop]
theorem nz_rev (a : List Int) : (nz a).reverse = nz a.reverse := by simp [nz, Sv24Neutral.n, List.map_reverse]
theorem nz_inj {a b : List Int} (ha : Nn a) (hb : Nn b) : nz a = nz b ↔ a = b :=
  ⟨fun h => by rw [← nz_back ha, ← nz_back hb, h], fun h => by rw [h]⟩
theorem nz_eqnil (a : List Int) : nz a = [] ↔ a = [] := by cases a <;> simp [nz, Sv24Neutral.n]
theorem nz_mem {l : List Int} (h : Nn l) {c : Int} (hc : 0 ≤ c) : c.toNat ∈ nz l ↔ c ∈ l := by
  constructor
  · intro hm
    obtain ⟨x, hx, he⟩ := List.mem_map.1 hm
    have := h x hx
    have : x = c := by omega
    exact this ▸ hx
  · intro hm
    exact List.mem_map.2 ⟨c, hm, rfl⟩
theorem nz_has {l : List Int} (h : Nn l) {c : Int} (hc : 0 ≤ c) : (nz l).contains c.toNat = l.contains c := by
  rw [Bool.eq_iff_iff, List.contains_iff_mem, List.contains_iff_mem, nz_mem h hc]
theorem nz_map {f : Nat → Nat} {g : Int → Int} : ∀ {l : List Int}, (∀ x ∈ l, f x.toNat = (g x).toNat) → (nz l).map f = nz (l.map g)
  | [], _ => rfl
  | a :: r, h => by
    rw [nz_cons, List.map_cons, List.map_cons, nz_cons, h a List.mem_cons_self, nz_map (fun x hx => h x (List.mem_cons_of_mem _ hx))]
theorem nz_filter {f : Nat → Bool} {g : Int → Bool} : ∀ {l : List Int}, (∀ x ∈ l, f x.toNat = g x) → (nz l).filter f = nz (l.filter g)
  | [], _ => rfl
  | a :: r, h => by
    rw [nz_cons, List.filter_cons, List.filter_cons, h a List.mem_cons_self, nz_filter (fun x hx => h x (List.mem_cons_of_mem _ hx))]
    split <;> rfl
theorem nz_dropWhile {f : Nat → Bool} {g : Int → Bool} : ∀ {l : List Int}, (∀ x ∈ l, f x.toNat = g x) → (nz l).dropWhile f = nz (l.dropWhile g)
  | [], _ => rfl
  | a :: r, h => by
    rw [nz_cons, List.dropWhile_cons, List.dropWhile_cons, h a List.mem_cons_self, nz_dropWhile (fun x hx => h x (List.mem_cons_of_mem _ hx))]
    split <;> rfl
/-- a text's answer -/
def tell (l : List Int) : List Int := ((l.take 31).length : Int) :: l.take 31
theorem told {l : List Int} (h : Nn l) : (Sv24.text (nz l)).v :: (Sv24.text (nz l)).l = tell l := by
  show (((Sv24.cut (nz l)).length : Nat) : Int) :: Sv24.numbers (Sv24.cut (nz l)) = _
  have e : Sv24.cut (nz l) = nz (l.take 31) := nz_take 31 l
  rw [e, nz_len, nz_back (h.take 31)]
  rfl
theorem tell_short {l : List Int} (h : l.length ≤ 31) : tell l = (l.length : Int) :: l := by
  unfold tell; rw [List.take_of_length_le h]
/-! ## the calls over whole numbers -/
theorem join_eq {a b : List Int} (ha : Nn a) (hb : Nn b) : PySv24.join a b = tell (a ++ b) := by
  show (Sv24.text (nz a ++ nz b)).v :: (Sv24.text (nz a ++ nz b)).l = _
  rw [nz_app]
  exact told (ha.app hb)
theorem part_eq {t : List Int} {i k : Int} (ht : Nn t) : PySv24.part i k t = tell ((t.drop (max i 0).toNat).take (max 0 (i + max k 0) - max i 0).toNat) := by
  show (Sv24.text (((nz t).drop (max i 0).toNat).take (max 0 (i + max k 0) - max i 0).toNat)).v :: (Sv24.text (((nz t).drop (max i 0).toNat).take (max 0 (i + max k 0) - max i 0).toNat)).l = _
  rw [nz_drop, nz_take]
  exact told ((ht.drop _).take _)
theorem turn_eq {t : List Int} (ht : Nn t) : PySv24.turn t = tell t.reverse := by
  show (Sv24.text (nz t).reverse).v :: (Sv24.text (nz t).reverse).l = _
  rw [nz_rev]
  exact told (fun x hx => ht x (List.mem_reverse.1 hx))
theorem only_eq {t s : List Int} {how : Int} (ht : Nn t) (hs : Nn s) : PySv24.only how t s = tell (t.filter fun c => s.contains c == decide (how = 0)) := by
  show (Sv24.text ((nz t).filter fun c => (nz s).contains c == decide (how = 0))).v :: (Sv24.text ((nz t).filter fun c => (nz s).contains c == decide (how = 0))).l = _
  rw [nz_filter (g := fun c => s.contains c == decide (how = 0)) (fun x hx => by rw [nz_has hs (ht x hx)])]
  exact told (fun x hx => ht x (List.mem_filter.1 hx).1)
theorem mask_go {s : List Int} (hs : Nn s) : ∀ {t : List Int}, Nn t → ((List.range t.length).map fun i => if (nz s).contains ((nz t).getD i 0) = true then 2 ^ i else 0) = ((List.range t.length).map fun i => if s.contains (t.getD i 0) = true then 2 ^ i else 0) := by
  intro t ht
  apply List.map_congr_left
  intro i hi
  have hi := List.mem_range.1 hi
  have e : (nz t).getD i 0 = (t.getD i 0).toNat := by
    simp [nz, Sv24Neutral.n, List.getD_eq_getElem?_getD, hi]
  have h0 : 0 ≤ t.getD i 0 := by
    rw [List.getD_eq_getElem?_getD, List.getElem?_eq_getElem hi]
    exact ht _ (List.getElem_mem hi)
  rw [e, nz_has hs h0]
/-- bits from the place k on -/
def bitsFrom (s : List Int) : Nat → List Int → Int
  | _, [] => 0
  | k, c :: r => (if s.contains c = true then (2 : Int) ^ k else 0) + bitsFrom s (k + 1) r
theorem bits_range (s : List Int) : ∀ (t : List Int) (k : Nat), bitsFrom s k t = ((((List.range t.length).map fun i => if s.contains (t.getD i 0) = true then 2 ^ (k + i) else 0).sum : Nat) : Int)
  | [], _ => rfl
  | c :: r, k => by
    have ih := bits_range s r (k + 1)
    rw [bitsFrom, ih, List.length_cons, List.range_succ_eq_map, List.map_cons, List.map_map, List.sum_cons, Int.natCast_add]
    congr 1
    · show _ = (((if s.contains c = true then 2 ^ (k + 0) else 0) : Nat) : Int)
      split <;> simp
    · congr 1
      apply congrArg
      apply List.map_congr_left
      intro i _
      show _ = if s.contains (r.getD i 0) = true then 2 ^ (k + (i + 1)) else 0
      rw [Nat.add_right_comm, Nat.add_assoc]
theorem mask_eq {t s : List Int} (ht : Nn t) (hs : Nn s) : PySv24.mask t s = [bitsFrom s 0 t] := by
  show [((Sv24.mask (nz t) (nz s) : Nat) : Int)] = _
  unfold Sv24.mask
  rw [nz_len, mask_go hs ht, bits_range]
  simp only [Nat.zero_add]
/-! ### case -/
def smallZ (c : Int) : Int := if 65 ≤ c ∧ c ≤ 90 then c + 32 else c
def capZ (c : Int) : Int := if 97 ≤ c ∧ c ≤ 122 then c - 32 else c
def otherZ (c : Int) : Int := if 65 ≤ c ∧ c ≤ 90 then c + 32 else capZ c
def letterZ (c : Int) : Bool := (decide (65 ≤ c) && decide (c ≤ 90)) || (decide (97 ≤ c) && decide (c ≤ 122))
theorem small_z {c : Int} (h : 0 ≤ c) : Sv24.small c.toNat = (smallZ c).toNat := by
  unfold Sv24.small smallZ; split <;> split <;> omega
theorem cap_z {c : Int} (h : 0 ≤ c) : Sv24.capital c.toNat = (capZ c).toNat := by
  unfold Sv24.capital capZ; split <;> split <;> omega
theorem other_z {c : Int} (h : 0 ≤ c) : (if 65 ≤ c.toNat ∧ c.toNat ≤ 90 then c.toNat + 32 else Sv24.capital c.toNat) = (otherZ c).toNat := by
  unfold otherZ; rw [cap_z h]; split <;> split <;> omega
theorem letter_z {c : Int} (h : 0 ≤ c) : Sv24.letter c.toNat = letterZ c := by
  unfold Sv24.letter letterZ
  have e1 : (65 ≤ c.toNat) = (65 ≤ c) := by apply propext; omega
  have e2 : (c.toNat ≤ 90) = (c ≤ 90) := by apply propext; omega
  have e3 : (97 ≤ c.toNat) = (97 ≤ c) := by apply propext; omega
  have e4 : (c.toNat ≤ 122) = (c ≤ 122) := by apply propext; omega
  simp only [e1, e2, e3, e4]
theorem small_nn {c : Int} (h : 0 ≤ c) : 0 ≤ smallZ c := by unfold smallZ; split <;> omega
theorem cap_nn {c : Int} (h : 0 ≤ c) : 0 ≤ capZ c := by unfold capZ; split <;> omega
theorem other_nn {c : Int} (h : 0 ≤ c) : 0 ≤ otherZ c := by unfold otherZ capZ; split <;> (try split) <;> omega
def titledZ : Bool → List Int → List Int
  | _, [] => []
  | b, c :: r => (if b = true then smallZ c else capZ c) :: titledZ (letterZ c) r
theorem titled_z : ∀ {l : List Int} {b : Bool}, Nn l → Sv24.titled b (nz l) = nz (titledZ b l) ∧ Nn (titledZ b l)
  | [], b, _ => ⟨by cases b <;> rfl, by cases b <;> exact fun x hx => (nomatch hx)⟩
  | c :: r, b, h => by
    obtain ⟨e, hn⟩ := titled_z (b := letterZ c) h.tail
    constructor
    · rw [nz_cons, Sv24.titled, titledZ, nz_cons, letter_z h.head, e, small_z h.head, cap_z h.head]
      cases b <;> rfl
    · intro x hx
      rw [titledZ] at hx
      rcases List.mem_cons.1 hx with rfl | hx
      · cases b
        · exact cap_nn h.head
        · exact small_nn h.head
      · exact hn x hx
def casedZ (how : Int) (t : List Int) : List Int := if how = 0 then t.map smallZ else if how = 1 then t.map capZ else if how = 2 then t.map otherZ else if how = 3 then titledZ false t else t
theorem nn_map {l : List Int} {g : Int → Int} (h : Nn l) (hg : ∀ c, 0 ≤ c → 0 ≤ g c) : Nn (l.map g) := by
  intro x hx
  obtain ⟨y, hy, rfl⟩ := List.mem_map.1 hx
  exact hg y (h y hy)
theorem cased_eq {how : Int} {t : List Int} (ht : Nn t) : PySv24.cased how t = tell (casedZ how t) := by
  show (Sv24.text (Sv24.cased (nz t) how)).v :: (Sv24.text (Sv24.cased (nz t) how)).l = _
  have e : Sv24.cased (nz t) how = nz (casedZ how t) ∧ Nn (casedZ how t) := by
    unfold Sv24.cased casedZ
    split
    · exact ⟨nz_map (fun x hx => small_z (ht x hx)), nn_map ht (fun c h => small_nn h)⟩
    · split
      · exact ⟨nz_map (fun x hx => cap_z (ht x hx)), nn_map ht (fun c h => cap_nn h)⟩
      · split
        · exact ⟨nz_map (fun x hx => other_z (ht x hx)), nn_map ht (fun c h => other_nn h)⟩
        · split
          · exact titled_z ht
          · exact ⟨rfl, ht⟩
  rw [e.1]
  exact told e.2
/-! ### trim -/
def trimZ (how : Int) (t s : List Int) : List Int :=
  let a := if how % 2 = 1 then t.dropWhile s.contains else t
  if how / 2 % 2 = 1 then (a.reverse.dropWhile s.contains).reverse else a
theorem nn_sub {a b : List Int} (h : Nn b) (hs : a.Sublist b) : Nn a := fun x hx => h x (hs.subset hx)
theorem trim_eq {how : Int} {t s : List Int} (ht : Nn t) (hs : Nn s) : PySv24.trim how t s = tell (trimZ how t s) := by
  show (Sv24.text (Sv24.trim (nz t) (nz s) how)).v :: (Sv24.text (Sv24.trim (nz t) (nz s) how)).l = _
  have hc : ∀ {l : List Int}, Nn l → (nz l).dropWhile (nz s).contains = nz (l.dropWhile s.contains) := fun h => nz_dropWhile (fun x hx => nz_has hs (h x hx))
  have e : Sv24.trim (nz t) (nz s) how = nz (trimZ how t s) ∧ Nn (trimZ how t s) := by
    unfold Sv24.trim trimZ
    have h1 : (if how % 2 = 1 then (nz t).dropWhile (nz s).contains else nz t) = nz (if how % 2 = 1 then t.dropWhile s.contains else t) := by
      split
      · exact hc ht
      · rfl
    have h2 : Nn (if how % 2 = 1 then t.dropWhile s.contains else t) := by
      split
      · exact nn_sub ht (List.dropWhile_sublist _)
      · exact ht
    dsimp only
    rw [h1]
    generalize (if how % 2 = 1 then t.dropWhile s.contains else t) = a at h2
    have h3 : Nn a.reverse := fun x hx => h2 x (List.mem_reverse.1 hx)
    split
    · rw [nz_rev, hc h3, nz_rev]
      exact ⟨rfl, fun x hx => nn_sub h3 (List.dropWhile_sublist _) x (List.mem_reverse.1 hx)⟩
    · exact ⟨rfl, h2⟩
  rw [e.1]
  exact told e.2
/-! ### compare -/
def beforeZ : List Int → List Int → Bool
  | a :: r, b :: s => decide (a < b) || (a == b && beforeZ r s)
  | [], _ :: _ => true
  | _, [] => false
theorem before_z : ∀ {a b : List Int}, Nn a → Nn b → Sv24.before (nz a) (nz b) = beforeZ a b
  | [], [], _, _ => rfl
  | [], _ :: _, _, _ => rfl
  | _ :: _, [], _, _ => rfl
  | x :: r, y :: s, ha, hb => by
    rw [nz_cons, nz_cons, Sv24.before, beforeZ, before_z ha.tail hb.tail]
    have h1 := ha.head
    have h2 := hb.head
    have e1 : (x.toNat < y.toNat) = (x < y) := by apply propext; omega
    have e2 : (x.toNat == y.toNat) = (x == y) := by rw [Bool.eq_iff_iff, beq_iff_eq, beq_iff_eq]; omega
    simp only [e1, e2]
def compareZ (how : Int) (a b : List Int) : Int :=
  let x := if how = 1 then a.map smallZ else a
  let y := if how = 1 then b.map smallZ else b
  if how ≠ 0 ∧ how ≠ 1 ∧ x.length ≠ y.length then (if x.length < y.length then -1 else 1) else if beforeZ x y = true then -1 else if beforeZ y x = true then 1 else 0
theorem compare_eq {how : Int} {a b : List Int} (ha : Nn a) (hb : Nn b) : PySv24.compare how a b = [compareZ how a b] := by
  show [Sv24.compare (nz a) (nz b) how] = _
  unfold Sv24.compare compareZ
  have h1 : ∀ {l : List Int}, Nn l → (if how = 1 then (nz l).map Sv24.small else nz l) = nz (if how = 1 then l.map smallZ else l) ∧ Nn (if how = 1 then l.map smallZ else l) := by
    intro l h
    split
    · exact ⟨nz_map (fun x hx => small_z (h x hx)), nn_map h (fun c h => small_nn h)⟩
    · exact ⟨rfl, h⟩
  dsimp only
  rw [(h1 ha).1, (h1 hb).1, nz_len, nz_len, before_z (h1 ha).2 (h1 hb).2, before_z (h1 hb).2 (h1 ha).2]
/-! ### pieces -/
def betweenZ : Nat → List Int → List Int → List Int → List (List Int)
  | 0, _, _, w => [w]
  | f + 1, t, p, w => match t with
    | [] => [w]
    | c :: r => if p.isPrefixOf t = true then w :: betweenZ f (t.drop p.length) p [] else betweenZ f r p (w ++ [c])
theorem prefix_z : ∀ {p t : List Int}, Nn p → Nn t → (nz p).isPrefixOf (nz t) = p.isPrefixOf t
  | [], _, _, _ => by rw [nz_nil, List.isPrefixOf, List.isPrefixOf]
  | _ :: _, [], _, _ => rfl
  | x :: r, y :: s, hp, ht => by
    rw [nz_cons, nz_cons, List.isPrefixOf, List.isPrefixOf, prefix_z hp.tail ht.tail]
    have h1 := hp.head
    have h2 := ht.head
    have e2 : (x.toNat == y.toNat) = (x == y) := by rw [Bool.eq_iff_iff, beq_iff_eq, beq_iff_eq]; omega
    rw [e2]
theorem nn_one {c : Int} (h : 0 ≤ c) : Nn [c] := fun x hx => by rcases List.mem_singleton.1 hx with rfl; exact h
theorem between_z : ∀ (f : Nat) {t p w : List Int}, Nn t → Nn p → Nn w → Sv24.between f (nz t) (nz p) (nz w) = (betweenZ f t p w).map nz ∧ ∀ x ∈ betweenZ f t p w, Nn x
  | 0, t, p, w, _, _, hw => by
    rw [Sv24.between, betweenZ]
    exact ⟨rfl, fun _ hx => by rcases List.mem_singleton.1 hx with rfl; exact hw⟩
  | f + 1, [], p, w, _, _, hw => by
    rw [nz_nil, Sv24.between, betweenZ]
    exact ⟨rfl, fun x hx => by rcases List.mem_singleton.1 hx with rfl; exact hw⟩
  | f + 1, c :: r, p, w, ht, hp, hw => by
    have e1 := between_z f (ht.drop p.length) hp (w := []) (fun x hx => (nomatch hx))
    have e2 := between_z f ht.tail hp (hw.app (nn_one ht.head))
    rw [nz_cons, Sv24.between, betweenZ, ← nz_cons, prefix_z hp ht]
    split
    · constructor
      · rw [nz_len, nz_drop, List.map_cons, ← e1.1]; rfl
      · intro x hx
        rcases List.mem_cons.1 hx with rfl | hx
        · exact hw
        · exact e1.2 x hx
    · constructor
      · rw [← e2.1, ← nz_app]; rfl
      · exact e2.2
def countZ (t p : List Int) : Int := if p = [] then (t.length : Int) + 1 else (((betweenZ (t.length + 1) t p []).length - 1 : Nat) : Int)
theorem nn_nil : Nn [] := fun x hx => (nomatch hx)
theorem count_eq {t p : List Int} (ht : Nn t) (hp : Nn p) : PySv24.count t p = [countZ t p] := by
  show [((Sv24.count (nz t) (nz p) : Nat) : Int)] = _
  unfold Sv24.count countZ
  simp only [nz_eqnil, nz_len]
  have e := (between_z (t.length + 1) ht hp nn_nil).1
  rw [nz_nil] at e
  rw [e, List.length_map]
  split
  · rw [Int.natCast_add]; rfl
  · rfl
def replaceZ (t p r : List Int) : List Int := if p = [] then t else r.intercalate (betweenZ (t.length + 1) t p [])
theorem nz_flat : ∀ (l : List (List Int)), (l.map nz).flatten = nz l.flatten
  | [] => rfl
  | a :: r => by rw [List.map_cons, List.flatten_cons, List.flatten_cons, nz_flat r, nz_app]
theorem nz_inter (r : List Int) : ∀ (l : List (List Int)), List.intersperse (nz r) (l.map nz) = (List.intersperse r l).map nz
  | [] => rfl
  | [_] => rfl
  | a :: b :: l => by
    have ih := nz_inter r (b :: l)
    rw [List.map_cons] at ih
    rw [List.map_cons, List.map_cons, List.intersperse_cons_cons, List.intersperse_cons_cons, ih]
    rfl
theorem nz_sep (r : List Int) : ∀ (l : List (List Int)), (nz r).intercalate (l.map nz) = nz (r.intercalate l) := by
  intro l
  unfold List.intercalate
  rw [← nz_flat, nz_inter]
theorem mem_sep {x : Int} {r : List Int} {l : List (List Int)} (h : x ∈ r.intercalate l) : x ∈ r ∨ ∃ y ∈ l, x ∈ y := by
  unfold List.intercalate at h
  obtain ⟨y, hy, hx⟩ := List.mem_flatten.1 h
  induction l with
  | nil => cases hy
  | cons a l ih =>
    cases l with
    | nil =>
      rw [List.intersperse_singleton] at hy
      rcases List.mem_singleton.1 hy with rfl
      exact .inr ⟨y, List.mem_cons_self, hx⟩
    | cons b l =>
      rw [List.intersperse_cons_cons] at hy
      rcases List.mem_cons.1 hy with rfl | hy
      · exact .inr ⟨y, List.mem_cons_self, hx⟩
      · rcases List.mem_cons.1 hy with rfl | hy
        · exact .inl hx
        · have h2 : x ∈ (List.intersperse r (b :: l)).flatten := List.mem_flatten.2 ⟨y, hy, hx⟩
          rcases ih h2 hy with h3 | ⟨z, hz, hxz⟩
          · exact .inl h3
          · exact .inr ⟨z, List.mem_cons_of_mem _ hz, hxz⟩
theorem replace_eq {t p r : List Int} (ht : Nn t) (hp : Nn p) (hr : Nn r) : PySv24.replace t p r = tell (replaceZ t p r) := by
  show (Sv24.text (Sv24.replace (nz t) (nz p) (nz r))).v :: (Sv24.text (Sv24.replace (nz t) (nz p) (nz r))).l = _
  have e := between_z (t.length + 1) ht hp nn_nil
  rw [nz_nil] at e
  have e2 : Sv24.replace (nz t) (nz p) (nz r) = nz (replaceZ t p r) ∧ Nn (replaceZ t p r) := by
    unfold Sv24.replace replaceZ
    simp only [nz_eqnil, nz_len]
    split
    · exact ⟨rfl, ht⟩
    · rw [e.1, nz_sep]
      refine ⟨rfl, fun x hx => ?_⟩
      rcases mem_sep hx with h | ⟨y, hy, h⟩
      · exact hr x h
      · exact e.2 y hy x h
  rw [e2.1]
  exact told e2.2
end My

namespace My
/-! ## pieces, step by step -/
/-- more room changes nothing; w is only put ahead of the first piece -/
theorem btw_room : ∀ {f g : Nat} {t p w : List Int}, p ≠ [] → t.length < f → t.length < g → betweenZ f t p w = betweenZ g t p w
  | 0, _, _, _, _, _, h, _ => by omega
  | _ + 1, 0, _, _, _, _, _, h => by omega
  | f + 1, g + 1, [], p, w, _, _, _ => by rw [betweenZ, betweenZ]
  | f + 1, g + 1, c :: r, p, w, hp, hf, hg => by
    rw [betweenZ, betweenZ]
    have h1 : 0 < p.length := List.length_pos_iff.2 hp
    have h2 : ((c :: r).drop p.length).length < f := by rw [List.length_drop, List.length_cons] at *; omega
    have h3 : ((c :: r).drop p.length).length < g := by rw [List.length_drop, List.length_cons] at *; omega
    rw [List.length_cons] at hf hg
    rw [btw_room (g := g) hp h2 h3, btw_room (f := f) (g := g) (t := r) hp (by omega) (by omega)]
theorem btw_ne : ∀ {f : Nat} {t p w : List Int}, betweenZ f t p w ≠ []
  | 0, _, _, _ => by rw [betweenZ]; exact List.cons_ne_nil _ _
  | _ + 1, [], _, _ => by rw [betweenZ]; exact List.cons_ne_nil _ _
  | f + 1, c :: r, p, w => by
    rw [betweenZ]
    split
    · exact List.cons_ne_nil _ _
    · exact btw_ne
/-- the first piece with something ahead of it -/
def ahead (w : List Int) : List (List Int) → List (List Int)
  | [] => [w]
  | x :: l => (w ++ x) :: l
theorem ahead_ahead (u w : List Int) (l : List (List Int)) : ahead u (ahead w l) = ahead (u ++ w) l := by
  cases l with
  | nil => rfl
  | cons x l => show ((u ++ (w ++ x)) :: l) = _; rw [← List.append_assoc]; rfl
theorem btw_ahead : ∀ {f : Nat} {t p w : List Int}, betweenZ f t p w = ahead w (betweenZ f t p [])
  | 0, _, _, w => by rw [betweenZ, betweenZ]; show [w] = [w ++ []]; rw [List.append_nil]
  | _ + 1, [], _, w => by rw [betweenZ, betweenZ]; show [w] = [w ++ []]; rw [List.append_nil]
  | f + 1, c :: r, p, w => by
    rw [betweenZ, betweenZ]
    split
    · show _ = (w ++ []) :: _; rw [List.append_nil]
    · rw [btw_ahead (w := w ++ [c]), btw_ahead (w := [] ++ [c]), ahead_ahead, List.nil_append]
/-- the pieces of what stands from a place on -/
def pcs (p t : List Int) : List (List Int) := betweenZ (t.length + 1) t p []
theorem prefix_take : ∀ {p t : List Int}, p.isPrefixOf t = true ↔ t.take p.length = p
  | [], t => by simp
  | x :: r, [] => by simp
  | x :: r, y :: s => by
    rw [List.isPrefixOf, Bool.and_eq_true, beq_iff_eq, prefix_take (p := r) (t := s), List.length_cons, List.take_succ_cons, List.cons.injEq]
    constructor
    · rintro ⟨h1, h2⟩; exact ⟨h1.symm, h2⟩
    · rintro ⟨h1, h2⟩; exact ⟨h1.symm, h2⟩
theorem pcs_nil (p : List Int) : pcs p [] = [[]] := rfl
theorem pcs_hit {p t : List Int} {i : Nat} (hp : p ≠ []) (h : (t.drop i).take p.length = p) : pcs p (t.drop i) = [] :: pcs p (t.drop (i + p.length)) := by
  have h1 : 0 < p.length := List.length_pos_iff.2 hp
  have hl : i < t.length := by
    have := congrArg List.length h
    rw [List.length_take, List.length_drop] at this
    omega
  unfold pcs
  have e : t.drop i = t[i] :: t.drop (i + 1) := List.drop_eq_getElem_cons hl
  have hpre : p.isPrefixOf (t[i] :: t.drop (i + 1)) = true := by rw [← e]; exact prefix_take.2 h
  have : betweenZ ((t.drop i).length + 1) (t.drop i) p [] = betweenZ ((t.drop i).length + 1) (t[i] :: t.drop (i + 1)) p [] := by rw [← e]
  rw [this, betweenZ, if_pos hpre, ← e, List.drop_drop]
  congr 1
  refine btw_room hp ?_ ?_
  · rw [List.length_drop, List.length_drop]; omega
  · omega
theorem pcs_miss {p t : List Int} {i : Nat} (hp : p ≠ []) (hi : i < t.length) (h : (t.drop i).take p.length ≠ p) : pcs p (t.drop i) = ahead [t[i]] (pcs p (t.drop (i + 1))) := by
  unfold pcs
  have e : t.drop i = t[i] :: t.drop (i + 1) := List.drop_eq_getElem_cons hi
  have hpre : ¬ p.isPrefixOf (t[i] :: t.drop (i + 1)) = true := by rw [← e]; exact fun hh => h (prefix_take.1 hh)
  have : betweenZ ((t.drop i).length + 1) (t.drop i) p [] = betweenZ ((t.drop i).length + 1) (t[i] :: t.drop (i + 1)) p [] := by rw [← e]
  rw [this, betweenZ, if_neg hpre, List.nil_append, btw_ahead]
  congr 1
  refine btw_room hp ?_ ?_
  · rw [List.length_drop, List.length_drop]; omega
  · omega
theorem pcs_ne (p t : List Int) : pcs p t ≠ [] := btw_ne
theorem ahead_len {w : List Int} {l : List (List Int)} (h : l ≠ []) : (ahead w l).length = l.length := by
  cases l with
  | nil => exact absurd rfl h
  | cons x l => rfl
/-! ### how often -/
def oc (p t : List Int) : Nat := (pcs p t).length - 1
theorem oc_hit {p t : List Int} {i : Nat} (hp : p ≠ []) (h : (t.drop i).take p.length = p) : oc p (t.drop i) = oc p (t.drop (i + p.length)) + 1 := by
  unfold oc
  rw [pcs_hit hp h, List.length_cons]
  have := List.length_pos_iff.2 (pcs_ne p (t.drop (i + p.length)))
  omega
theorem oc_miss {p t : List Int} {i : Nat} (hp : p ≠ []) (hi : i < t.length) (h : (t.drop i).take p.length ≠ p) : oc p (t.drop i) = oc p (t.drop (i + 1)) := by
  unfold oc
  rw [pcs_miss hp hi h, ahead_len (pcs_ne _ _)]
theorem pcs_end {p : List Int} (hp : p ≠ []) : ∀ {k : Nat} {t : List Int} {i : Nat}, t.length - i = k → t.length < i + p.length → pcs p (t.drop i) = [t.drop i]
  | 0, t, i, hk, _ => by
    have : t.drop i = [] := List.drop_of_length_le (by omega)
    rw [this, pcs_nil]
  | k + 1, t, i, hk, h => by
    have hi : i < t.length := by omega
    have hne : (t.drop i).take p.length ≠ p := by
      intro hh
      have := congrArg List.length hh
      rw [List.length_take, List.length_drop] at this
      omega
    rw [pcs_miss hp hi hne, pcs_end hp (k := k) (t := t) (i := i + 1) (by omega) (by omega)]
    show [[t[i]] ++ t.drop (i + 1)] = _
    rw [List.drop_eq_getElem_cons hi]
    rfl
theorem oc_end {p t : List Int} {i : Nat} (hp : p ≠ []) (h : t.length < i + p.length) : oc p (t.drop i) = 0 := by
  unfold oc; rw [pcs_end hp rfl h]; rfl
theorem count_oc {p t : List Int} (hp : p ≠ []) : countZ t p = (oc p t : Int) := by
  unfold countZ oc pcs
  rw [if_neg hp]
theorem count_nil (t : List Int) : countZ t [] = (t.length : Int) + 1 := rfl
/-! ### put together again -/
def rp (p r t : List Int) : List Int := r.intercalate (pcs p t)
theorem inter_cons {r x : List Int} {l : List (List Int)} (h : l ≠ []) : r.intercalate (x :: l) = x ++ (r ++ r.intercalate l) := by
  cases l with
  | nil => exact absurd rfl h
  | cons y l =>
    unfold List.intercalate
    rw [List.intersperse_cons_cons, List.flatten_cons, List.flatten_cons]
theorem inter_one (r x : List Int) : r.intercalate [x] = x := by
  unfold List.intercalate
  rw [List.intersperse_singleton, List.flatten_cons, List.flatten_nil, List.append_nil]
theorem inter_ahead {r w : List Int} {l : List (List Int)} (h : l ≠ []) : r.intercalate (ahead w l) = w ++ r.intercalate l := by
  cases l with
  | nil => exact absurd rfl h
  | cons x l =>
    show r.intercalate ((w ++ x) :: l) = _
    cases l with
    | nil => rw [inter_one, inter_one]
    | cons y l => rw [inter_cons (List.cons_ne_nil _ _), inter_cons (List.cons_ne_nil _ _), List.append_assoc]
theorem rp_hit {p r t : List Int} {i : Nat} (hp : p ≠ []) (h : (t.drop i).take p.length = p) : rp p r (t.drop i) = r ++ rp p r (t.drop (i + p.length)) := by
  unfold rp
  rw [pcs_hit hp h, inter_cons (pcs_ne _ _), List.nil_append]
theorem rp_miss {p r t : List Int} {i : Nat} (hp : p ≠ []) (hi : i < t.length) (h : (t.drop i).take p.length ≠ p) : rp p r (t.drop i) = t[i] :: rp p r (t.drop (i + 1)) := by
  unfold rp
  rw [pcs_miss hp hi h, inter_ahead (pcs_ne _ _)]
  rfl
theorem rp_end {p r t : List Int} {i : Nat} (hp : p ≠ []) (h : t.length < i + p.length) : rp p r (t.drop i) = t.drop i := by
  unfold rp; rw [pcs_end hp rfl h, inter_one]
theorem replace_rp {p r t : List Int} (hp : p ≠ []) : replaceZ t p r = rp p r t := by
  unfold replaceZ rp pcs
  rw [if_neg hp]
theorem replace_nil (r t : List Int) : replaceZ t [] r = t := rfl
end My

namespace My
theorem part_fin {b n : Int} {t : List Int} : (t.drop (if 0 > b then 0 else b).toNat).take (min (if 0 > b + n then 0 else b + n).toNat t.length - (if 0 > b then 0 else b).toNat) = (t.drop (max b 0).toNat).take (max 0 (b + max n 0) - max b 0).toNat := by
  have e1 : (if 0 > b then 0 else b) = max b 0 := by split <;> omega
  have e2 : (if 0 > b + n then 0 else b + n) = max (b + n) 0 := by split <;> omega
  rw [e1, e2, List.take_eq_take_iff, List.length_drop]
  omega
/-! ### places -/
theorem stands_iff {t p : List Int} (ht : Nn t) (hp : Nn p) (i : Nat) :
    Sv24.standsAt (nz t) (nz p) i = true ↔ i + p.length ≤ t.length ∧ (t.drop i).take p.length = p := by
  unfold Sv24.standsAt
  rw [Bool.and_eq_true, decide_eq_true_eq, beq_iff_eq, nz_len, nz_len, nz_drop, nz_take, nz_inj ((ht.drop _).take _) hp]
theorem find_hit {t p : List Int} {b : Int} (ht : Nn t) (hp : Nn p)
    (i : Nat) (hb : b ≤ i) (hi : i + p.length ≤ t.length) (he : (t.drop i).take p.length = p)
    (hno : ∀ j : Nat, b ≤ j → j < i → (t.drop j).take p.length ≠ p) : PySv24.find b t p = [(i : Int)] := by
  show [Sv24.find (nz t) (nz p) b] = _
  unfold Sv24.find Sv24.places
  have e : ((List.range ((nz t).length + 1)).filter fun i => Sv24.standsAt (nz t) (nz p) i).find? (fun (i : Nat) => decide (b ≤ (i : Int))) = some i := by
    rw [List.find?_filter, List.find?_range_eq_some]
    refine ⟨?_, ?_, ?_⟩
    · simp only [(stands_iff ht hp i).2 ⟨hi, he⟩, decide_eq_true hb, decide_true, and_self]
    · rw [nz_len, List.mem_range]; omega
    · intro j hj
      have hs : ¬ (Sv24.standsAt (nz t) (nz p) j = true ∧ b ≤ (j : Int)) := by
        intro ⟨h1, h2⟩
        exact hno j h2 hj ((stands_iff ht hp j).1 h1).2
      cases hq : Sv24.standsAt (nz t) (nz p) j with
      | false => simp
      | true =>
        rw [hq] at hs
        simpa using hs
  rw [e]; rfl
theorem find_miss {t p : List Int} {b : Int} (ht : Nn t) (hp : Nn p)
    (hno : ∀ j : Nat, b ≤ j → j + p.length ≤ t.length → (t.drop j).take p.length ≠ p) : PySv24.find b t p = [-1] := by
  show [Sv24.find (nz t) (nz p) b] = _
  unfold Sv24.find Sv24.places
  have e : ((List.range ((nz t).length + 1)).filter fun i => Sv24.standsAt (nz t) (nz p) i).find? (fun (i : Nat) => decide (b ≤ (i : Int))) = none := by
    rw [List.find?_filter, List.find?_eq_none]
    intro j _
    have hs : ¬ (Sv24.standsAt (nz t) (nz p) j = true ∧ b ≤ (j : Int)) := by
      intro ⟨h1, h2⟩
      have h3 := (stands_iff ht hp j).1 h1
      exact hno j h2 h3.1 h3.2
    simpa using hs
  rw [e]; rfl
theorem last_filter {q : Nat → Bool} : ∀ {n i : Nat}, i < n → q i = true → (∀ j, i < j → j < n → q j = false) → ((List.range n).filter q).getLast? = some i
  | 0, _, h, _, _ => by omega
  | n + 1, i, h, hq, hno => by
    rw [List.range_succ, List.filter_append]
    by_cases e : i = n
    · subst e
      have : List.filter q [i] = [i] := by simp [hq]
      rw [this, List.getLast?_concat]
    · have hn := hno n (by omega) (by omega)
      have : List.filter q [n] = [] := by simp [hn]
      rw [this, List.append_nil]
      exact last_filter (by omega) hq (fun j h1 h2 => hno j h1 (by omega))
theorem last_hit {t p : List Int} (ht : Nn t) (hp : Nn p)
    (i : Nat) (hi : i + p.length ≤ t.length) (he : (t.drop i).take p.length = p)
    (hno : ∀ j : Nat, i < j → j + p.length ≤ t.length → (t.drop j).take p.length ≠ p) : PySv24.last t p = [(i : Int)] := by
  show [Sv24.last (nz t) (nz p)] = _
  unfold Sv24.last Sv24.places
  rw [nz_len, last_filter (i := i) (by omega) ((stands_iff ht hp i).2 ⟨hi, he⟩)]
  · rfl
  · intro j h1 h2
    have hs : ¬ Sv24.standsAt (nz t) (nz p) j = true := by
      intro h1'
      have h3 := (stands_iff ht hp j).1 h1'
      exact hno j h1 h3.1 h3.2
    simpa using hs
theorem last_miss {t p : List Int} (ht : Nn t) (hp : Nn p)
    (hno : ∀ j : Nat, j + p.length ≤ t.length → (t.drop j).take p.length ≠ p) : PySv24.last t p = [-1] := by
  show [Sv24.last (nz t) (nz p)] = _
  unfold Sv24.last Sv24.places
  have e : ((List.range ((nz t).length + 1)).filter fun i => Sv24.standsAt (nz t) (nz p) i) = [] := by
    rw [List.filter_eq_nil_iff]
    intro j _ h1
    have h3 := (stands_iff ht hp j).1 h1
    exact hno j h3.1 h3.2
  rw [e]; rfl
/-! ### the loops -/
/-- the slice that the loop looks at -/
def cutAt (t p : List Int) (j : Int) : List Int := (t.drop j.toNat).take (min (j + p.length).toNat t.length - j.toNat)
theorem cutAt_eq {t p : List Int} {j : Nat} (h : j + p.length ≤ t.length) : cutAt t p (j : Int) = (t.drop j).take p.length := by
  unfold cutAt
  rw [Int.toNat_natCast, List.take_eq_take_iff, List.length_drop]
  omega
structure NoUp (b : Int) (t p : List Int) (m : Nat) : Prop where
  no : ∀ j : Int, (if 0 > b then 0 else b) ≤ j → j < (if 0 > b then 0 else b) + (m : Int) → cutAt t p j ≠ p
theorem up_start {b : Int} {t p : List Int} : NoUp b t p ([] : List Int).length := ⟨fun j h1 h2 => by simp only [List.length_nil] at h2; omega⟩
theorem up_turn {b : Int} {t p pre : List Int} {k : Int} (h : NoUp b t p pre.length) (e : k = (if 0 > b then 0 else b) + (pre.length : Int))
    (hne : ¬ (t.drop k.toNat).take (min (k + p.length).toNat t.length - k.toNat) = p) : NoUp b t p (pre ++ [k]).length := by
  refine ⟨fun j h1 h2 => ?_⟩
  rw [List.length_append, List.length_singleton] at h2
  by_cases hj : j = k
  · subst hj; exact hne
  · exact h.no j h1 (by omega)
theorem up_hit {b : Int} {t p pre : List Int} {k : Int} (ht : Nn t) (hp : Nn p) (h : NoUp b t p pre.length) (e : k = (if 0 > b then 0 else b) + (pre.length : Int))
    (hlt : pre.length < ((t.length : Int) - (p.length : Int) + 1 - (if 0 > b then 0 else b)).toNat)
    (he : (t.drop k.toNat).take (min (k + p.length).toNat t.length - k.toNat) = p) : PySv24.find b t p = [k] := by
  have hb : (if 0 > b then 0 else b) = max b 0 := by split <;> omega
  have h0 : (k.toNat : Int) = k := Int.toNat_of_nonneg (by rw [hb] at e; omega)
  have hk : k.toNat + p.length ≤ t.length := by rw [hb] at e hlt; omega
  rw [← h0]
  refine find_hit ht hp k.toNat (by rw [hb] at e; omega) hk ?_ ?_
  · rw [← cutAt_eq hk, h0]; exact he
  · intro j h1 h2
    rw [← cutAt_eq (show j + p.length ≤ t.length by omega)]
    exact h.no j (by rw [hb]; omega) (by rw [← e]; omega)
theorem up_miss {b : Int} {t p : List Int} {m : Nat} (ht : Nn t) (hp : Nn p) (h : NoUp b t p m)
    (hm : m = ((t.length : Int) - (p.length : Int) + 1 - (if 0 > b then 0 else b)).toNat) : PySv24.find b t p = [-1] := by
  have hb : (if 0 > b then 0 else b) = max b 0 := by split <;> omega
  refine find_miss ht hp ?_
  intro j h1 h2
  rw [← cutAt_eq h2]
  exact h.no j (by rw [hb]; omega) (by rw [hb] at hm ⊢; omega)
structure NoDown (t p : List Int) (m : Nat) : Prop where
  no : ∀ j : Int, j ≤ (t.length : Int) - (p.length : Int) → (t.length : Int) - (p.length : Int) - (m : Int) < j → cutAt t p j ≠ p
theorem down_start {t p : List Int} : NoDown t p ([] : List Int).length := ⟨fun j h1 h2 => by simp only [List.length_nil] at h2; omega⟩
theorem down_turn {t p pre : List Int} {k : Int} (h : NoDown t p pre.length) (e : k = (t.length : Int) - (p.length : Int) - (pre.length : Int))
    (hne : ¬ (t.drop k.toNat).take (min (k + p.length).toNat t.length - k.toNat) = p) : NoDown t p (pre ++ [k]).length := by
  refine ⟨fun j h1 h2 => ?_⟩
  rw [List.length_append, List.length_singleton] at h2
  by_cases hj : j = k
  · subst hj; exact hne
  · exact h.no j h1 (by omega)
theorem down_hit {t p pre : List Int} {k : Int} (ht : Nn t) (hp : Nn p) (h : NoDown t p pre.length) (e : k = (t.length : Int) - (p.length : Int) - (pre.length : Int))
    (hlt : pre.length < ((t.length : Int) - (p.length : Int) - (-1)).toNat)
    (he : (t.drop k.toNat).take (min (k + p.length).toNat t.length - k.toNat) = p) : PySv24.last t p = [k] := by
  have h0 : (k.toNat : Int) = k := Int.toNat_of_nonneg (by omega)
  have hk : k.toNat + p.length ≤ t.length := by omega
  rw [← h0]
  refine last_hit ht hp k.toNat hk ?_ ?_
  · rw [← cutAt_eq hk, h0]; exact he
  · intro j h1 h2
    rw [← cutAt_eq h2]
    exact h.no j (by omega) (by omega)
theorem down_miss {t p : List Int} {m : Nat} (ht : Nn t) (hp : Nn p) (h : NoDown t p m)
    (hm : m = ((t.length : Int) - (p.length : Int) - (-1)).toNat) : PySv24.last t p = [-1] := by
  refine last_miss ht hp ?_
  intro j h2
  rw [← cutAt_eq h2]
  exact h.no j (by omega) (by omega)
end My

namespace My
/-! ## the places that are found from the front, as the program walks them -/
def St (t p : List Int) (j : Nat) : Prop := j + p.length ≤ t.length ∧ (t.drop j).take p.length = p
structure Hit (t p : List Int) (b k : Int) : Prop where
  nn : 0 ≤ k
  ge : b ≤ k
  st : St t p k.toNat
  no : ∀ j : Nat, b ≤ (j : Int) → (j : Int) < k → ¬ St t p j
structure Miss (t p : List Int) (b : Int) : Prop where
  no : ∀ j : Nat, b ≤ (j : Int) → ¬ St t p j
/-- how far the next place lies at least -/
abbrev stepZ (p : List Int) : Int := if 1 > (p.length : Int) then 1 else (p.length : Int)
theorem stepZ_pos (p : List Int) : 1 ≤ stepZ p ∧ (p.length : Int) ≤ stepZ p := by unfold stepZ; split <;> omega
theorem stepZ_ne {p : List Int} (h : p ≠ []) : stepZ p = (p.length : Int) := by
  have := List.length_pos_iff.2 h
  unfold stepZ; split <;> omega
def Pl (t p : List Int) : Int → List Int → Prop
  | b, [] => Miss t p b
  | b, k :: r => Hit t p b k ∧ Pl t p (k + stepZ p) r
theorem Hit.le {t p : List Int} {b k : Int} (h : Hit t p b k) : k + (p.length : Int) ≤ (t.length : Int) := by
  have := h.st.1; have := h.nn; omega
/-- the search upward, told so -/
theorem nx_hit {b : Int} {t p pre : List Int} {k : Int} (h : NoUp b t p pre.length) (e : k = (if 0 > b then 0 else b) + (pre.length : Int))
    (hlt : pre.length < ((t.length : Int) - (p.length : Int) + 1 - (if 0 > b then 0 else b)).toNat)
    (he : (t.drop k.toNat).take (min (k + p.length).toNat t.length - k.toNat) = p) : Hit t p b k := by
  have hb : (if 0 > b then 0 else b) = max b 0 := by split <;> omega
  rw [hb] at e hlt
  have h0 : (k.toNat : Int) = k := Int.toNat_of_nonneg (by omega)
  have hk : k.toNat + p.length ≤ t.length := by omega
  refine ⟨by omega, by omega, ⟨hk, ?_⟩, ?_⟩
  · rw [← cutAt_eq hk, h0]; exact he
  · intro j h1 h2 hs
    have := cutAt_eq hs.1
    exact h.no j (by rw [hb]; omega) (by rw [hb]; omega) (this.trans hs.2)
theorem nx_miss {b : Int} {t p : List Int} {m : Nat} (h : NoUp b t p m)
    (hm : m = ((t.length : Int) - (p.length : Int) + 1 - (if 0 > b then 0 else b)).toNat) : Miss t p b := by
  have hb : (if 0 > b then 0 else b) = max b 0 := by split <;> omega
  rw [hb] at hm
  refine ⟨fun j h1 hs => ?_⟩
  have := cutAt_eq hs.1
  exact h.no j (by rw [hb]; omega) (by rw [hb]; have := hs.1; omega) (this.trans hs.2)
/-! ### the loop that gathers them -/
structure PI (t p found : List Int) (k : Int) : Prop where
  on : 0 ≤ k → (k + (p.length : Int) ≤ (t.length : Int)) ∧ (found.length : Int) ≤ k ∧ ∀ ks, Pl t p (k + stepZ p) ks → Pl t p 0 (found ++ k :: ks)
  off : k < 0 → Pl t p 0 found
  len : found.length ≤ t.length + 1
theorem pi_start_hit {t p : List Int} {k : Int} (h : Hit t p 0 k) : PI t p [] k :=
  ⟨fun _ => ⟨h.le, h.nn, fun _ hk => ⟨h, hk⟩⟩, fun hk => by have := h.nn; omega, Nat.zero_le _⟩
theorem pi_start_miss {t p : List Int} {k : Int} (h : Miss t p 0) (hk : k < 0) : PI t p [] k :=
  ⟨fun _ => by omega, fun _ => h, Nat.zero_le _⟩
theorem pi_hit {t p found : List Int} {k k' : Int} (I : PI t p found k) (h0 : 0 ≤ k) (h : Hit t p (k + stepZ p) k') : PI t p (found ++ [k]) k' := by
  obtain ⟨h1, h2, h3⟩ := I.on h0
  have := stepZ_pos p
  have := h.ge
  refine ⟨fun _ => ⟨h.le, ?_, fun ks hk => ?_⟩, fun hk => by have := h.nn; omega, ?_⟩
  · rw [List.length_append, List.length_singleton]; omega
  · rw [List.append_assoc]; exact h3 (k' :: ks) ⟨h, hk⟩
  · rw [List.length_append, List.length_singleton]; omega
theorem pi_miss {t p found : List Int} {k k' : Int} (I : PI t p found k) (h0 : 0 ≤ k) (h : Miss t p (k + stepZ p)) (hk : k' < 0) : PI t p (found ++ [k]) k' := by
  obtain ⟨h1, h2, h3⟩ := I.on h0
  refine ⟨fun _ => by omega, fun _ => h3 [] h, ?_⟩
  rw [List.length_append, List.length_singleton]; omega
/-! ### how many they are -/
theorem oc_skip {t p : List Int} (hp : p ≠ []) : ∀ {d b : Nat}, b + d ≤ t.length → (∀ j : Nat, b ≤ j → j < b + d → ¬ St t p j) → oc p (t.drop b) = oc p (t.drop (b + d))
  | 0, _, _, _ => rfl
  | d + 1, b, hl, hno => by
    by_cases h : b + p.length ≤ t.length
    · have : (t.drop b).take p.length ≠ p := fun he => hno b (Nat.le_refl _) (by omega) ⟨h, he⟩
      rw [oc_miss hp (by omega) this, oc_skip hp (d := d) (by omega) (fun j h1 h2 => hno j (by omega) (by omega)), show b + 1 + d = b + (d + 1) by omega]
    · rw [oc_end hp (by omega), oc_end hp (by omega)]
theorem rp_skip {t p r : List Int} (hp : p ≠ []) : ∀ {d b : Nat}, b + d ≤ t.length → (∀ j : Nat, b ≤ j → j < b + d → ¬ St t p j) → rp p r (t.drop b) = (t.drop b).take d ++ rp p r (t.drop (b + d))
  | 0, _, _, _ => by rw [List.take_zero, List.nil_append]; rfl
  | d + 1, b, hl, hno => by
    have hb : b < t.length := by omega
    have ed : t.drop b = t[b] :: t.drop (b + 1) := List.drop_eq_getElem_cons hb
    have et : (t.drop b).take (d + 1) = t[b] :: (t.drop (b + 1)).take d := by rw [ed, List.take_succ_cons]
    have hne : (t.drop b).take p.length ≠ p := by
      intro he
      have hl2 := congrArg List.length he
      rw [List.length_take, List.length_drop] at hl2
      exact hno b (Nat.le_refl _) (by omega) ⟨by omega, he⟩
    rw [rp_miss hp hb hne, rp_skip hp (d := d) (b := b + 1) (by omega) (fun j h1 h2 => hno j (by omega) (by omega)), et, List.cons_append, show b + 1 + d = b + (d + 1) by omega]
theorem oc_none {t p : List Int} (hp : p ≠ []) {b : Nat} (hb : b ≤ t.length) (hno : ∀ j : Nat, b ≤ j → ¬ St t p j) : oc p (t.drop b) = 0 := by
  rw [oc_skip hp (d := t.length - b) (by omega) (fun j h1 _ => hno j h1)]
  exact oc_end hp (by have := List.length_pos_iff.2 hp; omega)
theorem rp_none {t p r : List Int} (hp : p ≠ []) {b : Nat} (hb : b ≤ t.length) (hno : ∀ j : Nat, b ≤ j → ¬ St t p j) : rp p r (t.drop b) = t.drop b := by
  have hpos := List.length_pos_iff.2 hp
  rw [rp_skip hp (d := t.length - b) (by omega) (fun j h1 _ => hno j h1), rp_end hp (by omega), List.take_of_length_le (by rw [List.length_drop]; omega), show b + (t.length - b) = t.length by omega, List.drop_length, List.append_nil]
theorem pl_count {t p : List Int} (hp : p ≠ []) : ∀ {ks : List Int} {b : Int}, 0 ≤ b → b ≤ (t.length : Int) → Pl t p b ks → ks.length = oc p (t.drop b.toNat)
  | [], b, h0, h1, h => by
    rw [oc_none hp (by omega) (fun j hj => h.no j (by omega))]; rfl
  | k :: r, b, h0, h1, h => by
    obtain ⟨hh, hr⟩ := h
    have hk := hh.le
    have hge := hh.ge
    have hs := hh.st
    rw [stepZ_ne hp] at hr
    have e := pl_count hp (ks := r) (b := k + p.length) (by omega) (by omega) hr
    have e1 : b.toNat + (k.toNat - b.toNat) = k.toNat := by omega
    rw [oc_skip hp (b := b.toNat) (d := k.toNat - b.toNat) (by omega) (fun j h2 h3 => hh.no j (by omega) (by omega)), e1, oc_hit hp hs.2, List.length_cons, e]
    have : (k + (p.length : Int)).toNat = k.toNat + p.length := by omega
    rw [this]
theorem st_nil (t : List Int) (j : Nat) : St t [] j ↔ j ≤ t.length := ⟨fun h => h.1, fun h => ⟨h, rfl⟩⟩
theorem pl_count_nil {t : List Int} : ∀ {ks : List Int} {b : Int}, 0 ≤ b → b ≤ (t.length : Int) + 1 → Pl t [] b ks → (ks.length : Int) = (t.length : Int) + 1 - b
  | [], b, h0, h1, h => by
    by_cases hb : b ≤ (t.length : Int)
    · exact absurd ((st_nil t b.toNat).2 (by omega)) (h.no b.toNat (by omega))
    · rw [List.length_nil]; omega
  | k :: r, b, h0, h1, h => by
    obtain ⟨hh, hr⟩ := h
    have hge := hh.ge
    have hle := (st_nil t _).1 hh.st
    have hnn := hh.nn
    have hkb : k = b := by
      by_cases hlt : b < k
      · exact absurd ((st_nil t b.toNat).2 (by omega)) (hh.no b.toNat (by omega) (by omega))
      · omega
    have e := pl_count_nil (ks := r) (b := k + stepZ []) (by have := stepZ_pos []; omega) (by show k + 1 ≤ _; omega) hr
    have e2 : stepZ [] = 1 := rfl
    rw [e2] at e
    rw [List.length_cons]; push_cast; omega
theorem pl_countZ {t p ks : List Int} (h : Pl t p 0 ks) : countZ t p = (ks.length : Int) := by
  by_cases hp : p = []
  · subst hp
    rw [count_nil, pl_count_nil (Int.le_refl 0) (by omega) h]; omega
  · rw [count_oc hp, pl_count hp (Int.le_refl 0) (by omega) h]; rfl
/-! ### and what stands between them -/
theorem pl_all {t p : List Int} : ∀ {ks : List Int} {b k : Int}, Pl t p b ks → k ∈ ks → 0 ≤ k ∧ k + (p.length : Int) ≤ (t.length : Int)
  | [], _, _, _, hm => nomatch hm
  | _ :: _, _, _, h, hm => by
    rcases List.mem_cons.1 hm with rfl | hm
    · exact ⟨h.1.nn, h.1.le⟩
    · exact pl_all h.2 hm
structure RI (t p r pre whole : List Int) (behind : Int) : Prop where
  lo : 0 ≤ behind
  hi : behind ≤ (t.length : Int)
  len : (whole.length : Int) ≤ 32 * behind
  eq : ∀ post, Pl t p 0 (pre ++ post) → Pl t p behind post ∧ whole ++ rp p r (t.drop behind.toNat) = rp p r t
theorem ri_start {t p r : List Int} : RI t p r [] [] 0 := ⟨Int.le_refl 0, by omega, by simp, fun _ h => ⟨h, rfl⟩⟩
theorem ri_turn {t p r pre whole post ks : List Int} {behind n : Int} (hp : p ≠ []) (hr : r.length ≤ 31) (I : RI t p r pre whole behind) (hk : Pl t p 0 ks) (e : ks = pre ++ n :: post) :
    behind ≤ n ∧ RI t p r (pre ++ [n]) (whole ++ (t.drop behind.toNat).take (n.toNat - behind.toNat) ++ r) (n + (p.length : Int)) := by
  subst e
  have h1 := (I.eq _ hk).1.1
  have hlo := I.lo; have hhi := I.hi; have hlen := I.len; have hge := h1.ge; have hle := h1.le
  have hpos := List.length_pos_iff.2 hp
  refine ⟨hge, ⟨by omega, hle, ?_, fun post' h' => ?_⟩⟩
  · simp only [List.length_append, List.length_take, List.length_drop]; omega
  · rw [List.append_assoc] at h'
    obtain ⟨⟨h2, h3⟩, h4⟩ := I.eq _ h'
    rw [stepZ_ne hp] at h3
    refine ⟨h3, ?_⟩
    have e1 : behind.toNat + (n.toNat - behind.toNat) = n.toNat := by omega
    rw [← h4, rp_skip hp (b := behind.toNat) (d := n.toNat - behind.toNat) (by omega) (fun j h5 h6 => h2.no j (by omega) (by omega)), e1, rp_hit hp h2.st.2, List.append_assoc, List.append_assoc]
    have : (n + (p.length : Int)).toNat = n.toNat + p.length := by omega
    rw [this]
theorem ri_done {t p r whole ks : List Int} {behind : Int} (hp : p ≠ []) (I : RI t p r ks whole behind) (hk : Pl t p 0 ks) : replaceZ t p r = whole ++ t.drop behind.toNat := by
  have h := I.eq [] (by rw [List.append_nil]; exact hk)
  have hlo := I.lo; have hhi := I.hi
  rw [replace_rp hp, ← h.2, rp_none hp (by omega) (fun j hj => h.1.no j (by omega))]
end My

namespace My
/-! ## the words of places' loop -/
structure Gath (t p found : List Int) (k : Int) : Prop where
  pi : PI t p found k
theorem pi_name {t p found : List Int} {k : Int} (_ : Gath t p found k) : ∃ x, x = k := ⟨k, rfl⟩
def ms (t : List Int) (k : Int) : Nat := if k < 0 then 0 else t.length + 1 - k.toNat
structure NoFrom (a : Int) (t p : List Int) (m : Nat) : Prop where
  no : ∀ j : Int, a ≤ j → j < a + (m : Int) → cutAt t p j ≠ p
theorem nf_start {a : Int} {t p : List Int} : NoFrom a t p ([] : List Int).length := ⟨fun j h1 h2 => by simp only [List.length_nil] at h2; omega⟩
theorem nf_turn {a : Int} {t p pre : List Int} {k : Int} (h : NoFrom a t p pre.length) (e : k = a + (pre.length : Int))
    (hne : ¬ (t.drop k.toNat).take (min (k + p.length).toNat t.length - k.toNat) = p) : NoFrom a t p (pre ++ [k]).length := by
  refine ⟨fun j h1 h2 => ?_⟩
  rw [List.length_append, List.length_singleton] at h2
  by_cases hj : j = k
  · subst hj; exact hne
  · exact h.no j h1 (by omega)
theorem nf_hit {a : Int} {t p pre : List Int} {k : Int} (h0 : 0 ≤ a) (h : NoFrom a t p pre.length) (e : k = a + (pre.length : Int))
    (hlt : pre.length < ((t.length : Int) - (p.length : Int) + 1 - a).toNat)
    (he : (t.drop k.toNat).take (min (k + p.length).toNat t.length - k.toNat) = p) : Hit t p a k := by
  have h0 : (k.toNat : Int) = k := Int.toNat_of_nonneg (by omega)
  have hk : k.toNat + p.length ≤ t.length := by omega
  refine ⟨by omega, by omega, ⟨hk, ?_⟩, ?_⟩
  · rw [← cutAt_eq hk, h0]; exact he
  · intro j h1 h2 hs
    have := cutAt_eq hs.1
    exact h.no j (by omega) (by omega) (this.trans hs.2)
theorem nf_miss {a : Int} {t p : List Int} {m : Nat} (h : NoFrom a t p m) (hm : m = ((t.length : Int) - (p.length : Int) + 1 - a).toNat) : Miss t p a := by
  refine ⟨fun j h1 hs => ?_⟩
  have := cutAt_eq hs.1
  exact h.no j (by omega) (by have := hs.1; omega) (this.trans hs.2)
theorem g_start_hit {t p pre : List Int} {k : Int} (h : NoFrom 0 t p pre.length) (e : k = 0 + (pre.length : Int))
    (hlt : pre.length < ((t.length : Int) - (p.length : Int) + 1 - 0).toNat)
    (he : (t.drop k.toNat).take (min (k + p.length).toNat t.length - k.toNat) = p) : ([] : List Int).length ≤ t.length + 1 ∧ -1 ≤ k ∧ k ≤ (t.length : Int) ∧ Gath t p [] k := by
  have H := nf_hit (Int.le_refl 0) h e hlt he
  have := H.nn; have := H.le
  exact ⟨Nat.zero_le _, by omega, by omega, ⟨pi_start_hit H⟩⟩
theorem g_start_miss {t p : List Int} {m : Nat} (h : NoFrom 0 t p m) (hm : m = ((t.length : Int) - (p.length : Int) + 1 - 0).toNat) : ([] : List Int).length ≤ t.length + 1 ∧ (-1 : Int) ≤ -1 ∧ (-1 : Int) ≤ (t.length : Int) ∧ Gath t p [] (-1) :=
  ⟨Nat.zero_le _, by omega, by omega, ⟨pi_start_miss (nf_miss h hm) (by omega)⟩⟩
abbrev nextA (p : List Int) (k : Int) : Int := if 0 > k + stepZ p then 0 else k + stepZ p
theorem nextA_eq {p : List Int} {k : Int} (h0 : 0 ≤ k) : nextA p k = k + stepZ p := by
  have := stepZ_pos p
  unfold nextA
  rw [if_neg (by omega)]
theorem g_hit {t p found pre : List Int} {k k' : Int} (I : Gath t p found k) (h : NoFrom (nextA p k) t p pre.length) (e : k' = nextA p k + (pre.length : Int))
    (hlt : pre.length < ((t.length : Int) - (p.length : Int) + 1 - nextA p k).toNat)
    (he : (t.drop k'.toNat).take (min (k' + p.length).toNat t.length - k'.toNat) = p) (h0 : 0 ≤ k) : (found ++ [k]).length ≤ t.length + 1 ∧ -1 ≤ k' ∧ k' ≤ (t.length : Int) ∧ Gath t p (found ++ [k]) k' := by
  rw [nextA_eq h0] at h e hlt
  have := stepZ_pos p
  have H := nf_hit (by omega) h e hlt he
  have := H.nn; have := H.le
  have J := pi_hit I.pi h0 H
  exact ⟨J.len, by omega, by omega, ⟨J⟩⟩
theorem g_miss {t p found : List Int} {k : Int} {m : Nat} (I : Gath t p found k) (h : NoFrom (nextA p k) t p m)
    (hm : m = ((t.length : Int) - (p.length : Int) + 1 - nextA p k).toNat) (h0 : 0 ≤ k) : (found ++ [k]).length ≤ t.length + 1 ∧ (-1 : Int) ≤ -1 ∧ (-1 : Int) ≤ (t.length : Int) ∧ Gath t p (found ++ [k]) (-1) := by
  rw [nextA_eq h0] at h hm
  have J := pi_miss I.pi h0 (nf_miss h hm) (show (-1 : Int) < 0 by omega)
  exact ⟨J.len, by omega, by omega, ⟨J⟩⟩
theorem ms_hit {t p pre : List Int} {k k' : Int} (e : k' = nextA p k + (pre.length : Int)) (h0 : 0 ≤ k) (h1 : k ≤ (t.length : Int)) : ms t k' < ms t k := by
  have := stepZ_pos p
  rw [nextA_eq h0] at e
  unfold ms
  rw [if_neg (by omega), if_neg (by omega)]; omega
theorem ms_miss {t : List Int} {k : Int} (h0 : 0 ≤ k) (h1 : k ≤ (t.length : Int)) : ms t (-1) < ms t k := by
  unfold ms
  rw [if_pos (by omega), if_neg (by omega)]; omega
theorem g_count {t p found : List Int} {k : Int} (I : Gath t p found k) (h : k < 0) : countZ t p = (found.length : Int) := pl_countZ (I.pi.off h)
end My

/- of what was made, keep only what a name holds -/
namespace My
theorem news_of_name {h₀ h : PySem.Heap} {L : PySem.Addr} {m : PySem.Str → Option PySem.Value} {all : List (PySem.Addr × PySem.Obj)} (_ : PyProof.Rows.Fr h₀ L h m) (N : PyProof.Rows.News h₀ L h all) (y : PySem.Str) {D : PySem.Addr} {o : PySem.Obj}
    (_ : m y = some (.ref D)) (hm : (D, o) ∈ all) : PyProof.Rows.News h₀ L h [(D, o)] := fun p hp => by
  rw [List.mem_singleton.mp hp]
  exact N _ hm
end My

/- of what was made, keep only the first ones -/
namespace My
theorem news_take {h₀ h : PySem.Heap} {L : PySem.Addr} {all : List (PySem.Addr × PySem.Obj)} (N : PyProof.Rows.News h₀ L h all) (n : Nat) : PyProof.Rows.News h₀ L h (all.take n) := fun p hp => N p (List.mem_of_mem_take hp)
end My

/- for x in (a list that the program made): a list and an int bound anew in each turn: a step of the walk -/
namespace My
section
open PySem PySem.W PySem.Calls PyProof.Rows PySem.Spec
def RbEnd (h₀ : Heap) (L : Addr) (x yw yb : Str) (m₀ : Str → Option Value) (P : List Int → Int → Prop) (I : Addr) (it : Obj) (news : List (Addr × Obj)) (s₁ s₂ : Shared) : Prop :=
  ∃ h' tk m' D ws c lw b tb, s₂ = { s₁ with heap := h', toks := tk } ∧ Fr h₀ L h' m' ∧ News h₀ L h' ((I, it) :: (D, listOf (List.toArray ws) c) :: news) ∧ IntsAre ws lw ∧ m' yw = some (.ref D) ∧ m' yb = some (.int b tb) ∧
    (∀ z, z ≠ x → z ≠ yw → z ≠ yb → m' z = m₀ z) ∧ P lw b
def RbPost (h₀ : Heap) (L : Addr) (x yw yb : Str) (m₀ : Str → Option Value) (P : List Int → Int → Prop) (I : Addr) (it : Obj) (news : List (Addr × Obj)) (s₁ : Shared) (Q : Flow → Shared → Prop) (f : Flow) (s₂ : Shared) : Prop :=
  match f with
  | .ret v => Q (.ret v) s₂
  | .brk => Q .next s₂
  | _ => RbEnd h₀ L x yw yb m₀ P I it news s₁ s₂
theorem RbEnd.intro {h₀ h' : Heap} {L I D : Addr} {x yw yb : Str} {m₀ m' : Str → Option Value} {P : List Int → Int → Prop} {it : Obj} {news all : List (Addr × Obj)} {s₁ : Shared} {tk : Nat} {ws : List Value} {c : Nat} {lw : List Int} {b : Int} {tb : Tok}
    (e1 : m' yw = some (.ref D)) (e2 : m' yb = some (.int b tb)) (F : Fr h₀ L h' m') (N : News h₀ L h' all) (hD : (D, listOf (List.toArray ws) c) ∈ all) (hw : IntsAre ws lw) (hI : (I, it) ∈ all) (hn : ∀ p ∈ news, p ∈ all)
    (e3 : ∀ z, z ≠ x → z ≠ yw → z ≠ yb → m' z = m₀ z) (hp : P lw b) : RbEnd h₀ L x yw yb m₀ P I it news s₁ { s₁ with heap := h', toks := tk } :=
  ⟨h', tk, m', D, ws, c, lw, b, tb, rfl, F, fun p hq => by
    rcases List.mem_cons.mp hq with rfl | hq
    · exact N _ hI
    · rcases List.mem_cons.mp hq with rfl | hq
      · exact N _ hD
      · exact N p (hn p hq), hw, e1, e2, e3, hp⟩
variable {prog : Program} {w : World} {A : Around} {E : Value → Shared → Prop} {s : Shared} {env : Env} {h₀ : Heap} {x : Str} {body : List Stmt} {Q : Flow → Shared → Prop}
theorem rb_loop {l : Addr} {vs : List Value} {ns : List Int} {nn : Nat} {m₀ : Str → Option Value} {news : List (Addr × Obj)} (yw yb : Str) (P : List Int → List Int → Int → Prop) {D₀ : Addr} {ws₀ : List Value} {c₀ : Nat} {l₀ : List Int} {b₀ : Int} {tb₀ : Tok}
    (e1 : m₀ yw = some (.ref D₀)) (e2 : m₀ yb = some (.int b₀ tb₀)) (hh : A.handled = none) (F : Fr h₀ env.locals s.heap m₀) (N : News h₀ env.locals s.heap ((D₀, listOf (List.toArray ws₀) c₀) :: news)) (hw : IntsAre ws₀ l₀)
    (hl : (l, listOf (List.toArray vs) nn) ∈ news) (hi : IntsAre vs ns) (hp : P [] l₀ b₀)
    (turn : ∀ (D : Addr) (ws : List Value) (c : Nat) (lw : List Int) (b : Int) (tb : Tok) (pre post : List Int) (n : Int) (t : Tok) (h : Heap) (tk : Nat) (I : Addr) (it : Obj), ns = pre ++ n :: post → n ∈ ns → IntsAre ws lw → P pre lw b → it.cls = .type "list_iterator" → (∀ p ∈ news, p.1 < I) → D ≠ I →
      Fr h₀ env.locals h (fun y => if y = x then some (.int n t) else if y = yw then some (.ref D) else if y = yb then some (.int b tb) else m₀ y) → News h₀ env.locals h ((I, it) :: (D, listOf (List.toArray ws) c) :: news) →
      wpAny (model prog w) A (execs body env) (RbPost h₀ env.locals x yw yb m₀ (P (pre ++ [n])) I it news { s with heap := h, toks := tk } Q) E { s with heap := h, toks := tk })
    (done : ∀ (D : Addr) (ws : List Value) (c : Nat) (lw : List Int) (b : Int) (tb : Tok) (u : Str → Option Value) (h : Heap) (tk : Nat), IntsAre ws lw → P ns lw b →
      Fr h₀ env.locals h (fun y => if y = x then u y else if y = yw then some (.ref D) else if y = yb then some (.int b tb) else m₀ y) → News h₀ env.locals h ((D, listOf (List.toArray ws) c) :: news) → Q .next { s with heap := h, toks := tk }) :
    wpAny (model prog w) A (pyIter (.ref l)) (fun it s₂ => LoopAtV prog w A h₀ env x body Q E it s₂) E s := by
  have hol : s.heap.get? l = some (listOf (List.toArray vs) nn) := (N _ (List.mem_cons_of_mem _ hl)).1
  have hls : s.heap.IsList l vs.toArray := ⟨_, hol, rfl, nn, rfl⟩
  have hne : l ≠ s.heap.objs.size := Nat.ne_of_lt (Heap.lt_size hol)
  refine wpAny_pyIter_list hls ?_
  have W := Walks.list (prog := prog) (w := w) hh s.heap.objs.size l hne vs.toArray
  have hlen : vs.toArray.size = ns.length := by simp [hi.length]
  rw [hlen] at W
  let J : Nat → (Str → Option Value) → List (Addr × Obj) → Prop := fun i m nx => ∃ D ws c lw b tb, nx = (D, listOf (List.toArray ws) c) :: news ∧ IntsAre ws lw ∧ m yw = some (.ref D) ∧ m yb = some (.int b tb) ∧ (∀ z, z ≠ x → z ≠ yw → z ≠ yb → m z = m₀ z) ∧ P (ns.take i) lw b
  have newsLt : ∀ p ∈ news, p.1 < s.heap.objs.size := fun p hp => Heap.lt_size (N _ (List.mem_cons_of_mem _ hp)).1
  refine ⟨_, _, _, ns.length, _, _, m₀, (D₀, listOf (List.toArray ws₀) c₀) :: news, J, rfl, W, ?_, ?_, ?_, ⟨⟨_, Heap.get?_push_size _ rfl, rfl, rfl⟩, hls.at fun o e => Heap.get?_push_of_some _ e⟩, F.push _, (fun p hp => ⟨Heap.get?_push_of_some _ (N p hp).1, (N p hp).2⟩),
    ⟨D₀, ws₀, c₀, l₀, b₀, tb₀, rfl, hw, e1, e2, fun _ _ _ _ => rfl, by simpa using hp⟩, ?_, ?_⟩
  · intro hm
    rcases List.mem_cons.mp hm with e | hm
    · exact absurd F.ns.lt (e ▸ Nat.lt_irrefl _)
    · exact (N _ (List.mem_cons_of_mem _ hl)).2.1 ((List.mem_singleton.mp hm).symm)
  · intro b hb
    rw [List.mem_singleton.mp hb]
    exact next_is_new F
  · intro p hp hI
    exact absurd (Heap.lt_size (N p hp).1) ((List.mem_singleton.mp hI) ▸ Nat.lt_irrefl _)
  · rintro i v m₁ news₁ s₁ own ⟨hh', tk', rfl⟩ hin hP ⟨D, ws, c, lw, b, tb, rfl, hw₁, f1, f2, f3, hp₁⟩ hoff hown hget hfp hst F₁ N₁
    have hlt' : i < ns.length := hin
    obtain ⟨t, hx⟩ := hi.get i ns[i] (by simp [hlt'])
    have hv : v = .int ns[i] t := by
      have hP' : vs[i]? = some v := by simpa using hP
      rw [hx] at hP'; exact (Option.some.inj hP').symm
    subst hv
    obtain ⟨it, hit, hic, _⟩ := hst.1
    have hIown : (s.heap.objs.size, it) ∈ own := hfp _ List.mem_cons_self (next_is_new F) it hit
    have hmem : ns[i] ∈ ns := List.getElem_mem hlt'
    have hs : ns.take (i + 1) = ns.take i ++ [ns[i]] := by rw [List.take_add_one, List.getElem?_eq_getElem hlt']; rfl
    have e : ns = ns.take i ++ ns[i] :: ns.drop (i + 1) := by
      have ht := List.take_append_drop (i + 1) ns
      rw [hs, List.append_assoc] at ht
      exact ht.symm
    have hDI : D ≠ s.heap.objs.size := fun q => hoff _ List.mem_cons_self (by rw [q]; exact List.mem_singleton.mpr rfl)
    have N₂ : News h₀ env.locals hh' ((s.heap.objs.size, it) :: (D, listOf (List.toArray ws) c) :: news) := fun p hp => by
      rcases List.mem_cons.mp hp with rfl | hp
      · exact N₁ _ (List.mem_append_left _ hIown)
      · exact N₁ _ (List.mem_append_right _ hp)
    have em : (fun y => if y = x then some (Value.int ns[i] t) else if y = yw then some (Value.ref D) else if y = yb then some (Value.int b tb) else m₀ y) = fun y => if y = x then some (Value.int ns[i] t) else m₁ y := by
      funext y
      by_cases h1 : y = x
      · rw [if_pos h1, if_pos h1]
      · rw [if_neg h1, if_neg h1]
        by_cases h2 : y = yw
        · rw [if_pos h2, h2, f1]
        · rw [if_neg h2]
          by_cases h3 : y = yb
          · rw [if_pos h3, h3, f2]
          · rw [if_neg h3, f3 y h1 h2 h3]
    refine wpAny_mono (turn D ws c lw b tb _ _ ns[i] t hh' tk' s.heap.objs.size it e hmem hw₁ hp₁ hic newsLt hDI (by rw [em]; exact F₁) N₂) (fun f s₂ p => ?_) fun _ _ e => e
    rw [← hs] at p
    have hlo : hh'.get? l = some (listOf (List.toArray vs) nn) := (N₂ _ (List.mem_cons_of_mem _ (List.mem_cons_of_mem _ hl))).1
    have fin : RbEnd h₀ env.locals x yw yb m₀ (P (ns.take (i + 1))) s.heap.objs.size it news { s with heap := hh', toks := tk' } s₂ →
        LoopStepU h₀ env.locals [s.heap.objs.size] own (J (i + 1)) { s with heap := hh', toks := tk' } .next s₂ := by
      rintro ⟨h', tk, m', D', ws', c', lw', b', tb', e', F', N', hw', g1, g2, g3, hp'⟩
      refine ⟨rfl, h', tk, m', (D', listOf (List.toArray ws') c') :: news, e', F', fun p hp => ?_, fun p hp => ?_, D', ws', c', lw', b', tb', rfl, hw', g1, g2, g3, hp'⟩
      · rcases List.mem_append.mp hp with h | h
        · have h2 : hh'.get? p.1 = some p.2 := hget p h
          rcases List.mem_cons.mp (hown p h) with h1 | h1
          · rw [h1, hit] at h2
            have h3 : p = (s.heap.objs.size, it) := Prod.ext h1 (Option.some.inj h2).symm
            rw [h3]
            exact N' _ List.mem_cons_self
          · have h1 := List.mem_singleton.mp h1
            rw [h1, hlo] at h2
            have h3 : p = (l, listOf (List.toArray vs) nn) := Prod.ext h1 (Option.some.inj h2).symm
            rw [h3]
            exact N' _ (List.mem_cons_of_mem _ (List.mem_cons_of_mem _ hl))
        · exact N' p (List.mem_cons_of_mem _ h)
      · intro hI
        have hI := List.mem_singleton.mp hI
        rcases List.mem_cons.mp hp with rfl | hp
        · have z1 := (N' _ List.mem_cons_self).1
          have z2 := (N' _ (List.mem_cons_of_mem _ List.mem_cons_self)).1
          have hI : D' = s.heap.objs.size := hI
          have z2 : h'.get? D' = some (listOf (List.toArray ws') c') := z2
          rw [hI] at z2
          have z3 : it = listOf (List.toArray ws') c' := Option.some.inj (z1.symm.trans z2)
          rw [z3] at hic
          have hic : Value.type "list" = Value.type "list_iterator" := hic
          exact absurd hic (by decide)
        · exact absurd (newsLt p hp) (by rw [hI]; exact Nat.lt_irrefl _)
    cases f with
    | ret v => exact .ret p
    | brk => exact .brk p
    | next => exact .next (fin p)
    | cont => exact .cont (fin p)
  · rintro h' tk m' news' F' N' _ ⟨D, ws, c, lw, b, tb, rfl, hw₁, f1, f2, f3, hp₁⟩
    rw [List.take_length] at hp₁
    have em : (fun y => if y = x then m' y else if y = yw then some (Value.ref D) else if y = yb then some (Value.int b tb) else m₀ y) = m' := by
      funext y
      by_cases h1 : y = x
      · rw [if_pos h1]
      · rw [if_neg h1]
        by_cases h2 : y = yw
        · rw [if_pos h2, h2, f1]
        · rw [if_neg h2]
          by_cases h3 : y = yb
          · rw [if_pos h3, h3, f2]
          · rw [if_neg h3, f3 y h1 h2 h3]
    exact done D ws c lw b tb m' h' tk hw₁ hp₁ (by rw [em]; exact F') N'
theorem rb_loop1 {l : Addr} {vs : List Value} {ns : List Int} {nn : Nat} {m₀ : Str → Option Value} {all : List (Addr × Obj)} (yw yb : Str) (P : List Int → List Int → Int → Prop) {D₀ : Addr} {ws₀ : List Value} {c₀ : Nat} {l₀ : List Int} {b₀ : Int} {tb₀ : Tok}
    (e1 : m₀ yw = some (.ref D₀)) (e2 : m₀ yb = some (.int b₀ tb₀)) (hh : A.handled = none) (F : Fr h₀ env.locals s.heap m₀) (N : News h₀ env.locals s.heap all) (hD : (D₀, listOf (List.toArray ws₀) c₀) ∈ all) (hl : (l, listOf (List.toArray vs) nn) ∈ all)
    (hw : IntsAre ws₀ l₀) (hi : IntsAre vs ns) (hp : P [] l₀ b₀)
    (turn : ∀ (D : Addr) (ws : List Value) (c : Nat) (lw : List Int) (b : Int) (tb : Tok) (pre post : List Int) (n : Int) (t : Tok) (h : Heap) (tk : Nat) (I : Addr) (it : Obj), ns = pre ++ n :: post → n ∈ ns → IntsAre ws lw → P pre lw b → it.cls = .type "list_iterator" → l < I → D ≠ I →
      Fr h₀ env.locals h (fun y => if y = x then some (.int n t) else if y = yw then some (.ref D) else if y = yb then some (.int b tb) else m₀ y) → News h₀ env.locals h [(I, it), (D, listOf (List.toArray ws) c), (l, listOf (List.toArray vs) nn)] →
      wpAny (model prog w) A (execs body env) (RbPost h₀ env.locals x yw yb m₀ (P (pre ++ [n])) I it [(l, listOf (List.toArray vs) nn)] { s with heap := h, toks := tk } Q) E { s with heap := h, toks := tk })
    (done : ∀ (D : Addr) (ws : List Value) (c : Nat) (lw : List Int) (b : Int) (tb : Tok) (u : Str → Option Value) (h : Heap) (tk : Nat), IntsAre ws lw → P ns lw b →
      Fr h₀ env.locals h (fun y => if y = x then u y else if y = yw then some (.ref D) else if y = yb then some (.int b tb) else m₀ y) → News h₀ env.locals h [(D, listOf (List.toArray ws) c), (l, listOf (List.toArray vs) nn)] → Q .next { s with heap := h, toks := tk }) :
    wpAny (model prog w) A (pyIter (.ref l)) (fun it s₂ => LoopAtV prog w A h₀ env x body Q E it s₂) E s :=
  rb_loop (news := [(l, listOf (List.toArray vs) nn)]) yw yb P e1 e2 hh F (fun p hq => by
    rcases List.mem_cons.mp hq with rfl | hq
    · exact N _ hD
    · rw [List.mem_singleton.mp hq]; exact N _ hl) hw List.mem_cons_self hi hp
    (fun D ws c lw b tb pre post n t h tk I it a1 a2 a3 a4 a5 a6 a7 a8 a9 => turn D ws c lw b tb pre post n t h tk I it a1 a2 a3 a4 a5 (a6 _ List.mem_cons_self) a7 a8 a9) done
end
end My


namespace My
theorem w_bytes {l : List Int} (h : Codec.within (.list 0 31 (.int (Int.ofNat 0) (Int.ofNat 255))) l = true) : l.length ≤ 31 ∧ Bs l := by
  have h : (Codec.inNat 0 31 l.length && l.all (Codec.inInt 0 255)) = true := h
  have k := Codec.and_of h
  exact ⟨(Codec.inNat_iff.mp k.1).2, fun x hx => Codec.inInt_iff.mp (List.all_eq_true.mp k.2 x hx)⟩
theorem w_int {lo hi x : Int} (h : Codec.within (.int lo hi) x = true) : lo ≤ x ∧ x ≤ hi := Codec.inInt_iff.mp h
theorem fin {X Y : List Int} (h : X = Y) : WData.list (ofPys (X.map PyData.int)) = WData.list (Y.map WData.int) := by rw [os_ofPys_ints, h]
theorem fin1 {k : Int} {Y : List Int} (h : Y = [k]) : ofPy (PyData.list [PyData.int k]) = WData.list (Y.map WData.int) := by
  rw [h]
  exact os_list rfl
end My

theorem My.said : PySem.Challenge.rw_shorttextsdesk_s06_replace.wellSaid = true := by decide +kernel
theorem My.bnd {x0 : List Int} {x1 : List Int} {x2 : List Int} (h : PySem.Challenge.rw_shorttextsdesk_s06_replace.pre [ofPy (.list (x0.map PyData.int)), ofPy (.list (x1.map PyData.int)), ofPy (.list (x2.map PyData.int))] = true) :
    (x0.length ≤ 31 ∧ My.Bs x0) ∧ (x1.length ≤ 31 ∧ My.Bs x1) ∧ (x2.length ≤ 31 ∧ My.Bs x2) := by
  obtain ⟨a, w, q, e⟩ := os_pre My.said h
  obtain ⟨y0, y1, y2, u⟩ := a
  have e0 := os_j_ints (List.cons.inj e).1
  have e1 := os_j_ints (List.cons.inj (List.cons.inj e).2).1
  have e2 := os_j_ints (List.cons.inj (List.cons.inj (List.cons.inj e).2).2).1
  subst e0 e1 e2
  exact ⟨My.w_bytes (Codec.and_of w).1, My.w_bytes (Codec.and_of (Codec.and_of w).2).1, My.w_bytes (Codec.and_of (Codec.and_of (Codec.and_of w).2).2).1⟩

theorem My.name {x0 : List Int} {x1 : List Int} {x2 : List Int} (_ : PySem.Challenge.rw_shorttextsdesk_s06_replace.pre [ofPy (.list (x0.map PyData.int)), ofPy (.list (x1.map PyData.int)), ofPy (.list (x2.map PyData.int))] = true) : ∃ (t : List Int) (p : List Int) (r : List Int), t = x0 ∧ p = x1 ∧ r = x2 := ⟨_, _, _, rfl, rfl, rfl⟩

namespace My
theorem g_pl {t p found : List Int} {k : Int} (I : Gath t p found k) (h : k < 0) : Pl t p 0 found := I.pi.off h
structure Rep (t p r pre whole : List Int) (behind : Int) : Prop where
  ri : RI t p r pre whole behind
theorem pl_none {t p : List Int} {m : Nat} (h : NoFrom 0 t p m) (hm : m = ((t.length : Int) - (p.length : Int) + 1 - 0).toNat) : Pl t p 0 [] := nf_miss h hm
theorem rep_start {t p r : List Int} : Rep t p r [] [] 0 := ⟨ri_start⟩
theorem rep_facts {t p r pre whole post ks : List Int} {behind n : Int} (hp : ¬ (p.length : Int) = 0) (hr : r.length ≤ 31) (I : Rep t p r pre whole behind) (hk : Pl t p 0 ks) (e : ks = pre ++ n :: post) :
    0 ≤ behind ∧ behind ≤ n ∧ n + (p.length : Int) ≤ (t.length : Int) ∧ (whole.length : Int) ≤ 32 * behind := by
  have hp' : p ≠ [] := fun h => hp (by rw [h]; rfl)
  have h1 := ri_turn hp' hr I.ri hk e
  exact ⟨I.ri.lo, h1.1, h1.2.hi, I.ri.len⟩
theorem rep_turn {t p r pre whole post ks : List Int} {behind n : Int} (hp : ¬ (p.length : Int) = 0) (hr : r.length ≤ 31) (I : Rep t p r pre whole behind) (hk : Pl t p 0 ks) (e : ks = pre ++ n :: post) :
    Rep t p r (pre ++ [n]) (whole ++ (t.drop behind.toNat).take (min n.toNat t.length - behind.toNat) ++ r) (n + (p.length : Int)) := by
  have hp' : p ≠ [] := fun h => hp (by rw [h]; rfl)
  have h1 := ri_turn hp' hr I.ri hk e
  have h2 := h1.2.hi
  have h3 := I.ri.lo
  have : min n.toNat t.length = n.toNat := by omega
  rw [this]
  exact ⟨h1.2⟩
theorem rep_done {t p r whole ks : List Int} {behind : Int} (hp : ¬ (p.length : Int) = 0) (I : Rep t p r ks whole behind) (hk : Pl t p 0 ks) : replaceZ t p r = whole ++ t.drop behind.toNat := by
  have hp' : p ≠ [] := fun h => hp (by rw [h]; rfl)
  exact ri_done hp' I.ri hk
theorem rep_last {t p r whole ks : List Int} {behind : Int} (I : Rep t p r ks whole behind) : 0 ≤ behind ∧ behind ≤ (t.length : Int) ∧ (whole.length : Int) ≤ 32 * behind := ⟨I.ri.lo, I.ri.hi, I.ri.len⟩
theorem rbPost_next {h₀ : PySem.Heap} {L : PySem.Addr} {x yw yb : PySem.Str} {m₀ : PySem.Str → Option PySem.Value} {P : List Int → Int → Prop} {I : PySem.Addr} {it : PySem.Obj} {news : List (PySem.Addr × PySem.Obj)} {s₁ s₂ : PySem.Shared} {Q : PySem.Flow → PySem.Shared → Prop}
    (h : RbEnd h₀ L x yw yb m₀ P I it news s₁ s₂) : RbPost h₀ L x yw yb m₀ P I it news s₁ Q .next s₂ := h
end My
local macro_rules
  | `(tactic| walk_at "RbPost") => `(tactic| refine My.rbPost_next ?_)
local macro_rules
  | `(tactic| walk_at "RbEnd") => `(tactic| ((rename PyProof.Rows.Fr _ _ _ _ => lF9); (rename PyProof.Rows.News _ _ _ _ => lN9); (with_unfolding_all refine My.RbEnd.intro (F := lF9) (N := lN9) (by with_unfolding_all rfl) (by with_unfolding_all rfl) (by k_mem) (by l_ints) (by k_mem) (by (intro p9 h9; rw [List.mem_singleton.mp h9]; k_mem)) (by (intro z h1 h2 h3; simp [h1, h2, h3])) ?_); exact My.rep_turn (by assumption) (by assumption) (by assumption) (by assumption) (by assumption)))
namespace My
theorem tell_end {X Y : List Int} (h : X = Y) : [((List.take 31 X).length : Int)] ++ List.take 31 X = tell Y := by rw [h]; rfl
theorem rp0 {t p r : List Int} (h : (p.length : Int) = 0) : t = replaceZ t p r := by
  have : p = [] := List.length_eq_zero_iff.1 (by omega)
  subst this
  rfl
theorem rp4 {t p r : List Int} (h : ¬ (p.length : Int) = 0) (hk : Pl t p 0 []) : t = replaceZ t p r := by
  have hp' : p ≠ [] := fun h' => h (by rw [h']; rfl)
  have e := rp_none (r := r) hp' (Nat.zero_le t.length) (fun j _ => hk.no j (by omega))
  rw [replace_rp hp']
  exact e.symm
end My

set_option maxRecDepth 100000 in
set_option maxHeartbeats 8000000 in
theorem PySem.Challenge.cw_shorttextsdesk_s06_replace_holds : PySem.Challenge.rw_shorttextsdesk_s06_replace.Holds := by
  k_with "state" => first
    | exact My.nf_start
    | exact My.nf_turn (by assumption) (by assumption) (by assumption)
    | exact My.g_start_hit (by assumption) (by assumption) (by assumption) (by assumption)
    | exact My.g_start_miss (by assumption) (rangeKs_length _ _)
    | exact My.g_hit (by assumption) (by assumption) (by assumption) (by assumption) (by assumption) (by omega)
    | exact My.g_miss (by assumption) (by assumption) (rangeKs_length _ _) (by omega)
  k_with "measure" => first
    | exact My.ms_hit (by assumption) (by omega) (by omega)
    | exact My.ms_miss (by omega) (by omega)
  k_with "pyIter ref" => first
    | ((with_reducible show wpAny _ _ (pyIter (Value.ref _)) (fun it s₂ => PyProof.Rows.LoopAtV _ _ _ _ _ _ _ _ _ it s₂) _ _); k_here; (rename PyProof.Rows.Fr _ _ _ _ => lF'); (rename PyProof.Rows.News _ _ _ _ => lN'); (first | (have hPl := My.g_pl (by assumption) (by omega)) | (have hPl := My.pl_none (t := t) (p := p) (by assumption) (rangeKs_length _ _))); (with_unfolding_all refine' My.rb_loop1 (Str.ofString "whole") (Str.ofString "behind") (My.Rep t p r) (by rfl) (by rfl) (by rfl) lF' lN' (by k_mem) (by k_mem) (by l_ints) (by l_ints) My.rep_start ?kturn ?kdone); (case' kturn => (intro kD kWs kC kLw kB kTb kPre kPost kN kT kH kTk kI kIt kEq kMem kInts kInv kCls kLt kNe kFr kNews; (obtain ⟨kF1, kF2, kF3, kF4⟩ := My.rep_facts (by assumption) hL2 kInv hPl kEq))); (case' kdone => (intro kD kWs kC kLw kB kTb kU kH kTk kInts kInv kFr kNews; (obtain ⟨kF1, kF2, kF3⟩ := My.rep_last kInv))); (all_goals (try clear lF' lN')))
    | ((have hg' := My.pi_name (by assumption)); (obtain ⟨pl, hpl⟩ := hg'); subst hpl; k_search (fun pre => My.NoFrom (My.nextA p pl) t p pre.length))
    | k_search (fun pre => My.NoFrom 0 t p pre.length)
  k_with "exec While Compare cons nil" => ((fail_if_success (have hz9 := My.pl_none (t := t) (p := p) (by assumption) (rangeKs_length _ _))); (rename PyProof.Rows.News _ _ _ _ => lN9); (have lN8 := My.news_take lN9 4); (simp only [List.take_succ_cons, List.take_zero, List.take_nil] at lN8); clear lN9; k_while (fun _ found place => found.length ≤ t.length + 1 ∧ -1 ≤ place ∧ place ≤ (t.length : Int) ∧ My.Gath t p found place) (fun _ _ place => My.ms t place) "found" "place")
  w_on; k_headS; (case hw => exact ⟨[.list [], .list [], .list []], by decide +kernel, by decide +kernel⟩)
  k_goS0
  (with_reducible rename OpenSpec.pre _ _ = true => hcP)
  obtain ⟨⟨hL0, hB0⟩, ⟨hL1, hB1⟩, ⟨hL2, hB2⟩⟩ := My.bnd hcP
  obtain ⟨t, p, r, hn0, hn1, hn2⟩ := My.name hcP
  subst hn0 hn1 hn2
  (all_goals try k_fold); k_steps; (all_goals (try (w_end; sp_is; wrow_close))); (all_goals (try k_data))
  all_goals first | sp_left | w_report
  all_goals os_open My.said with a w q e
  all_goals obtain ⟨y0, y1, y2, u⟩ := a
  all_goals have e0 := os_j_ints (List.cons.inj e).1
  all_goals have e1 := os_j_ints (List.cons.inj (List.cons.inj e).2).1
  all_goals have e2 := os_j_ints (List.cons.inj (List.cons.inj (List.cons.inj e).2).2).1
  all_goals subst e0 e1 e2
  all_goals refine My.fin ?_
  all_goals show _ = PySv24.replace _ _ _
  all_goals rw [My.replace_eq hB0.nn hB1.nn hB2.nn]
  · exact My.tell_end (My.rp0 (by assumption))
  · exact My.tell_end (My.rep_done (by assumption) (by assumption) (by assumption)).symm
  · exact My.tell_end (My.rp4 (by assumption) (My.pl_none (by assumption) (rangeKs_length _ _)))
#print axioms PySem.Challenge.cw_shorttextsdesk_s06_replace_holds
