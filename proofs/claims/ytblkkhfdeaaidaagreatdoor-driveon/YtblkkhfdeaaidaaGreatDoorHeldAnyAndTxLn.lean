import Derived.Test.YtblkkhfdeaaidaaGreatDoorTxNuAndHeldSeq
set_option maxHeartbeats 3200000
set_option maxRecDepth 100000
namespace Go.Proofs.YtblkkhfdeaaidaaGreatDoor
section
variable{P:Program}{ops:Array Oper}{Q:Exit->Act->World->Prop}{md:Region.Mode}{S:World->Prop}
def zR(P:Program)(ops:Array Oper)(Q:Exit->Act->World->Prop)(S:World->Prop)(n:Nat)(J:Act->World->Prop)(i:Nat)(a:Act)(w:World):Prop:=
 ∃o,ops.toList[i]?=some o/\∀K:Act->World->Prop,Shut (∀a w,(i<n->S w)->J a w->K a w)->if Region.wanted o (yielded ops a.tmps)=true then Oper.wp P o a w K Q else K (a.put o.dst undef) w
def nH(P:Program)(md:Region.Mode)(ops:Array Oper)(Q:Exit->Act->World->Prop)(S:World->Prop)(n:Nat):Nat->Array Bool->Act->World->Prop
 |0,listed,a,w=>Region.ready md ops listed=[]/\Q .normal a w
 |k+1,listed,a,w=>Region.ready md ops listed≠[]/\∀i∈Region.ready md ops listed,zR P ops Q S n (nH P md ops Q S n k (listed.setIfInBounds i true)) i a w
theorem nH.one{n k i:Nat}{listed:Array Bool}{a:Act}{w:World}(hr:decide (Region.ready md ops listed=[i])=true)(h:zR P ops Q S n (nH P md ops Q S n k (listed.setIfInBounds i true)) i a w):nH P md ops Q S n (k+1) listed a w:=by
 have hr':=of_decide_eq_true hr;refine⟨by rw[hr'];simp,fun j hj=> ?_⟩;rw[hr']at hj;have:j=i:=by simpa using hj
 subst this;exact h
theorem nH.end{n:Nat}{listed:Array Bool}{a:Act}{w:World}(hr:decide (Region.ready md ops listed=[])=true)(h:Q .normal a w):nH P md ops Q S n 0 listed a w:=⟨of_decide_eq_true hr,h⟩
theorem Oe{n:Nat}:∀(k:Nat) (listed:Array Bool) (a:Act) (w:World),nH P md ops Q S n k listed a w->jF P md ops Q S n k listed a w
 |0,_,_,_,h=>⟨by simpa using h.1,h.2⟩
 |k+1,listed,a,w,h=>by
  refine⟨fun h1=>absurd h1 h.1,fun i hi=> ?_⟩;obtain⟨o,h0,h⟩:=h.2 i hi
  have h1:=h (fun a' w'=>(i<n->S w')/\jF P md ops Q S n k (listed.setIfInBounds i true) a' w')
   (fun a' w' hS hT=>⟨hS,Oe k _ a' w' hT⟩)
  have h0':ops[i]?=some o:=by simpa using h0
  unfold wpOp;simp only[h0'];split
  ·rename_i hw
   rw[if_pos hw]at h1;exact .inl h1
  ·rename_i hw
   rw[if_neg hw]at h1;exact h1
def Ck:List Nat->Array Bool->Array Bool
 | [],listed=>listed
 |i::l,listed=>Ck l (listed.setIfInBounds i true)
def zS(md:Region.Mode)(ops:Array Oper):List Nat->Array Bool->Bool
 | [],_=>true
 |k::ks,listed=>(Region.ready md ops listed).contains k&&Region.free md ops listed k&&zS md ops ks (listed.setIfInBounds k true)
theorem Og{n m:Nat}(hsel:Region.noSelect ops=true)(hQ:∀c a d v w,Q (.panic c) (a.put d v) w->Q (.panic c) a w)(hs:Region.sinkB md ops n=true)(hc:Region.chainB md ops n=true)(hn:n<ops.size){w:World}(hS:S w):
 ∀(l:List Nat) (listed:Array Bool) (a:Act),(∀i∈l,i<n)->HeadInv md ops n listed->zS md ops l listed=true->aO P ops S (fun a'=>nH P md ops Q S n m (Ck l listed) a' w) l a->
 jF P md ops Q S n (l.length+m) listed a w
 | [],listed,a,_,_,_,h=>by
  simp only[List.length_nil,Nat.zero_add];exact Oe m listed a w h
 |k::l,listed,a,hl,inv,hB,h=>by
  simp only[zS,Bool.and_eq_true]at hB;obtain⟨⟨hr,hf⟩,hB'⟩:=hB;have hkn:=hl k (by simp);have hr':k∈Region.ready md ops listed:=by simpa using hr
  obtain⟨o,v,h0,hy,hK⟩:=h;rw[show (k::l).length+m=(l.length+m)+1 by simp only[List.length_cons];omega]
  exact Ch h0 (Region.noSelect_spec hsel) (fun c a w=>hQ c a _ _ w) hs hc hn hkn _ listed a w inv (Region.free_spec h0 hf) hr' hy hS
   (Og hsel hQ hs hc hn hS l _ _ (fun i hi=>hl i (List.mem_cons_of_mem _ hi)) (inv.set hr' hkn) hB' hK)
def Fv(ops:Array Oper)(hs:List Nat)(m n:Nat):Bool:=
 Region.noSelect ops&&decide (n<ops.size)&&Region.sinkB .any ops n&&Region.chainB .any ops n&&(hs.all fun i=>decide (i<n))&&decide (hs.length+m=ops.size)&&zS .any ops hs (Array.replicate ops.size false)
theorem Xm{id:Nat}{a:Act}{w:World}(hs:List Nat)(m n:Nat)(S:World->Prop)(hm:P.follows .mixedOrders=true)(hB:Fv ops hs m n=true)(hS:S w.drew)
 (h:aO P ops S (fun a'=>nH P .any ops (NoPanic Q) S n m (Ck hs (Array.replicate ops.size false)) a' w.drew) hs a):(Code.region id ops true).wp P Q a w:=by
 simp only[Fv,Bool.and_eq_true,decide_eq_true_eq,List.all_eq_true]at hB;obtain⟨⟨⟨⟨⟨⟨hsel,hn⟩,hsk⟩,hc⟩,hl⟩,hlen⟩,hlex⟩:=hB
 have inv0:HeadInv .any ops n (Array.replicate ops.size false):=
  ⟨by simp,fun j oj _ hl=>(by rw[getD_replicate_false]at hl;cases hl),fun t _ ht=>Go.getD_in (by simpa using ht) (getD_replicate_false _ _)⟩
 refine wp_region_noPanic (wp_region_any hm (Cg (S:=S) (n:=n) _ _ _ _ ?_));have:=Og (md:= .any) (Q:=NoPanic Q) (m:=m) hsel (fun _ _ _ _ _ h=>h) hsk hc hn hS hs _ a hl inv0 hlex h;rw[hlen]at this;exact this
end
section
variable{P:Program}{ops:Array Oper}{Q:Exit->Act->World->Prop}{S:World->Prop}
def yD(ops:Array Oper)(n:Nat):Bool:=Region.noSelect ops&&decide (n<ops.size)&&Region.sinkB .any ops n&&Region.chainB .any ops n
def ax(P:Program)(ops:Array Oper)(Q:Exit->Act->World->Prop)(S:World->Prop)(n k:Nat)(listed:Array Bool)(a:Act)(w:World):Prop:=
 yD ops n=true->HeadInv .any ops n listed->jF P .any ops (NoPanic Q) S n k listed a w
theorem Oh{n k:Nat}{listed:Array Bool}{a:Act}{w:World}(hb:yD ops n=true)(inv:HeadInv .any ops n listed)(h0:Region.ready .any ops listed≠[])(h:∀i∈Region.ready .any ops listed,i<n/\zR P ops (NoPanic Q) S n (ax P ops Q S n k (listed.setIfInBounds i true)) i a w):jF P .any ops (NoPanic Q) S n (k+1) listed a w:=by
 refine⟨fun h1=>absurd h1 h0,fun i hi=> ?_⟩;obtain⟨hin,o,ho,h⟩:=h i hi
 have h1:=h (fun a' w'=>(i<n->S w')/\jF P .any ops (NoPanic Q) S n k (listed.setIfInBounds i true) a' w')
  (fun a' w' hS hT=>⟨hS,hT hb (inv.set hi hin)⟩)
 have h0':ops[i]?=some o:=by simpa using ho
 unfold wpOp;simp only[h0'];split
 ·rename_i hw
  rw[if_pos hw]at h1;exact .inl h1
 ·rename_i hw
  rw[if_neg hw]at h1;exact h1
theorem ax.one{n k i:Nat}{listed:Array Bool}{a:Act}{w:World}(hr:(decide (Region.ready .any ops listed=[i])&&decide (i<n))=true)(h:zR P ops (NoPanic Q) S n (ax P ops Q S n k (listed.setIfInBounds i true)) i a w):ax P ops Q S n (k+1) listed a w:=fun hb inv=>by
 simp only[Bool.and_eq_true,decide_eq_true_eq]at hr;refine Oh hb inv (by rw[hr.1];simp) fun j hj=> ?_;rw[hr.1]at hj;have:j=i:=by simpa using hj
 subst this;exact⟨hr.2,h⟩
theorem ax.two{n k i i':Nat}{listed:Array Bool}{a:Act}{w:World}(hr:(decide (Region.ready .any ops listed=[i,i'])&&decide (i<n)&&decide (i'<n))=true)(h:zR P ops (NoPanic Q) S n (ax P ops Q S n k (listed.setIfInBounds i true)) i a w)(h':zR P ops (NoPanic Q) S n (ax P ops Q S n k (listed.setIfInBounds i' true)) i' a w):ax P ops Q S n (k+1) listed a w:=fun hb inv=>by
 simp only[Bool.and_eq_true,decide_eq_true_eq]at hr;refine Oh hb inv (by rw[hr.1.1];simp) fun j hj=> ?_;rw[hr.1.1]at hj;simp only[List.mem_cons,List.not_mem_nil,or_false]at hj;rcases hj with rfl|rfl
 ·exact⟨hr.1.2,h⟩
 ·exact⟨hr.2,h'⟩
theorem ax.read{n k i:Nat}{o:Oper}{listed:Array Bool}{a:Act}{w:World}{v:Value}(ho:ops.toList[i]?=some o)(hr:((Region.ready .any ops listed).contains i&&Region.free .any ops listed i&&decide (i<n))=true)(hw:Region.wanted o (yielded ops a.tmps)=true)(hy:∀w,S w->(execOp a.eval o).run P w= .ok (.value v) w)(hS:S w)(h:ax P ops Q S n k (listed.setIfInBounds i true) (a.put o.dst v) w):ax P ops Q S n (k+1) listed a w:=fun hb inv=>by
 have hb':=hb;simp only[yD,Bool.and_eq_true,decide_eq_true_eq]at hb';obtain⟨⟨⟨hsel,hn⟩,hsk⟩,hc⟩:=hb';simp only[Bool.and_eq_true,decide_eq_true_eq]at hr;have hi:ops[i]?=some o:=by simpa using ho
 have hmem:i∈Region.ready .any ops listed:=by simpa using hr.1.1
 obtain⟨o',v',h0,hy',hK⟩:=(aO.cons (K:=fun a'=>a'=a.put o.dst v) (l:=[]) hi hw hy rfl:aO P ops S (fun a'=>a'=a.put o.dst v) [i] a);rw[hi]at h0;cases h0;have hK':a.put o.dst v'=a.put o.dst v:=hK;refine Ch hi (Region.noSelect_spec hsel) (fun _ _ _ h=>h) hsk hc hn hr.2 k listed a w inv (Region.free_spec hi hr.1.2) hmem hy' hS ?_;rw[hK'];exact h hb (inv.set hmem hr.2)
theorem ax.last{n i:Nat}{listed:Array Bool}{a:Act}{w:World}(hr:(decide (Region.ready .any ops listed=[i])&&decide (Region.ready .any ops (listed.setIfInBounds i true)=[]))=true)(h:∃o,ops.toList[i]?=some o/\∀K:Act->World->Prop,Shut (∀a w,(i<n->S w)->NoPanic Q .normal a w->K a w)->if Region.wanted o (yielded ops a.tmps)=true then Oper.wp P o a w K (NoPanic Q) else K (a.put o.dst undef) w):ax P ops Q S n 1 listed a w:=fun _ _=>by
 simp only[Bool.and_eq_true,decide_eq_true_eq]at hr;refine⟨fun h1=>absurd h1 (by rw[hr.1];simp),fun j hj=> ?_⟩;rw[hr.1]at hj;have:j=i:=by simpa using hj
 subst this;obtain⟨o,ho,h⟩:=h;have h1:=h (fun a' w'=>(j<n->S w')/\jF P .any ops (NoPanic Q) S n 0 (listed.setIfInBounds j true) a' w') (fun a' w' hS hT=>⟨hS,hr.2,hT⟩);have h0':ops[j]?=some o:=by simpa using ho
 unfold wpOp;simp only[h0'];split
 ·rename_i hw
  rw[if_pos hw]at h1;exact .inl h1
 ·rename_i hw
  rw[if_neg hw]at h1;exact h1
theorem Oi{n m:Nat}(hb:yD ops n=true){w:World}(hS:S w):
 ∀(l:List Nat) (listed:Array Bool) (a:Act),(∀i∈l,i<n)->HeadInv .any ops n listed->zS .any ops l listed=true->aO P ops S (fun a'=>ax P ops Q S n m (Ck l listed) a' w) l a->
 jF P .any ops (NoPanic Q) S n (l.length+m) listed a w
 | [],listed,a,_,inv,_,h=>by
  simp only[List.length_nil,Nat.zero_add];exact h hb inv
 |k::l,listed,a,hl,inv,hB,h=>by
  have hb':=hb;simp only[yD,Bool.and_eq_true,decide_eq_true_eq]at hb';obtain⟨⟨⟨hsel,hn⟩,hsk⟩,hc⟩:=hb';simp only[zS,Bool.and_eq_true]at hB;obtain⟨⟨hr,hf⟩,hB'⟩:=hB;have hkn:=hl k (by simp);have hr':k∈Region.ready .any ops listed:=by simpa using hr
  obtain⟨o,v,h0,hy,hK⟩:=h;rw[show (k::l).length+m=(l.length+m)+1 by simp only[List.length_cons];omega]
  exact Ch h0 (Region.noSelect_spec hsel) (fun _ _ _ h=>h) hsk hc hn hkn _ listed a w inv (Region.free_spec h0 hf) hr' hy hS
   (Oi hb hS l _ _ (fun i hi=>hl i (List.mem_cons_of_mem _ hi)) (inv.set hr' hkn) hB' hK)
theorem lY{id:Nat}{a:Act}{w:World}(hs:List Nat)(m n:Nat)(S:World->Prop)(hm:P.follows .mixedOrders=true)(hB:Fv ops hs m n=true)(hS:S w.drew)
 (h:aO P ops S (fun a'=>ax P ops Q S n m (Ck hs (Array.replicate ops.size false)) a' w.drew) hs a):(Code.region id ops true).wp P Q a w:=by
 simp only[Fv,Bool.and_eq_true,decide_eq_true_eq,List.all_eq_true]at hB;obtain⟨⟨⟨⟨⟨⟨hsel,hn⟩,hsk⟩,hc⟩,hl⟩,hlen⟩,hlex⟩:=hB
 have inv0:HeadInv .any ops n (Array.replicate ops.size false):=
  ⟨by simp,fun j oj _ hl=>(by rw[getD_replicate_false]at hl;cases hl),fun t _ ht=>Go.getD_in (by simpa using ht) (getD_replicate_false _ _)⟩
 refine wp_region_noPanic (wp_region_any hm (Cg (S:=S) (n:=n) _ _ _ _ ?_));have hb:yD ops n=true:=by simp only[yD,Bool.and_eq_true,decide_eq_true_eq];exact⟨⟨⟨hsel,hn⟩,hsk⟩,hc⟩
 have:=Oi (Q:=Q) (m:=m) hb hS hs _ a hl inv0 hlex h;rw[hlen]at this;exact this
end
end Go.Proofs.YtblkkhfdeaaidaaGreatDoor
namespace Go.Proofs.YtblkkhfdeaaidaaGreatDoor
open Go.RowKit
theorem Oj{w:World}{b:Nat}{s:dQ}(h:bF w b s.1 s.2):Calls Tryz.prog 126 #[.pointer (some ⟨b,0,none⟩)] w fun e w'=>e= .returned (.bool (!s.2&& !s.1.isEmpty))/\w'=w:=WW h
theorem aO.Ol{P:Program}{ops:Array Oper}{S:World->Prop}{K:Act->Prop}{i:Nat}{o:Oper}{l:List Nat}{a:Act}{v:Value}(ho:ops.toList[i]?=some o)(hw:Region.wanted o (yielded ops a.tmps)=true)(hy:∀w,S w->(execOp a.eval o).run P w= .ok (.value v) w)(h:aO P ops S K l (a.put o.dst v)):aO P ops S K (i::l) a:=
 aO.cons (by simpa using ho) hw hy h
structure RR(w:World)(p1 p2:Nat)(L:Int)(s:dQ)(rv:Value)(A:List Sy)(wr:World):Prop where
 sc:bF wr p1 s.1 s.2
 rule:qj wr p2 L rv A
 res:wr.heap[w.heap.size]?=some (.cells #[.int .i64 0,.slice none 0 0] 91 (0,0))
 below:Below w.heap.size w wr
section
variable{w wr w':World}{p1 p2:Nat}{L:Int}{s s':dQ}{rv:Value}{A:List Sy}
theorem RR.size(h:RR w p1 p2 L s rv A wr):w.heap.size<wr.heap.size:=(Array.getElem?_eq_some_iff.1 h.res).1
theorem RR.scan(h:RR w p1 p2 L s rv A wr)(hp:w.heap.size<p1/\p1<p2)(hb:But p1 wr w')(hs:bF w' p1 s'.1 s'.2):RR w p1 p2 L s' rv A w':=
 ⟨hs,h.rule.but hb hp.2,(hb.block _ h.size (by omega)).trans h.res,h.below.trans (hb.below (by omega) (Nat.le_of_lt h.size))⟩
theorem RR.later(h:RR w p1 p2 L s rv A wr)(hb:Below wr.heap.size wr w'):RR w p1 p2 L s rv A w':=
 ⟨(hb.block _ h.sc.lt).trans h.sc,h.rule.later hb,(hb.block _ h.size).trans h.res,h.below.trans (hb.mono (Nat.le_of_lt h.size))⟩
theorem RR.put(h:RR w p1 p2 L s rv A wr)(hp:w.heap.size<p1/\p1<p2){rv':Value}{A':List Sy}(hg:wr.grownBy w' rv.ownBlock)(ho:w'.ownsRow (p2+1) 116 2 rv' A'.length (iy A')):RR w p1 p2 L s rv' A' (w'.setCell ⟨p2,1,none⟩ rv'):=by
 have hb:∀k,k<p2->k<wr.heap.size->(w'.setCell ⟨p2,1,none⟩ rv').heap[k]?=wr.heap[k]?:=fun k hk hl=>(Below.heap_setCell w' _ _ k (by show k≠p2;omega)).trans (hg.block k hl fun e=>by have:=(h.rule.own.lt k e.symm).1;omega);have hB:Below w.heap.size wr (w'.setCell ⟨p2,1,none⟩ rv'):=Below.setCell ⟨hg.os,hg.tape,hg.output,hg.size,fun k hk=>hg.block k (by have:=h.size;omega) fun e=>by have:=(h.rule.own.lt k e.symm).1;omega⟩ (by show w.heap.size<=p2;omega) _;exact⟨(hb _ hp.2 h.sc.lt).trans h.sc,h.rule.put hg ho,(hb _ (by omega) h.size).trans h.res,h.below.trans hB⟩
theorem qm{base:Nat}{e:TypeId}{size n:Nat}{xs:List Value}(h:w.ownsRow base e size rv n xs):∃a c,rv= .slice a n c:=by
 rcases h.2 with⟨h1,h2⟩|⟨g,cap,cur,h1,_⟩
 ·exact⟨none,0,by rw[h1,h2]⟩
 ·exact⟨_,_,h1⟩
theorem Om{base base':Nat}{e:TypeId}{size n:Nat}{xs:List Value}(h:w.ownsRow base e size rv n xs)(hb:base'<=base):w.ownsRow base' e size rv n xs:=by
 refine⟨h.1,?_⟩;rcases h.2 with h2|⟨g,cap,cur,h1,h2,h3⟩
 ·exact .inl h2
 ·exact .inr ⟨g,cap,cur,h1,by omega,h3⟩
theorem Xn(l:List UInt8):Calls Tryz.prog 95 #[.string ⟨l.toArray⟩] w fun e w'=> ∃rv,e= .returned (.tuple #[.agg #[.int .i64 (dB l),rv],.bool (yB l)])/\w'.ownsRow w.heap.size 116 2 rv (cZ l).2.length (iy (cZ l).2)/\Below w.heap.size w w':=by
 obtain⟨W0,hW0⟩:∃W,w.alloc (.cells #[.int .i64 0,.slice none 0 0] 91)=W:=⟨_,rfl⟩;obtain⟨W1,hW1⟩:∃W,W0.alloc (.cells #[.string ⟨l.toArray⟩,.bool false] 210)=W:=⟨_,rfl⟩;have hx0:=heap_alloc_new w (.cells #[.int .i64 0,.slice none 0 0] 91);rw[hW0]at hx0;have hz0:W0.heap.size=w.heap.size+1:=by rw[<-hW0];simp
 have h1:=NW W0 l;rw[hW1,hz0]at h1;have hx1:W1.heap[w.heap.size]?=some (.cells #[.int .i64 0,.slice none 0 0] 91 (0,0)):=by rw[<-hW1];exact(Below.heap_alloc W0 _ _ (by omega)).trans hx0
 have hB1:Below w.heap.size w W1:=by rw[<-hW1,<-hW0];exact((Below.refl _ _).alloc (Nat.le_refl _) _).alloc (by simp) _
 have hz1:W1.heap.size=w.heap.size+2:=by rw[<-hW1];simp[hz0]
 have HW:Hid (w.alloc (.cells #[.int .i64 0,.slice none 0 0] 91)=W0/\W0.alloc (.cells #[.string ⟨l.toArray⟩,.bool false] 210)=W1/\W0.heap.size=w.heap.size+1):=⟨hW0,hW1,hz0⟩;have H1:Hid (W1.heap[w.heap.size]?=some (.cells #[.int .i64 0,.slice none 0 0] 91 (0,0))/\Below w.heap.size w W1/\W1.heap.size=w.heap.size+2):=⟨hx1,hB1,hz1⟩;have wd:=zO h1 [110];have HA:Hid (sH l=eP [110] (l,false)):=rfl;rw[<-HA.out]at wd;clear hW0 hW1 hx0 hz0 h1 hx1 hB1 hz1;obtain⟨p1,hp1⟩:∃x,w.heap.size+1=x:=⟨_,rfl⟩;rw[hp1]at wd;have HP:Hid (w.heap.size+1=p1):=hp1;clear hp1
 go_enter Tryz.func95,Tryz.ntmps95
 go_upto_region 2 with fail
 rw[HW.out.1];rw[HW.out.2.1];rw[HP.out];clear HW
 go_upto_region 4 with
  (first
   |(go_at_call 123;refine wd.mono ?_;rintro e w2 ⟨rfl,h2,h3⟩
     have nu:=Cb h2;have H2:Hid (But p1 W1 w2):=h3
     clear wd h2 h3)
   |(go_at_call 124;refine nu.mono ?_;rintro e w3 ⟨rfl,h2,h3⟩
     have H3:Hid (But p1 W1 w3/\bF w3 p1 (gF (sH l)).1 (gF (sH l)).2):=⟨H2.out.trans h3,h2⟩
     clear nu h2 h3))
 obtain⟨p2,hp2⟩:∃x,w3.heap.size=x:=⟨_,rfl⟩;obtain⟨W4,dD⟩:∃V,w3.alloc (.cells #[.int .i64 ((fu (sH l).1).1:Nat),.slice none 0 0] 91)=V:=⟨_,rfl⟩;rw[dD];rw[hp2];have Jz:=H3.out.1.size;have qO:Hid (w.heap.size<p1/\p1<p2):=by have h1:=HP.out;have h2:=H1.out.2.2;exact⟨by omega,by omega⟩
 have hrr:RR w p1 p2 (dB l) (gF (sH l)) (.slice none 0 0) [] W4:=by
  have hx:=heap_alloc_new w3 (.cells #[.int .i64 ((fu (sH l).1).1:Nat),.slice none 0 0] 91);rw[dD,hp2]at hx;refine⟨by rw[<-dD];exact H3.out.2.alloc _,⟨hx,World.ownsRow_nil ..⟩,?_,?_⟩
  ·rw[<-dD]
   exact(Below.heap_alloc w3 _ _ (by have:=H1.out.2.2;omega)).trans ((H3.out.1.block _ (by have:=H1.out.2.2;omega) (by have:=qO.out;omega)).trans H1.out.1)
  ·rw[<-dD]
   exact(H1.out.2.1.trans (H3.out.1.below (by have:=qO.out;omega) (by have:=H1.out.2.2;omega))).alloc (by have:=H1.out.2.2;omega) _
 have wo:=zO hrr.sc [58];have HB:Hid (Cf l=eP [58] (gF (sH l))):=rfl;rw[<-HB.out]at wo;have HR:Hid (RR w p1 p2 (dB l) (gF (sH l)) (.slice none 0 0) [] W4):=hrr;clear Jz hrr dD hp2 H3 H2
 go_wp2_with
  (go_at_call 123;refine wo.mono ?_;rintro e w5 ⟨rfl,h2,h3⟩
   have qP:Hid (RR w p1 p2 (dB l) (Cf l) (.slice none 0 0) [] w5):=HR.out.scan qO.out h3 h2
   clear wo h2 h3)
 go_loopw [6] (fun s6 wr=> ∃(u:Value) (s:dQ) (rv:Value) (A:List Sy) (f:Nat),s6=u/\RR w p1 p2 (dB l) s rv A wr/\A.length<=9/\mz s<=f/\wB f s A=cZ l) (fun _ wr=>Fs p1 wr)
 case atStart=>exact⟨_,Cf l,.slice none 0 0,[],_,rfl,qP.out,by simp,by unfold mz;split<;>omega,rfl⟩
 case round=>
  obtain⟨u,s,rv,A,f,rfl,hR,hA,hf,hE⟩:=hrel;obtain⟨ra,rc,aG⟩:=qm hR.rule.own;subst aG;cases hm:(!s.2&& !s.1.isEmpty) with
  |true=>
   have mo:=Oj hR.sc;rw[hm]at mo;have sy:=Xa hR.sc;obtain⟨f',hf'⟩:∃f',f=f'+1:=⟨f-1,by have:=Xk hm;omega⟩;subst hf';rw[wB,hm,if_pos rfl]at hE;have HZ:Hid (Fs p1 wr=mz s/\mz (jE s)<mz s/\mz (jE s)<=f'):=⟨Ju hR.sc,Jv hm,by have:=Jv hm;omega⟩;have Fw:Hid (RR w p1 p2 (dB l) s (.slice ra A.length rc) A wr):=hR;obtain⟨t,ht⟩:∃x,wu s=x:=⟨_,rfl⟩;obtain⟨v,hv⟩:∃x,(fu (mQ s).1).1=x:=⟨_,rfl⟩;rw[ht,hv]at hE sy;by_cases Oo:A.length<=8
   ·rw[if_pos Oo]at hE
    have HE:Hid (wB f' (jE s) (A++[(t,(v:Int))])=cZ l):=hE;have i1:decide ((A.length:Int)<=8)=true:=decide_eq_true (by omega);obtain⟨i5,hi5,oL,oM,qQ⟩:=info_parts Tryz.infoSy9;have m1:A.length+1<=maxLen:=by unfold maxLen;omega
    have m2:(A.length+1)*16<=140737488355328:=by omega
    clear hR hf hE hm ht hv
    go_wp2_with
     (first
      |(go_at_call 126;refine mo.mono ?_;rintro e w6 ⟨rfl,h6⟩;obtain rfl:wr=w6:=h6.symm;clear mo)
      |(go_at_call 127;refine sy.mono ?_;rintro e w6 ⟨rfl,h2,h3⟩
        have oN:=(Fw.out.scan qO.out h3 h2).later ((Below.refl _ _).alloc (Nat.le_refl _) (.cells #[.bool t,.int .i64 (v:Int)] 116));have wC:=oN.later ((Below.refl _ _).alloc (Nat.le_refl _) (.cells #[.bool t,.int .i64 (v:Int)] 116));have c1:=ai (i:=1) oN.rule.at_ rfl;have Oq:=wC.rule.own;have sQ:=wC.rule.lt;have nI:Hid (RR w p1 p2 (dB l) (jE s) (.slice ra A.length rc) A ((w6.alloc (.cells #[.bool t,.int .i64 (v:Int)] 116)).alloc (.cells #[.bool t,.int .i64 (v:Int)] 116))):=wC;have hnw:=World.news_of_block (cs:= #[.bool t,.int .i64 (v:Int)]) (t:=116) (fr:=(0,0)) (heap_alloc_new (w6.alloc (.cells #[.bool t,.int .i64 (v:Int)] 116)) (.cells #[.bool t,.int .i64 (v:Int)] 116))
        clear sy h2 h3 oN wC)
      |(at_builtin
        refine wpList_append_lies _ rfl _ _ _ rfl (p2+1) 116 i5 _ 2 16 Tryz.underlying89 hi5 oL oM qQ rfl (by omega) (.slice ra A.length rc) A.length (iy A) rfl Oq
         ⟨(w6.alloc (.cells #[.bool t,.int .i64 (v:Int)] 116)).heap.size,0,none⟩ 1 1 [.bool t,.int .i64 (v:Int)] (by simp[go_sem]) rfl hnw (by simp[Value.oneCell']) (by omega) m1 m2 sQ _ rfl ?_
        intro g9 sS w9 nJ jR wD yE;have hq:w9.heap[p2]?=_:=(jR.block p2 sQ (fun e=>by have:=(nI.out.rule.own.lt _ e.symm).1;omega)).trans nI.out.rule.at_;have c9:=ai (i:=1) hq rfl;have f9:w9.frozen? ⟨p2,1,none⟩=false:=bD hq
        clear hq))
    have sU:Hid (RR w p1 p2 (dB l) (jE s) (.slice (some ⟨g9,0,none⟩) (A.length+1) sS) (A++[(t,(v:Int))]) (w9.setCell ⟨p2,1,none⟩ (.slice (some ⟨g9,0,none⟩) (A.length+1) sS))):=nI.out.put qO.out jR (by rw[Xc];simpa using nJ);clear nJ jR wD yE Oq hnw hi5 oL oM qQ m1 m2 sQ;go_roundw
    case rel=>exact⟨_,_,_,_,f',rfl,sU.out,by simp;omega,HZ.out.2.2,HE.out⟩
    case measure=>
     rw[HZ.out.1,Ju sU.out.sc];exact HZ.out.2.1
   ·rw[if_neg Oo]at hE
    have HE:Hid (wB f' (jE s) A=cZ l):=hE;have i1:decide ((A.length:Int)<=8)=false:=decide_eq_false (by omega);clear hR hf hE hm ht hv
    go_wp2_with
     (first
      |(go_at_call 126;refine mo.mono ?_;rintro e w6 ⟨rfl,h6⟩;obtain rfl:wr=w6:=h6.symm;clear mo)
      |(go_at_call 127;refine sy.mono ?_;rintro e w6 ⟨rfl,h2,h3⟩
        have oN:=(Fw.out.scan qO.out h3 h2).later ((Below.refl _ _).alloc (Nat.le_refl _) (.cells #[.bool t,.int .i64 (v:Int)] 116));have c1:=ai (i:=1) oN.rule.at_ rfl;have Ot:Hid (RR w p1 p2 (dB l) (jE s) (.slice ra A.length rc) A (w6.alloc (.cells #[.bool t,.int .i64 (v:Int)] 116))):=oN
        clear sy h2 h3 oN))
    go_roundw
    case rel=>exact⟨_,_,_,_,f',rfl,Ot.out,hA,HZ.out.2.2,HE.out⟩
    case measure=>
     rw[HZ.out.1,Ju Ot.out.sc];exact HZ.out.2.1
  |false=>
   have mo:=Oj hR.sc;rw[hm]at mo;rw[Xj f hm]at hE;have HE:Hid (cZ l=(s,A)):=hE.symm;have Fw:Hid (RR w p1 p2 (dB l) s (.slice ra A.length rc) A wr):=hR;clear hR hf hE hm
   go_upto_region 9 with(go_at_call 126;refine mo.mono ?_;rintro e w6 ⟨rfl,h6⟩;obtain rfl:wr=w6:=h6.symm;clear mo)
   obtain⟨Wd,hWd⟩:∃V,wr.drew=V:=⟨_,rfl⟩;have cK:RR w p1 p2 (dB l) s (.slice ra A.length rc) A Wd:=by rw[<-hWd];exact Fw.out.later (Below.refl _ _).drew
   have S0:Wd.cell? ⟨p2,0,none⟩=some (.int .i64 (dB l))/\Wd.cell? ⟨p2,1,none⟩=some (.slice ra A.length rc):=⟨ai cK.rule.at_ rfl,ai cK.rule.at_ rfl⟩;have dN:Hid (RR w p1 p2 (dB l) s (.slice ra A.length rc) A Wd):=cK;clear cK;refine lY [0] 3 3 (fun wq=>wq.cell? ⟨p2,0,none⟩=some (.int .i64 (dB l))/\wq.cell? ⟨p2,1,none⟩=some (.slice ra A.length rc)) (by kernel_rfl) (by kernel_rfl) (by rw[hWd];exact S0) ?_;rw[hWd];clear hWd;refine aO.Ol (v:= ?_) rfl (by rfl) ?_ ?_;rotate_left
   ·intro w' hSw
    obtain⟨z0,z1⟩:=hSw
    go_simp
    try with_reducible rfl
   simp only[Act.put,List.setIfInBounds_toArray,List.set_cons_zero,List.set_cons_succ];rw[aO];have dn:=NV dN.out.sc;refine ax.one (i:=1) (by kernel_rfl) ⟨_,rfl,fun K hK=> ?_⟩
   go_simp
   refine dn.mono ?_;rintro e w4 ⟨rfl,h4⟩;obtain rfl:Wd=w4:=h4.symm;dsimp only;refine hK.out _ _ (fun _=>S0) ?_;clear hK dn;have r0:=ai (i:=0) dN.out.res rfl;have r1:=ai (i:=1) dN.out.res rfl;have g0:Wd.frozen? ⟨w.heap.size,0,none⟩=false:=bD dN.out.res;have g1:Wd.frozen? ⟨w.heap.size,1,none⟩=false:=bD dN.out.res;obtain⟨W9,JA⟩:∃V,(Wd.setCell ⟨w.heap.size,0,none⟩ (.int .i64 (dB l))).setCell ⟨w.heap.size,1,none⟩ (.slice ra A.length rc)=V:=⟨_,rfl⟩;have qR:W9.heap[w.heap.size]?=some (.cells #[.int .i64 (dB l),.slice ra A.length rc] 91 (0,0)):=by rw[<-JA];exact Lib.heap_setCell_same (i:=1) (Lib.heap_setCell_same (i:=0) dN.out.res _) _
   have Fx:∀k,k≠w.heap.size->W9.heap[k]?=Wd.heap[k]?:=fun k hk=>by rw[<-JA];exact(Below.heap_setCell _ _ _ k hk).trans (Below.heap_setCell _ _ _ k hk)
   have uI:Below w.heap.size w W9:=by rw[<-JA];exact(dN.out.below.setCell (Nat.le_refl _) _).setCell (Nat.le_refl _) _
   have JB:=(Fx p2 (by have:=qO.out;omega)).trans dN.out.rule.at_;have S9:W9.cell? ⟨p2,0,none⟩=some (.int .i64 (dB l))/\W9.cell? ⟨p2,1,none⟩=some (.slice ra A.length rc):=⟨ai JB rfl,ai JB rfl⟩;have nJ:W9.ownsRow w.heap.size 116 2 (.slice ra A.length rc) A.length (iy A):=Om (jg dN.out.rule.own fun g hg=>Fx g (by have:=(dN.out.rule.own.lt g hg).1;have:=qO.out;omega)) (by have:=qO.out;omega);have H9:Hid (W9.ownsRow w.heap.size 116 2 (.slice ra A.length rc) A.length (iy A)/\Below w.heap.size w W9):=⟨nJ,uI⟩;have x0:=ai (i:=0) qR rfl;have x1:=ai (i:=1) qR rfl;clear qR Fx uI JB nJ;refine ax.one (i:=2) (by kernel_rfl) ⟨_,rfl,fun K hK=> ?_⟩
   go_simp
   refine hK.out _ _ (fun _=>S9) ?_;clear hK;refine ax.last (i:=3) (by kernel_rfl) ⟨_,rfl,fun K hK=> ?_⟩
   go_simp
   refine hK.out _ _ (fun h=>absurd h (by omega)) (NoPanic.normal ?_);clear hK
   go_wp2_with fail
   refine bodyPost_ret (v:= .tuple #[.agg #[.int .i64 (dB l),.slice ra A.length rc],.bool (!s.2&&s.1.isEmpty)]) (by simp[results,Tryz.results95,go_sem,x0,x1]) rfl ⟨.slice ra A.length rc,?_,?_,H9.out.2⟩
   ·unfold yB
    rw[HE.out]
   ·rw[HE.out]
    exact H9.out.1
end
def qU(l:List (Value×Ru)):List Value:=l.flatMap fun x=>[.int .i64 x.2.1,x.1]
theorem Xo(l:List (Value×Ru))(x:Value×Ru):qU (l++[x])=qU l++[.int .i64 x.2.1,x.1]:=by simp[qU]
structure GR(w:World)(gb:Nat)(T N:Int)(rv:Value)(RL:List (Value×Ru)):Prop where
 at_:w.heap[gb]?=some (.cells #[.int .i64 T,.int .i64 N,rv] 26 (0,0))
 own:w.ownsRow (gb+1) 91 2 rv RL.length (qU RL)
 right:∀x∈RL,w.ownsRow (gb+1) 116 2 x.1 x.2.2.length (iy x.2.2)/\∀g,x.1.ownBlock=some g->rv.ownBlock≠some g
def lZ(line:List UInt8)(R:List Ru):List Ru:=if yB line=true/\R.length<=40 then R++[((dB line:Int),(cZ line).2)] else R
section
variable{w w':World}{gb:Nat}{T N:Int}{rv:Value}{RL:List (Value×Ru)}
theorem GR.lt(h:GR w gb T N rv RL):gb<w.heap.size:=(Array.getElem?_eq_some_iff.1 h.at_).1
theorem GR.later(h:GR w gb T N rv RL)(hb:Below w.heap.size w w'):GR w' gb T N rv RL:=
 ⟨(hb.block _ h.lt).trans h.at_,jg h.own fun g hg=>hb.block g (h.own.lt g hg).2,fun x hx=>⟨jg (h.right x hx).1 fun g hg=>hb.block g ((h.right x hx).1.lt g hg).2,(h.right x hx).2⟩⟩
theorem GR.head(h:GR w gb T N rv RL)(hb:But gb w w'){T' N':Int}(ha:w'.heap[gb]?=some (.cells #[.int .i64 T',.int .i64 N',rv] 26 (0,0))):GR w' gb T' N' rv RL:=
 ⟨ha,jg h.own fun g hg=>hb.block g (h.own.lt g hg).2 (by have:=(h.own.lt g hg).1;omega),fun x hx=>⟨jg (h.right x hx).1 fun g hg=>hb.block g ((h.right x hx).1.lt g hg).2 (by have:=((h.right x hx).1.lt g hg).1;omega),(h.right x hx).2⟩⟩
theorem GR.put(h:GR w gb T N rv RL){v:Value}{r:Ru}(hv:w.ownsRow (gb+1) 116 2 v r.2.length (iy r.2))(hd:∀g,v.ownBlock=some g->rv.ownBlock≠some g){g cap:Nat}
 (hg:w.grownBy w' rv.ownBlock) (hn:rv.ownBlock=some g\/g=w.heap.size) (ho:w'.ownsRow (gb+1) 91 2 (.slice (some ⟨g,0,none⟩) (RL.length+1) cap) (RL.length+1) (qU RL++[.int .i64 r.1,v])):
 GR (w'.setCell ⟨gb,2,none⟩ (.slice (some ⟨g,0,none⟩) (RL.length+1) cap)) gb T N (.slice (some ⟨g,0,none⟩) (RL.length+1) cap) (RL++[(v,r)]):=by
 have hb:w'.heap[gb]?=w.heap[gb]?:=hg.block gb h.lt fun e=>by have:=(h.own.lt gb e.symm).1;omega
 have hk:∀k,k≠gb->(w'.setCell ⟨gb,2,none⟩ (.slice (some ⟨g,0,none⟩) (RL.length+1) cap)).heap[k]?=w'.heap[k]?:=fun k hk=>Below.heap_setCell _ _ _ k hk
 have hr:∀x:Value×Ru,w.ownsRow (gb+1) 116 2 x.1 x.2.2.length (iy x.2.2)->(∀j,x.1.ownBlock=some j->rv.ownBlock≠some j)->(w'.setCell ⟨gb,2,none⟩ (.slice (some ⟨g,0,none⟩) (RL.length+1) cap)).ownsRow (gb+1) 116 2 x.1 x.2.2.length (iy x.2.2)/\∀j,x.1.ownBlock=some j->(Value.slice (some ⟨g,0,none⟩) (RL.length+1) cap).ownBlock≠some j:=fun x h1 h2=>by
  refine⟨jg h1 fun j hj=>(hk j (by have:=(h1.lt j hj).1;omega)).trans (hg.block j (h1.lt j hj).2 fun e=>h2 j hj e.symm),fun j hj=> ?_⟩;simp only[Value.ownBlock,ne_eq,Option.some.injEq];intro e;subst e;rcases hn with hn|hn
  ·exact h2 _ hj hn
  ·have:=(h1.lt _ hj).2
   omega
 refine⟨Lib.heap_setCell_same (hb.trans h.at_) _,?_,fun x hx=> ?_⟩
 ·rw[Xo,List.length_append]
  exact jg ho fun j hj=>hk j (by have:=(ho.lt j hj).1;omega)
 ·rcases List.mem_append.1 hx with hx|hx
  ·exact hr x (h.right x hx).1 (h.right x hx).2
  ·rw[List.mem_singleton.1 hx]
   exact hr (v,r) hv hd
theorem Ou(h:GR w gb T N rv RL)(l:List UInt8):Calls Tryz.prog 71 #[.pointer (some ⟨gb,0,none⟩),.int .i64 0,.string ⟨l.toArray⟩] w fun e w'=>e= .returned (.bool (Fq l))/\GR w' gb (kW l) (hdN l) rv RL/\Below gb w w':=by
 have hd:=Xb l h.at_;have H:Hid (GR w gb T N rv RL):=h;clear h
 go_enter Tryz.func71,Tryz.ntmps71
 go_wp2_with
  (go_at_call 94;refine hd.mono ?_;rintro e w2 ⟨rfl,h2,h3⟩
   have H2:Hid (GR w2 gb (kW l) (hdN l) rv RL/\Below gb w w2):=⟨H.out.head h3 h2,h3.below (Nat.le_refl _) (Nat.le_of_lt H.out.lt)⟩
   clear hd h2 h3)
 go_ret;exact⟨rfl,H2.out⟩
theorem Ov(h:GR w gb T N rv RL)(hR:RL.length<=41){m:Nat}(hm:m≠0)(l:List UInt8):Calls Tryz.prog 71 #[.pointer (some ⟨gb,0,none⟩),.int .i64 m,.string ⟨l.toArray⟩] w fun e w'=>e= .returned (.bool (yB l))/\(∃rv' Ow,GR w' gb T N rv' Ow/\Ow.map (fun x=>x.2)=lZ l (RL.map fun x=>x.2))/\Below gb w w':=by
 have rr:=Xn (w:=w) l;have H:Hid (GR w gb T N rv RL):=h;obtain⟨ra,rc,aG⟩:=qm h.own;subst aG;clear h;have b1:((m:Int)==0)=false:=by simp[hm]
 have b2:(m==0)=false:=by simp[hm]
 clear hm;cases hok:yB l with
 |false=>
  rw[hok]at rr;have HL:Hid (lZ l (RL.map fun x=>x.2)=RL.map fun x=>x.2):=by show _=_;simp[lZ,hok]
  clear hok
  go_enter Tryz.func71,Tryz.ntmps71
  go_wp2_with
   (go_at_call 95;refine rr.mono ?_;rintro e w2 ⟨v,rfl,h2,h3⟩
    have hG:=(H.out.later h3).later ((Below.refl _ _).alloc (Nat.le_refl _) (.cells #[.int .i64 (dB l),v] 91));have H2:Hid (GR (w2.alloc (.cells #[.int .i64 (dB l),v] 91)) gb T N (.slice ra RL.length rc) RL/\Below gb w (w2.alloc (.cells #[.int .i64 (dB l),v] 91))):=⟨hG,(h3.mono (Nat.le_of_lt H.out.lt)).alloc (Nat.le_trans (Nat.le_of_lt H.out.lt) h3.size) _⟩;obtain⟨va,vc,hv⟩:=qm h2;subst hv
    clear rr h2 h3 hG)
  go_ret;exact⟨rfl,⟨_,_,H2.out.1,HL.out.symm⟩,H2.out.2⟩
 |true=>
  rw[hok]at rr;by_cases zT:RL.length<=40
  ·have HL:Hid (lZ l (RL.map fun x=>x.2)=(RL.map fun x=>x.2)++[((dB l:Int),(cZ l).2)]):=by show _=_;simp[lZ,hok,zT]
   have d1:decide ((RL.length:Int)<=40)=true:=decide_eq_true (by omega);clear hok
   go_enter Tryz.func71,Tryz.ntmps71
   go_upto_region 5 with
   (go_at_call 95;refine rr.mono ?_;rintro e w2 ⟨v,rfl,h2,h3⟩
    have hG:=(H.out.later h3).later ((Below.refl _ _).alloc (Nat.le_refl _) (.cells #[.int .i64 (dB l),v] 91));have H2:Hid (GR (w2.alloc (.cells #[.int .i64 (dB l),v] 91)) gb T N (.slice ra RL.length rc) RL/\Below gb w (w2.alloc (.cells #[.int .i64 (dB l),v] 91))):=⟨hG,(h3.mono (Nat.le_of_lt H.out.lt)).alloc (Nat.le_trans (Nat.le_of_lt H.out.lt) h3.size) _⟩;have HV:Hid (w2.ownsRow w.heap.size 116 2 v (cZ l).2.length (iy (cZ l).2)/\Below w.heap.size w w2):=⟨h2,h3⟩;have c2:=ai (i:=2) hG.at_ rfl;obtain⟨va,vc,hv⟩:=qm h2;subst hv
    clear rr h2 h3 hG)
   obtain⟨q,hq⟩:∃x,w2.heap.size=x:=⟨_,rfl⟩;obtain⟨W3,hW3⟩:∃V,w2.alloc (.cells #[.int .i64 (dB l),.slice va (cZ l).2.length vc] 91)=V:=⟨_,rfl⟩;have hx3:=heap_alloc_new w2 (.cells #[.int .i64 (dB l),.slice va (cZ l).2.length vc] 91);rw[hW3]at H2 hx3 c2;rw[hW3];rw[hq]at hx3;rw[hq]
   have hvd:∀g,(Value.slice va (cZ l).2.length vc).ownBlock=some g->(Value.slice ra RL.length rc).ownBlock≠some g:=fun g hg e=>by
    have h1:=(HV.out.1.lt g hg).1;have h2:=(H.out.own.lt g e).2;omega
   have Ox:W3.ownsRow (gb+1) 116 2 (.slice va (cZ l).2.length vc) (cZ l).2.length (iy (cZ l).2):=by
    rw[<-hW3];exact jg (Om HV.out.1 H.out.lt) fun g hg=>Below.heap_alloc _ _ _ (HV.out.1.lt g hg).2
   have JC:Hid (W3.ownsRow (gb+1) 116 2 (.slice va (cZ l).2.length vc) (cZ l).2.length (iy (cZ l).2)/\∀g,(Value.slice va (cZ l).2.length vc).ownBlock=some g->(Value.slice ra RL.length rc).ownBlock≠some g):=⟨Ox,hvd⟩;have H3:Hid (Below w.heap.size w w2):=HV.out.2;clear hvd Ox HV;obtain⟨Wd,hWd⟩:∃V,W3.drew=V:=⟨_,rfl⟩;have hBd:Below W3.heap.size W3 Wd:=by rw[<-hWd];exact(Below.refl _ _).drew
   have hxd:=(hBd.block _ (Array.getElem?_eq_some_iff.1 hx3).1).trans hx3;have Fy:=H2.out.1.later hBd;have S0:Wd.cell? ⟨gb,2,none⟩=some (.slice ra RL.length rc)/\Wd.cell? ⟨q,0,none⟩=some (.int .i64 (dB l))/\Wd.cell? ⟨q,1,none⟩=some (.slice va (cZ l).2.length vc):=⟨ai Fy.at_ rfl,ai hxd rfl,ai hxd rfl⟩;have hvd:Wd.ownsRow (gb+1) 116 2 (.slice va (cZ l).2.length vc) (cZ l).2.length (iy (cZ l).2):=jg JC.out.1 fun g hg=>hBd.block g (JC.out.1.lt g hg).2;obtain⟨W4,dD⟩:∃V,Wd.alloc (.cells #[.int .i64 (dB l),.slice va (cZ l).2.length vc] 91)=V:=⟨_,rfl⟩;have hBa:Below Wd.heap.size Wd W4:=by rw[<-dD];exact(Below.refl _ _).alloc (Nat.le_refl _) _
   have Fz:W4.heap.size=Wd.heap.size+1:=by rw[<-dD];simp
   have hG4:=Fy.later hBa;have hx4:=(hBa.block _ (Array.getElem?_eq_some_iff.1 hxd).1).trans hxd;have S4:W4.cell? ⟨gb,2,none⟩=some (.slice ra RL.length rc)/\W4.cell? ⟨q,0,none⟩=some (.int .i64 (dB l))/\W4.cell? ⟨q,1,none⟩=some (.slice va (cZ l).2.length vc):=⟨ai hG4.at_ rfl,ai hx4 rfl,ai hx4 rfl⟩;have hv4:W4.ownsRow (gb+1) 116 2 (.slice va (cZ l).2.length vc) (cZ l).2.length (iy (cZ l).2):=jg hvd fun g hg=>hBa.block g (hvd.lt g hg).2;have JD:=heap_alloc_new Wd (.cells #[.int .i64 (dB l),.slice va (cZ l).2.length vc] 91);rw[dD]at JD;have hnw:=World.news_of_block JD;have hB4:Below gb w W4:=H2.out.2.trans ((hBd.mono (Nat.le_of_lt H2.out.1.lt)).trans (hBa.mono (Nat.le_of_lt Fy.lt)));have JE:=hG4.lt;have dz:=hG4.own;have H4:Hid (GR W4 gb T N (.slice ra RL.length rc) RL/\W4.ownsRow (gb+1) 116 2 (.slice va (cZ l).2.length vc) (cZ l).2.length (iy (cZ l).2)/\Below gb w W4):=⟨hG4,hv4,hB4⟩;clear hx3 c2 hBd hxd Fy hvd hBa Fz hG4 hv4 JD hB4 hW3;refine lY [0,1,2,3,4,5] 5 10 (fun wq=>wq.cell? ⟨gb,2,none⟩=some (.slice ra RL.length rc)/\wq.cell? ⟨q,0,none⟩=some (.int .i64 (dB l))/\wq.cell? ⟨q,1,none⟩=some (.slice va (cZ l).2.length vc)) (by kernel_rfl) (by kernel_rfl) (by rw[hWd];exact S0) ?_;rw[hWd];clear hWd
   iterate 6
    refine aO.Ol (v:= ?_) rfl (by rfl) ?_ ?_;rotate_left
    ·intro w' hSw
     obtain⟨z0,z1,z2⟩:=hSw
     go_simp
     try with_reducible rfl
    simp only[Act.put,List.setIfInBounds_toArray,List.set_cons_zero,List.set_cons_succ]
   rw[aO];refine ax.one (i:=6) (by kernel_rfl) ⟨_,rfl,fun K hK=> ?_⟩
   go_simp
   refine hK.out _ _ (fun _=>S4) ?_;clear hK;obtain⟨i5,hi5,oL,oM,qQ⟩:=info_parts Tryz.infoRu9;have m1:RL.length+1<=maxLen:=by unfold maxLen;omega
   have m2:(RL.length+1)*32<=140737488355328:=by omega
   have hqq:(Value.slice ra RL.length rc).ownBlock≠some q:=fun e=>by
    have h1:=(H.out.own.lt q e).2;have h2:=H3.out.size;omega
   have hq4:q<W4.heap.size:=World.block_lt_of_cell? _ _ S4.2.1;refine ax.one (i:=7) (by kernel_rfl) ⟨_,rfl,fun K hK=> ?_⟩;rw[if_pos (by rfl)]
   refine wp_append_lies _ (.tmp 32) (.tmp 34) _ rfl (gb+1) 91 i5 _ 2 32 Tryz.underlying24 hi5 oL oM qQ rfl (by omega) (.slice ra RL.length rc) RL.length (qU RL) rfl dz
    ⟨Wd.heap.size,0,none⟩ 1 1 [.int .i64 (dB l),.slice va (cZ l).2.length vc] rfl rfl hnw (by simp[Value.oneCell']) (by omega) m1 m2 JE _ rfl ?_
   intro g9 sS w9 nJ jR wD yE;have JF:w9.heap[q]?=W4.heap[q]?:=jR.block q hq4 fun e=>hqq e.symm;have JG:w9.heap[gb]?=W4.heap[gb]?:=jR.block gb JE fun e=>by have:=(dz.lt gb e.symm).1;omega
   have S9:w9.cell? ⟨gb,2,none⟩=some (.slice ra RL.length rc)/\w9.cell? ⟨q,0,none⟩=some (.int .i64 (dB l))/\w9.cell? ⟨q,1,none⟩=some (.slice va (cZ l).2.length vc):=⟨(World.cell?_of_block JG).trans S4.1,(World.cell?_of_block JF).trans S4.2.1,(World.cell?_of_block JF).trans S4.2.2⟩;have c9:=S9.1;have f9:w9.frozen? ⟨gb,2,none⟩=false:=bD (JG.trans H4.out.1.at_)
   have Oy:Hid (GR (w9.setCell ⟨gb,2,none⟩ (.slice (some ⟨g9,0,none⟩) (RL.length+1) sS)) gb T N (.slice (some ⟨g9,0,none⟩) (RL.length+1) sS) (RL++[(.slice va (cZ l).2.length vc,((dB l:Int),(cZ l).2))])/\Below gb w (w9.setCell ⟨gb,2,none⟩ (.slice (some ⟨g9,0,none⟩) (RL.length+1) sS))):=by
    refine⟨H4.out.1.put (r:=((dB l:Int),(cZ l).2)) H4.out.2.1 JC.out.2 jR wD nJ,?_⟩;exact(H4.out.2.2.trans ⟨jR.os,jR.tape,jR.output,jR.size,fun k hk=>jR.block k (by omega) fun e=>by have:=(dz.lt k e.symm).1;omega⟩).setCell (Nat.le_refl _) _
   refine hK.out _ _ (fun _=>S9) ?_;clear hK nJ jR wD yE JF JG hi5 oL oM qQ m1 m2 hqq hq4 hnw JE dz H4 S0 S4;simp only[Act.put,List.setIfInBounds_toArray,List.set_cons_zero,List.set_cons_succ];refine ax.one (i:=8) (by kernel_rfl) ⟨_,rfl,fun K hK=> ?_⟩
   go_simp
   refine hK.out _ _ (fun _=>S9) ?_;clear hK;refine ax.one (i:=9) (by kernel_rfl) ⟨_,rfl,fun K hK=> ?_⟩
   go_simp
   refine hK.out _ _ (fun _=>S9) ?_;clear hK;refine ax.last (i:=10) (by kernel_rfl) ⟨_,rfl,fun K hK=> ?_⟩
   go_simp
   refine hK.out _ _ (fun h=>absurd h (by omega)) (NoPanic.normal ?_);clear hK
   go_wp2_with fail
   go_ret;refine⟨rfl,⟨_,_,Oy.out.1,?_⟩,Oy.out.2⟩;rw[HL.out];simp
  ·have HL:Hid (lZ l (RL.map fun x=>x.2)=RL.map fun x=>x.2):=by show _=_;simp[lZ,zT]
   have d1:decide ((RL.length:Int)<=40)=false:=decide_eq_false (by omega);clear hok
   go_enter Tryz.func71,Tryz.ntmps71
   go_wp2_with
   (go_at_call 95;refine rr.mono ?_;rintro e w2 ⟨v,rfl,h2,h3⟩
    have hG:=(H.out.later h3).later ((Below.refl _ _).alloc (Nat.le_refl _) (.cells #[.int .i64 (dB l),v] 91));have H2:Hid (GR (w2.alloc (.cells #[.int .i64 (dB l),v] 91)) gb T N (.slice ra RL.length rc) RL/\Below gb w (w2.alloc (.cells #[.int .i64 (dB l),v] 91))):=⟨hG,(h3.mono (Nat.le_of_lt H.out.lt)).alloc (Nat.le_trans (Nat.le_of_lt H.out.lt) h3.size) _⟩;have HV:Hid (w2.ownsRow w.heap.size 116 2 v (cZ l).2.length (iy (cZ l).2)/\Below w.heap.size w w2):=⟨h2,h3⟩;have c2:=ai (i:=2) hG.at_ rfl;obtain⟨va,vc,hv⟩:=qm h2;subst hv
    clear rr h2 h3 hG)
   go_ret;exact⟨rfl,⟨_,_,H2.out.1,HL.out.symm⟩,H2.out.2⟩
end
def gG(c:UInt8):List UInt8->Option (List UInt8×List UInt8)
 | []=>none
 |b::l=>if b==c then some ([],l) else (gG c l).map fun p=>(b::p.1,p.2)
theorem Xp{c:UInt8}{s:List UInt8}(h:gG c s=none):Lib.indexByte s c= -1:=by
 induction s with
 |nil=>rfl
 |cons b l ih=>
  unfold gG at h;unfold Lib.indexByte;cases hb:b==c with
  |true=>rw[hb]at h;simp at h
  |false=>
   rw[hb]at h;simp only[Bool.false_eq_true,if_false,Option.map_eq_none_iff]at h;rw[ih h];simp
theorem JH{c:UInt8}{s a r:List UInt8}(h:gG c s=some (a,r)):Lib.indexByte s c=(a.length:Int)/\s=a++c::r:=by
 induction s generalizing a with
 |nil=>simp[gG]at h
 |cons b l ih=>
  unfold gG at h;unfold Lib.indexByte;cases hb:b==c with
  |true=>
   rw[hb]at h;simp only[if_true,Option.some.injEq,Prod.mk.injEq]at h;obtain⟨rfl,rfl⟩:=h;have:b=c:=by simpa using hb
   simp[this]
  |false=>
   rw[hb]at h;simp only[Bool.false_eq_true,if_false,Option.map_eq_some_iff,Prod.mk.injEq]at h;obtain⟨⟨a',r'⟩,h1,h2,h3⟩:=h;simp only at h2 h3;subst h2;subst h3;obtain⟨h4,h5⟩:=ih h1;rw[h4];have:((a'.length:Int)== -1)=false:=by simp
   rw[this];simp[h5]
def wE:List UInt8->Option (List UInt8×List UInt8)
 | []=>none
 |b::l=>if b==10 then some ([],l) else (wE l).map fun p=>(b::p.1,p.2)
theorem FB:∀s:List UInt8,wE s=gG 10 s
 | []=>rfl
 |b::l=>by rw[wE,gG,FB l]
theorem Oz{s a r:List UInt8}(h:wE s=some (a,r)):Lib.indexByte s 10=(a.length:Int)/\s=a++10::r:=JH (by rw[<-FB];exact h)
section
variable{w:World}{c:UInt8}{s a r:List UInt8}
theorem Xq(r:List UInt8)(k:Nat):(⟨r.toArray⟩:ByteArray).extract 0 k=⟨(r.take k).toArray⟩:=by
 apply ByteArray.ext;simp[ByteArray.data_extract]
theorem Xt(h:gG c s=none)(w:World):Calls Tryz.prog 9 #[.string ⟨s.toArray⟩,.string ⟨#[c]⟩] w fun e w'=>e= .returned (.tuple #[.string ⟨s.toArray⟩,.string ⟨#[]⟩,.bool false])/\w'=w:=by
 have ix:=NR ⟨s.toArray⟩ c w;simp only[Xp h]at ix;clear h
 go_enter Tryz.func9,Tryz.ntmps9
 go_wp2_with
  (go_at_call 22;refine ix.mono ?_;rintro e w2 ⟨rfl,h2⟩;obtain rfl:w=w2:=h2.symm;clear ix)
 refine bodyPost_ret (v:= .tuple #[.string ⟨s.toArray⟩,.string ⟨#[]⟩,.bool false]) (by simp[results,Tryz.results9,go_sem]) rfl ⟨rfl,rfl⟩
theorem Xu(h:gG c s=some (a,r))(hs:s.length<=9223372036854775807)(w:World):Calls Tryz.prog 9 #[.string ⟨s.toArray⟩,.string ⟨#[c]⟩] w fun e w'=>e= .returned (.tuple #[.string ⟨a.toArray⟩,.string ⟨r.toArray⟩,.bool true])/\Below w.heap.size w w':=by
 have ix:=NR ⟨s.toArray⟩ c w;obtain⟨h1,h2⟩:=JH h;simp only[h1]at ix;have hl:s.length=a.length+1+r.length:=by rw[h2];simp;omega
 have HT:Hid (s.take a.length=a/\s.drop (a.length+1)=r):=by
  show _/\_;rw[h2];refine⟨by simp,?_⟩;rw[List.drop_append];simp
 obtain⟨k,hk⟩:∃x,a.length=x:=⟨_,rfl⟩;rw[hk]at ix hl HT;have c1:(0:Int)<=(k:Int):=by omega
 have c2:(k:Int)<=(s.length:Int):=by omega
 have c3:(0:Int)<=(k:Int)+1:=by omega
 have c4:(k:Int)+1<=(s.length:Int):=by omega
 have c5:decide ((0:Int)<=(k:Int))=true:=decide_eq_true c1;clear h h1 h2 hk hl
 go_enter Tryz.func9,Tryz.ntmps9
 go_wp2_with
  (go_at_call 22;refine ix.mono ?_;rintro e w2 ⟨rfl,h2⟩;obtain rfl:w=w2:=h2.symm;clear ix)
 go_region
 go_wp2_with fail
 refine bodyPost_ret (v:= .tuple #[.string ((⟨s.toArray⟩:ByteArray).extract 0 k),.string ((⟨s.toArray⟩:ByteArray).extract (k+1) s.length),.bool true]) (by simp[results,Tryz.results9,go_sem]) rfl ⟨?_,(Below.refl _ _).drew⟩;rw[Xq,Js,HT.out.1,HT.out.2]
theorem OA(h:gG c s=none)(w:World):Calls Tryz.prog 5 #[.string ⟨s.toArray⟩,.string ⟨#[c]⟩] w fun e w'=>e= .returned (.tuple #[.string ⟨s.toArray⟩,.string ⟨#[]⟩,.bool false])/\w'=w:=by
 have ct:=Xt h w;clear h
 go_enter Tryz.func5,Tryz.ntmps5
 go_wp2_with
  (go_at_call 9;refine ct.mono ?_;rintro e w2 ⟨rfl,h2⟩;obtain rfl:w=w2:=h2.symm;clear ct)
 refine bodyPost_ret (v:= .tuple #[.string ⟨s.toArray⟩,.string ⟨#[]⟩,.bool false]) (by simp[results,Tryz.results5,go_sem]) rfl ⟨rfl,rfl⟩
theorem OB(h:gG c s=some (a,r))(hs:s.length<=9223372036854775807)(w:World):Calls Tryz.prog 5 #[.string ⟨s.toArray⟩,.string ⟨#[c]⟩] w fun e w'=>e= .returned (.tuple #[.string ⟨a.toArray⟩,.string ⟨r.toArray⟩,.bool true])/\Below w.heap.size w w':=by
 have ct:=Xu h hs w;clear h
 go_enter Tryz.func5,Tryz.ntmps5
 go_wp2_with
  (go_at_call 9;refine ct.mono ?_;rintro e w2 ⟨rfl,h2⟩;have H2:Hid (Below w.heap.size w w2):=h2;clear ct h2)
 refine bodyPost_ret (v:= .tuple #[.string ⟨a.toArray⟩,.string ⟨r.toArray⟩,.bool true]) (by simp[results,Tryz.results5,go_sem]) rfl ⟨rfl,H2.out⟩
theorem Xv(h:wE s=none)(w:World):Calls Tryz.prog 5 #[.string ⟨s.toArray⟩,.string ⟨#[10]⟩] w fun e w'=>e= .returned (.tuple #[.string ⟨s.toArray⟩,.string ⟨#[]⟩,.bool false])/\w'=w:=OA (by rw[<-FB];exact h) w
theorem Xw(h:wE s=some (a,r))(hs:s.length<=9223372036854775807)(w:World):Calls Tryz.prog 5 #[.string ⟨s.toArray⟩,.string ⟨#[10]⟩] w fun e w'=>e= .returned (.tuple #[.string ⟨a.toArray⟩,.string ⟨r.toArray⟩,.bool true])/\Below w.heap.size w w':=OB (by rw[<-FB];exact h) hs w
end
end Go.Proofs.YtblkkhfdeaaidaaGreatDoor
