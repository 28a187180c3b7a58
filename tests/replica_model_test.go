package tests

import (
	"cmp"
	"slices"
	"testing"

	"loop.example/g00567/impl"
)

// A model is a replica written down as the document describes it, everything by sender and view.
type model struct {
	n, id, own, view, left, done int
	lock                         impl.Vote
	voted                        map[int]int
	cast                         map[[3]int]int         // by kind, view and sender
	reports                      map[[2]int]impl.Report // by view and sender
	views                        map[int]bool           // with an element in Heard
	sent                         []impl.Msg
}

var castKinds = []int{impl.MsPropose, impl.MsVote, impl.MsReady, impl.MsDone}

func modelOf(r impl.Rep) *model {
	x := &model{n: r.N, id: r.Id, own: r.Own, view: r.View, left: r.Left, done: r.Done, lock: r.Lock}
	x.voted, x.cast, x.reports, x.views = map[int]int{}, map[[3]int]int{}, map[[2]int]impl.Report{}, map[int]bool{}
	for _, v := range r.Voted {
		x.voted[v.View] = v.Val
	}
	for i, kind := range castKinds {
		for _, b := range tallies(&r)[i].L {
			x.cast[[3]int{kind, b.View, b.From}] = b.Val
		}
	}
	for _, h := range r.Heard {
		x.views[h.View] = true
		for _, report := range h.L {
			x.reports[[2]int{h.View, report.From}] = report
		}
	}
	return x
}

func (x *model) rep() impl.Rep {
	r := impl.Rep{N: x.n, Id: x.id, Own: x.own, View: x.view, Left: x.left, Done: x.done, Lock: x.lock, Voted: x.votesNow()}
	for i, kind := range castKinds {
		for view := range 10 {
			for from := range x.n {
				if val := x.cast[[3]int{kind, view, from}]; val != 0 {
					tallies(&r)[i].L = append(tallies(&r)[i].L, ballot(from, view, val))
				}
			}
		}
	}
	for view := range 10 {
		if x.views[view] {
			r.Heard = append(r.Heard, heard(view, x.listing(view).l...))
		}
	}
	return r
}

func (x *model) votesNow() []impl.Vote {
	var l []impl.Vote
	for view, val := range x.voted {
		l = append(l, impl.Vote{View: view, Val: val})
	}
	slices.SortFunc(l, func(a, b impl.Vote) int { return cmp.Compare(a.View, b.View) })
	return l
}

func (x *model) listing(view int) listing {
	out := listing{n: x.n, view: view}
	for from := range x.n {
		if r, ok := x.reports[[2]int{view, from}]; ok {
			out.l = append(out.l, r)
		}
	}
	return out
}

func (x *model) record(from int, m impl.Msg) {
	if m.Kind == impl.MsReport {
		x.views[m.View] = true
		if _, ok := x.reports[[2]int{m.View, from}]; !ok {
			x.reports[[2]int{m.View, from}] = impl.Report{From: from, Lock: m.Lock, Votes: m.Votes}
		}
		return
	}
	at := [3]int{m.Kind, m.View, from}
	if m.Kind == impl.MsPropose && from != m.View%x.n || x.cast[at] != 0 {
		return
	}
	x.cast[at] = m.Val
}

func (x *model) send(m impl.Msg) {
	x.record(x.id, m)
	x.sent = append(x.sent, m)
}

func (x *model) enter(view int) {
	m := report(view, x.lock, x.votesNow()...)
	x.view, x.left = view, 3+view
	x.send(m)
}

// winner returns the smallest value with so many ballots, or 0.
func (x *model) winner(kind, view, need int) int {
	for val := 1; val <= 60; val++ {
		n := 0
		for from := range x.n {
			if x.cast[[3]int{kind, view, from}] == val {
				n++
			}
		}
		if n >= need {
			return val
		}
	}
	return 0
}

func (x *model) proposal() int {
	if x.view == 0 {
		return x.own
	}
	val, _ := x.listing(x.view).choose(x.own)
	return val
}

func (x *model) decision() int {
	if val := x.winner(impl.MsDone, 0, weakOf(x.n)); val != 0 {
		return val
	}
	for view := range 10 {
		if val := x.winner(impl.MsReady, view, strongOf(x.n)); val != 0 {
			return val
		}
	}
	return 0
}

// act takes the first action that is possible, if one is.
func (x *model) act() bool {
	leader := x.view % x.n
	proposed := x.cast[[3]int{impl.MsPropose, x.view, leader}]
	won := x.winner(impl.MsVote, x.view, strongOf(x.n))
	to := joinable(x.rep())
	switch {
	case to > x.view:
		x.enter(to)
	case leader == x.id && proposed == 0 && x.proposal() != 0:
		x.send(proposing(x.view, x.proposal()))
	case proposed != 0 && x.voted[x.view] == 0 && (x.view == 0 || x.listing(x.view).safe(proposed)):
		x.voted[x.view] = proposed
		x.send(voting(x.view, proposed))
	case won != 0 && x.lock != lockOn(x.view, won):
		x.lock = lockOn(x.view, won)
		x.send(readying(x.view, won))
	case x.done == 0 && x.decision() != 0:
		x.done = x.decision()
		x.send(deciding(x.done))
	default:
		return false
	}
	return true
}

func (x *model) finish() (impl.Rep, []impl.Msg) {
	for x.act() {
	}
	return x.rep(), x.sent
}

func (x *model) hear(from int, m impl.Msg) (impl.Rep, []impl.Msg) {
	x.record(from, m)
	return x.finish()
}

func (x *model) tick() (impl.Rep, []impl.Msg) {
	if x.left > 1 {
		x.left--
		return x.rep(), nil
	}
	if x.done != 0 || x.view == 9 {
		return x.rep(), nil
	}
	x.enter(x.view + 1)
	return x.finish()
}

// A course takes replicas through events and counts what they sent; it checks each step against the model and the promises.
type course struct {
	t    *testing.T
	next func(int) int
	sent map[int]int // by kind
	late map[int]int // by kind, of decided replicas
	most int         // messages at once
}

func newCourse(t *testing.T) *course {
	return &course{t: t, next: recurrence(), sent: map[int]int{}, late: map[int]int{}}
}

func (c *course) hear(r impl.Rep, from int, m impl.Msg) impl.Rep {
	c.t.Helper()
	got, sent := impl.RepHear(r, from, m)
	want, wantSent := modelOf(r).hear(from, m)
	c.check(r, got, want, sent, wantSent)
	if impl.JoinView(got) != got.View {
		c.t.Fatal(got, "has a view left to join")
	}
	return got
}

func (c *course) tick(r impl.Rep) impl.Rep {
	c.t.Helper()
	got, sent := impl.RepTick(r)
	want, wantSent := modelOf(r).tick()
	c.check(r, got, want, sent, wantSent)
	return got
}

func (c *course) check(r, got, want impl.Rep, sent, wantSent []impl.Msg) {
	c.t.Helper()
	if !sameRep(got, want) || !sameMsgs(sent, wantSent) {
		c.t.Fatalf("of    %v:\ngot   %v,\nwant  %v;\nsent  %v,\nwant  %v", r, got, want, sent, wantSent)
	}
	if wrong := wrongStep(r, got, sent); wrong != "" {
		c.t.Fatalf("from %v to %v with %v: %s", r, got, sent, wrong)
	}
	if impl.JoinView(got) != joinable(got) {
		c.t.Fatal(got, "JoinView", impl.JoinView(got))
	}
	for _, m := range sent {
		c.sent[m.Kind]++
		if r.Done != 0 {
			c.late[m.Kind]++
		}
	}
	c.most = max(c.most, len(sent))
	c.wantReport(got)
}

// wantReport checks what r would report.
func (c *course) wantReport(r impl.Rep) {
	c.t.Helper()
	view := 1 + c.next(9)
	m, ok := impl.ReportOf(r, view)
	if ok != (view > r.View) || ok && !sameMsg(m, report(view, r.Lock, r.Voted...)) || !ok && !zeroMsg(m) {
		c.t.Fatal(r, view, m, ok)
	}
}

// wantVariety checks that the course had the steps for which it was made.
func (c *course) wantVariety() {
	c.t.Helper()
	for kind := impl.MsPropose; kind <= impl.MsDone; kind++ {
		if c.sent[kind] < 20 || kind != impl.MsDone && c.late[kind] == 0 {
			c.t.Error("kind", kind, "was sent", c.sent[kind], "times, and by decided replicas", c.late[kind])
		}
	}
	if c.late[impl.MsDone] != 0 {
		c.t.Error("a decided replica decides")
	}
	if c.most < 3 {
		c.t.Error("at most", c.most, "messages at once")
	}
}

// mixedMsg is a valid message with one of few values, most often of a view near r's.
func (c *course) mixedMsg(r impl.Rep, kinds int) impl.Msg {
	val := []int{60, 9, 1, 30}[c.next(kinds)]
	view := min(9, r.View+c.next(2)*c.next(3))
	if c.next(6) == 0 {
		view = c.next(10)
	}
	switch kind := []int{0, 1, 1, 1, 2, 2, 3, 3, 3, 4}[c.next(10)]; kind {
	case impl.MsReport:
		x := mixedReport(c.next, 0, max(view, 1), kinds)
		return report(max(view, 1), x.Lock, x.Votes...)
	case impl.MsDone:
		return deciding(val)
	default:
		return plain(kind, view, val)
	}
}

// sender is another replica than r: the one that may propose if m is a proposal, most often.
func (c *course) sender(r impl.Rep, m impl.Msg) int {
	if from := m.View % r.N; m.Kind == impl.MsPropose && from != r.Id && c.next(5) != 0 {
		return from
	}
	return (r.Id + 1 + c.next(r.N-1)) % r.N
}

func TestReplicasFromTheirStart(t *testing.T) {
	c := newCourse(t)
	for i := range 24 {
		for _, n := range []int{4, 7} {
			for id := range n {
				r, _, ok := impl.RepNew(n, id, 9)
				if !ok {
					t.Fatal(n, id)
				}
				for range 60 {
					if c.next(8) == 0 {
						r = c.tick(r)
						continue
					}
					m := c.mixedMsg(r, 1+i%3)
					r = c.hear(r, c.sender(r, m), m)
				}
			}
		}
	}
	c.wantVariety()
}

// mixedTally has ballots of few values, those of r itself among them.
func (c *course) mixedTally(n, views, kinds int) impl.Tally {
	var x impl.Tally
	for view := range views {
		for from := range n {
			if c.next(3) == 0 {
				x.L = append(x.L, ballot(from, view, []int{60, 9, 1, 30}[c.next(kinds)]))
			}
		}
	}
	return x
}

// anyRep is a valid replica, though not always one that comes from RepNew.
func (c *course) anyRep(n, kinds int) impl.Rep {
	r := impl.Rep{N: n, Id: c.next(n), Own: 9, View: c.next(10)}
	r.Left = 1 + c.next(2)*c.next(3+r.View)
	x := mixedReport(c.next, 0, r.View+1, kinds)
	r.Lock, r.Voted = x.Lock, x.Votes
	r.Done = []int{0, 0, 0, 9, 60}[c.next(5)]
	r.Props = c.mixedTally(n, 10, kinds)
	r.Votes = c.mixedTally(n, 10, kinds)
	r.Readies = c.mixedTally(n, 10, kinds)
	r.Dones = c.mixedTally(n, c.next(2), kinds)
	for view := 1; view <= 9; view++ {
		if c.next(3) == 0 {
			continue
		}
		h := heard(view)
		for from := range n {
			if c.next(4) < 1+2*c.next(2) && (view <= r.View || c.next(3) == 0) {
				h.L = append(h.L, mixedReport(c.next, from, view, kinds))
			}
		}
		r.Heard = append(r.Heard, h)
	}
	return r
}

func TestAnyValidReplica(t *testing.T) {
	c := newCourse(t)
	for i := range 3000 {
		r := c.anyRep(4+i%2*3, 1+i%4)
		if !impl.RepOk(r) {
			t.Fatal(r)
		}
		m := c.mixedMsg(r, 1+i%4)
		c.hear(r, c.sender(r, m), m)
		c.tick(r)
		r.Left = 1
		c.tick(r)
	}
	c.wantVariety()
}

// A net is a cluster of honest replicas with one queue for all messages on their way.
type net struct {
	c    *course
	reps []impl.Rep
	way  []letter
}

type letter struct {
	from, to int
	m        impl.Msg
}

func newNet(t *testing.T, n int) *net {
	x := &net{c: newCourse(t)}
	for id := range n {
		r, sent, _ := impl.RepNew(n, id, 10+id)
		x.reps = append(x.reps, r)
		x.post(n, id, sent)
	}
	return x
}

func (x *net) post(n, from int, sent []impl.Msg) {
	for _, m := range sent {
		for to := range n {
			if to != from {
				x.way = append(x.way, letter{from, to, m})
			}
		}
	}
}

// deliverAll delivers what is on its way, but to and from the silent, at any place of the queue.
func (x *net) deliverAll(silent ...int) {
	for len(x.way) > 0 {
		at := x.c.next(min(len(x.way), 5))
		l := x.way[at]
		x.way = slices.Delete(x.way, at, at+1)
		if slices.Contains(silent, l.from) || slices.Contains(silent, l.to) {
			continue
		}
		_, sent := impl.RepHear(x.reps[l.to], l.from, l.m)
		x.reps[l.to] = x.c.hear(x.reps[l.to], l.from, l.m)
		x.post(len(x.reps), l.to, sent)
	}
}

func (x *net) tickAll() {
	for id, r := range x.reps {
		_, sent := impl.RepTick(r)
		x.reps[id] = x.c.tick(r)
		x.post(len(x.reps), id, sent)
	}
}

func TestReplicasDecideTogether(t *testing.T) {
	for _, n := range []int{4, 7} {
		x := newNet(t, n)
		x.deliverAll()
		for _, r := range x.reps {
			if r.Done != 10 || r.View != 0 || r.Lock != lockOn(0, 10) || impl.Waits(r) {
				t.Error(r)
			}
		}
	}
}

// Without the first leaders the next one's value is decided; what happens in their views is the timers running out.
func TestReplicasDecideWithoutTheFirstLeaders(t *testing.T) {
	for n, silent := range map[int][]int{4: {0}, 7: {0, 1}} {
		x := newNet(t, n)
		for range 3 + 4*(len(silent)-1) {
			x.deliverAll(silent...)
			x.tickAll()
		}
		x.deliverAll(silent...)
		for id, r := range x.reps {
			if !slices.Contains(silent, id) && (r.Done != 10+len(silent) || r.View != len(silent)) {
				t.Error(r)
			}
		}
	}
}

// Replica 3 alone decides in view 0, and tells nobody; without the leader of that view the others decide the same later.
func TestDecisionSurvivesItsView(t *testing.T) {
	x := newNet(t, 4)
	for id := 1; id < 4; id++ {
		x.reps[id] = x.c.hear(x.reps[id], 0, proposing(0, 10))
		for _, from := range []int{1, 2, 3} {
			if from != id {
				x.reps[id] = x.c.hear(x.reps[id], from, voting(0, 10))
			}
		}
	}
	for _, from := range []int{1, 2} {
		x.reps[3] = x.c.hear(x.reps[3], from, readying(0, 10))
	}
	if x.reps[1].Done != 0 || x.reps[2].Done != 0 || x.reps[3].Done != 10 {
		t.Fatal(x.reps)
	}
	x.way = nil
	for range 7 {
		x.tickAll()
	}
	x.deliverAll(0)
	for id := 1; id < 4; id++ {
		if x.reps[id].Done != 10 {
			t.Error(x.reps[id])
		}
	}
}
