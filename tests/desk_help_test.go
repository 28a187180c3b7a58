package tests

import (
	"math"
	"slices"
	"strconv"
	"testing"

	"loop.example/g00567/impl"
)

var (
	actWords = []string{"deliver", "lose", "twice", "later", "tick", "lie", "flush"}
	actKinds = []int{-1, 0, 1, 2, 3, 4, 5, 6, 7}
	noKinds  = []int{math.MinInt, -7, -1, 7, 8, 256, 256 + 4, math.MaxInt}
)

func linkAct(kind, from, to int) impl.Act { return impl.Act{Kind: kind, From: from, To: to} }

func deliver(from, to int) impl.Act { return linkAct(impl.AcDeliver, from, to) }

func tick(id int) impl.Act { return impl.Act{Kind: impl.AcTick, From: id} }

func lieOf(from, to int, b []byte) impl.Act {
	return impl.Act{Kind: impl.AcLie, From: from, To: to, B: b}
}

func lie(from, to int, m impl.Msg) impl.Act { return lieOf(from, to, bytesOf(m)) }

var flush = impl.Act{Kind: impl.AcFlush}

// fits is what the document demands of an act for a valid cluster.
func fits(n int, bad []bool, a impl.Act) bool {
	within := func(id int) bool { return id >= 0 && id < n }
	switch a.Kind {
	case 0, 1, 2, 3:
		return within(a.From) && within(a.To) && a.From != a.To && len(a.B) == 0
	case 4:
		return within(a.From) && a.To == 0 && len(a.B) == 0
	case 5:
		return within(a.From) && within(a.To) && a.From != a.To && bad[a.From] && len(a.B) < 101
	case 6:
		return a.From == 0 && a.To == 0 && len(a.B) == 0
	}
	return false
}

// act changes the world by an act that is valid for it, and reports whether it had an effect.
func (w *world) act(a impl.Act) bool {
	if a.Kind == 6 {
		return w.flush() > 0
	}
	return w.do(deedOf(a))
}

func deedOf(a impl.Act) deed { return deed{actWords[a.Kind], a.From, a.To, a.B} }

// alone does an act without a script.
func alone(c impl.Cluster, a impl.Act) (impl.Cluster, bool) {
	if a.Kind == 6 {
		flushed, n := impl.Flush(c)
		return flushed, n > 0
	}
	return deedOf(a).do(c)
}

// wantDo does an act that is valid for c, and checks its results against the world's.
func wantDo(t *testing.T, c impl.Cluster, a impl.Act) (impl.Cluster, bool) {
	t.Helper()
	w := worldOf(c)
	wantOk := w.act(a)
	got, ok := impl.Do(c, a)
	if ok != wantOk || !sameCluster(got, w.cluster()) {
		t.Fatalf("%v of %v:\ngot  %v %v,\nwant %v %v", a, c, got, ok, w.cluster(), wantOk)
	}
	if !ok && !sameCluster(got, c) {
		t.Fatalf("%v of %v:\ngot %v without effect", a, c, got)
	}
	return got, ok
}

// oneByOne does the acts with Do, and returns the indices of those that had an effect.
func oneByOne(c impl.Cluster, l []impl.Act) (impl.Cluster, []int) {
	var useful []int
	for i, a := range l {
		var ok bool
		if c, ok = impl.Do(c, a); ok {
			useful = append(useful, i)
		}
	}
	return c, useful
}

// wantScript runs a script and checks all that is known of it.
func wantScript(t *testing.T, c impl.Cluster, l []impl.Act, want impl.Cluster, wantUseful []int) {
	t.Helper()
	got, n, ok := impl.Run(c, l)
	if !ok || n != len(wantUseful) || !sameCluster(got, want) {
		t.Fatalf("Run of %v with %v:\ngot  %v %v %v,\nwant %v %v", c, l, got, n, ok, want, len(wantUseful))
	}
	if useful := impl.Useful(c, l); !slices.Equal(useful, wantUseful) {
		t.Fatalf("Useful of %v with %v: got %v, want %v", c, l, useful, wantUseful)
	}
}

func wantNoScript(t *testing.T, c impl.Cluster, l []impl.Act) {
	t.Helper()
	if got, n, ok := impl.Run(c, l); ok || n != 0 || !zeroCluster(got) {
		t.Errorf("Run of %v with %v acts: %v %v %v", c, len(l), got, n, ok)
	}
	if useful := impl.Useful(c, l); len(useful) != 0 {
		t.Errorf("Useful of %v with %v acts: %v", c, len(l), useful)
	}
}

// everyAct returns all acts that are valid for c, with lies of that message and of no message.
func everyAct(c impl.Cluster, m impl.Msg) []impl.Act {
	l := []impl.Act{flush}
	for id := range c.N {
		l = append(l, tick(id))
	}
	for _, at := range linksOf(c.N) {
		for kind := impl.AcDeliver; kind <= impl.AcLater; kind++ {
			l = append(l, linkAct(kind, at[0], at[1]))
		}
		if c.Bad[at[0]] {
			l = append(l, lie(at[0], at[1], m), lieOf(at[0], at[1], nil), lieOf(at[0], at[1], make([]byte, 100)))
		}
	}
	return l
}

// unfitActs are not valid for c, by what is wrong. The replica 0 must be honest, and 1 faulty.
func unfitActs(n int) map[string]impl.Act {
	all := map[string]impl.Act{
		"a lie of an honest one":            lie(0, 1, voting(0, 5)),
		"a lie of an honest one of nothing": lieOf(0, 1, nil),
		"a lie of 101 bytes":                lieOf(1, 0, make([]byte, 101)),
		"a lie of a message and many bytes": lieOf(1, 0, append(bytesOf(voting(0, 5)), make([]byte, 95)...)),
		"a lie of a million bytes":          lieOf(1, 0, make([]byte, 1<<20)),
		"a tick of -1":                      tick(-1),
		"a tick of n":                       tick(n),
		"a tick with To":                    {Kind: impl.AcTick, From: 1, To: 2},
		"a tick with To -1":                 {Kind: impl.AcTick, From: 1, To: -1},
		"a tick with B":                     {Kind: impl.AcTick, From: 1, B: []byte{0}},
		"a flush with From":                 {Kind: impl.AcFlush, From: 1},
		"a flush with From -1":              {Kind: impl.AcFlush, From: -1},
		"a flush with To":                   {Kind: impl.AcFlush, To: 1},
		"a flush with To -1":                {Kind: impl.AcFlush, To: -1},
		"a flush with B":                    {Kind: impl.AcFlush, B: []byte{0}},
	}
	for _, kind := range noKinds {
		all["kind "+strconv.Itoa(kind)] = linkAct(kind, 1, 0)
		all["kind "+strconv.Itoa(kind)+" alone"] = impl.Act{Kind: kind}
	}
	for _, kind := range []int{0, 1, 2, 3, 5} {
		for _, at := range [][2]int{{1, 1}, {0, 0}, {1, -1}, {-1, 1}, {1, n}, {n, 1}, {n - 1, n - 1}, {-1, -1}, {n, n}, {math.MinInt, 0}, {1, math.MaxInt}} {
			all[actWords[kind]+" from "+strconv.Itoa(at[0])+" to "+strconv.Itoa(at[1])] = linkAct(kind, at[0], at[1])
		}
		if kind != 5 {
			all[actWords[kind]+" with B"] = impl.Act{Kind: kind, From: 1, To: 0, B: []byte{0}}
			all[actWords[kind]+" with a message"] = impl.Act{Kind: kind, From: 1, To: 0, B: bytesOf(voting(0, 5))}
		}
	}
	return all
}

// scriptClusters are clusters on which the acts of a script have effects of every kind.
func scriptClusters(t *testing.T) []impl.Cluster {
	t.Helper()
	return []impl.Cluster{
		started(t, 4), started(t, 4, 0), started(t, 4, 1), started(t, 7, 3), started(t, 7, 0, 6),
		busyCluster(4, 2), busyCluster(7, 0, 3), restlessCluster(4, 3), readyAndDone(),
		lengthCluster(4, 3, 1), lengthCluster(4, 80, 0), idleCluster(4, 8, 3), stuckCluster(7, 1),
	}
}

// mixedScript has acts of every kind that are valid for c, most often deliveries.
func mixedScript(next func(int) int, c impl.Cluster, size int) []impl.Act {
	var l []impl.Act
	msgs := []impl.Msg{exampleReport(), voting(0, 10), proposing(0, 11), readying(0, 10), deciding(12), reporting(1), proposing(1, 9)}
	for range size {
		from := next(c.N)
		to := (from + 1 + next(c.N-1)) % c.N
		switch k := next(30); {
		case k < 18:
			l = append(l, deliver(from, to))
		case k < 22:
			l = append(l, linkAct(impl.AcLose+next(3), from, to))
		case k < 26:
			l = append(l, tick(from))
		case k == 26:
			l = append(l, flush)
		case !c.Bad[from]:
			l = append(l, linkAct(impl.AcLater, from, to))
		case k == 27:
			l = append(l, lieOf(from, to, []byte{byte(next(6)), byte(next(10)), byte(next(61)), 0, 0, 0}[:next(7)]))
		default:
			l = append(l, lie(from, to, msgs[next(len(msgs))]))
		}
	}
	return l
}

func sameAct(a, b impl.Act) bool {
	return a.Kind == b.Kind && a.From == b.From && a.To == b.To && slices.Equal(a.B, b.B)
}

func sameScript(a, b []impl.Act) bool { return slices.EqualFunc(a, b, sameAct) }

// spareScript returns l with room behind it and behind the bytes of its acts, and what tells whether any of that was written.
func spareScript(l []impl.Act) ([]impl.Act, func() bool) {
	all := append(slices.Clone(l), linkAct(88, 89, 90), flush, lie(1, 1, voting(0, 5)))
	var rooms [][]byte
	for i := range all {
		var room []byte
		all[i].B, room = spareBytes(all[i].B)
		rooms = append(rooms, room)
	}
	before, kept := slices.Clone(all), clones(rooms)
	return all[:len(l)], func() bool {
		return sameScript(all, before) && slices.EqualFunc(rooms, kept, slices.Equal[[]byte])
	}
}

func scriptSpans(of string, l []impl.Act) []span {
	all := []span{spanOf(of+" acts", l)}
	for i, a := range l {
		all = append(all, spanOf(of+" bytes of act "+strconv.Itoa(i), a.B))
	}
	return all
}
