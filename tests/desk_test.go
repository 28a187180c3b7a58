package tests

import (
	"math"
	"slices"
	"testing"

	"loop.example/g00567/impl"
)

func TestDeskConstants(t *testing.T) {
	if impl.MaxScript != 200 {
		t.Error(impl.MaxScript)
	}
	kinds := []int{impl.AcDeliver, impl.AcLose, impl.AcTwice, impl.AcLater, impl.AcTick, impl.AcLie, impl.AcFlush}
	if !slices.Equal(kinds, []int{0, 1, 2, 3, 4, 5, 6}) {
		t.Error(kinds)
	}
}

func TestActOk(t *testing.T) {
	said := [][]byte{nil, {}, {0}, bytesOf(exampleReport()), make([]byte, 99), make([]byte, 100), make([]byte, 101), make([]byte, 1<<16)}
	for _, c := range []impl.Cluster{
		idleCluster(4, 0), idleCluster(4, 0, 0), idleCluster(4, 9, 3), lengthCluster(4, 80, 2), silentCluster(7, 5),
		idleCluster(7, 0), idleCluster(7, 3, 0, 6), idleCluster(7, 0, 1, 4),
	} {
		for _, kind := range append(slices.Clone(actKinds), noKinds...) {
			for _, from := range []int{math.MinInt, -1, 0, 1, c.N - 1, c.N, 6, 7, 256, math.MaxInt} {
				for _, to := range []int{math.MinInt, -1, 0, 1, c.N - 1, c.N, 6, 7, 256, math.MaxInt} {
					for _, b := range said {
						a := impl.Act{Kind: kind, From: from, To: to, B: b}
						if got := impl.ActOk(c, a); got != fits(c.N, c.Bad, a) {
							t.Fatal(c, kind, from, to, len(b), got)
						}
					}
				}
			}
		}
	}
}

func TestActOkByHand(t *testing.T) {
	c := started(t, 4, 3)
	byte0 := []byte{0}
	for _, x := range []struct {
		a    impl.Act
		want bool
	}{
		{impl.Act{}, false}, // from 0 to itself
		{impl.Act{Kind: 0, From: 0, To: 1}, true},
		{impl.Act{Kind: 0, From: 3, To: 0}, true},
		{impl.Act{Kind: 0, From: 0, To: 3}, true},
		{impl.Act{Kind: 0, From: 0, To: 4}, false},
		{impl.Act{Kind: 0, From: -1, To: 0}, false},
		{impl.Act{Kind: 0, From: 2, To: 2}, false},
		{impl.Act{Kind: 0, From: 2, To: 1, B: byte0}, false},
		{impl.Act{Kind: 1, From: 2, To: 1}, true},
		{impl.Act{Kind: 1, From: 2, To: 1, B: byte0}, false},
		{impl.Act{Kind: 2, From: 2, To: 1}, true},
		{impl.Act{Kind: 2, From: 2, To: 1, B: byte0}, false},
		{impl.Act{Kind: 3, From: 2, To: 1}, true},
		{impl.Act{Kind: 3, From: 2, To: 1, B: byte0}, false},
		{impl.Act{Kind: 3, From: 2, To: 1, B: []byte{}}, true},
		{impl.Act{Kind: 4}, true},
		{impl.Act{Kind: 4, From: 3}, true}, // the faulty one too
		{impl.Act{Kind: 4, From: 4}, false},
		{impl.Act{Kind: 4, From: -1}, false},
		{impl.Act{Kind: 4, From: 2, To: 1}, false},
		{impl.Act{Kind: 4, From: 2, To: 2}, false},
		{impl.Act{Kind: 4, From: 2, To: -1}, false},
		{impl.Act{Kind: 4, From: 2, B: byte0}, false},
		{impl.Act{Kind: 5, From: 3, To: 0}, true},
		{impl.Act{Kind: 5, From: 3, To: 0, B: byte0}, true},
		{impl.Act{Kind: 5, From: 3, To: 0, B: make([]byte, 100)}, true},
		{impl.Act{Kind: 5, From: 3, To: 0, B: make([]byte, 101)}, false},
		{impl.Act{Kind: 5, From: 3, To: 3, B: byte0}, false},
		{impl.Act{Kind: 5, From: 3, To: 4, B: byte0}, false},
		{impl.Act{Kind: 5, From: 4, To: 3, B: byte0}, false},
		{impl.Act{Kind: 5, From: 0, To: 3, B: byte0}, false},
		{impl.Act{Kind: 5, From: 2, To: 1}, false},
		{impl.Act{Kind: 6}, true},
		{impl.Act{Kind: 6, B: []byte{}}, true},
		{impl.Act{Kind: 6, From: 1}, false},
		{impl.Act{Kind: 6, To: 1}, false},
		{impl.Act{Kind: 6, From: 1, To: 2}, false},
		{impl.Act{Kind: 6, B: byte0}, false},
		{impl.Act{Kind: 7}, false},
		{impl.Act{Kind: 7, From: 3, To: 0}, false},
		{impl.Act{Kind: -1, From: 3, To: 0}, false},
	} {
		if got := impl.ActOk(c, x.a); got != x.want {
			t.Error(x.a, got)
		}
	}
}

// The replicas 4 to 6 are there in a cluster of 7, and faulty ones are another matter in each cluster.
func TestActOkDependsOnTheCluster(t *testing.T) {
	if impl.ActOk(idleCluster(4, 0), deliver(5, 6)) || !impl.ActOk(idleCluster(7, 0), deliver(5, 6)) {
		t.Error("from 5 to 6")
	}
	for _, n := range []int{4, 7} {
		for _, faulty := range faultySets(n) {
			c := idleCluster(n, 2, faulty...)
			for id := range n {
				said := lie(id, (id+1)%n, voting(0, 5))
				if got := impl.ActOk(c, said); got != slices.Contains(faulty, id) {
					t.Error(n, faulty, id, got)
				}
				if !impl.ActOk(c, tick(id)) {
					t.Error(n, faulty, id)
				}
			}
		}
	}
}

func TestUnfitActs(t *testing.T) {
	for _, c := range []impl.Cluster{started(t, 4, 1), busyCluster(4, 1), lengthCluster(4, 80, 1), started(t, 7, 1), busyCluster(7, 1, 6), silentCluster(7, 1)} {
		for name, a := range unfitActs(c.N) {
			if impl.ActOk(c, a) {
				t.Error(c.N, name)
			}
			if got, ok := impl.Do(c, a); ok || !zeroCluster(got) {
				t.Error(c.N, name, got, ok)
			}
			wantNoScript(t, c, []impl.Act{a})
		}
	}
}

func TestInvalidClustersHaveNoScripts(t *testing.T) {
	for name, c := range invalidClusters() {
		all := []impl.Act{{}, deliver(0, 1), linkAct(impl.AcLose, 1, 0), linkAct(impl.AcTwice, 2, 3), linkAct(impl.AcLater, 1, 2), tick(1), lie(1, 0, voting(0, 5)), lie(6, 0, voting(0, 5)), flush, tick(-1), {Kind: 7}}
		for _, a := range all {
			if impl.ActOk(c, a) {
				t.Error(name, a)
			}
			if got, ok := impl.Do(c, a); ok || !zeroCluster(got) {
				t.Error(name, a, ok)
			}
		}
		for _, l := range [][]impl.Act{nil, {}, {flush}, all[1:9], slices.Repeat([]impl.Act{tick(1)}, 201)} {
			if got, n, ok := impl.Run(c, l); ok || n != 0 || !zeroCluster(got) {
				t.Error(name, len(l), n, ok)
			}
			if useful := impl.Useful(c, l); len(useful) != 0 {
				t.Error(name, len(l), useful)
			}
		}
		if text := impl.ClusterText(c); len(text) != 0 {
			t.Error(name, string(text))
		}
	}
}

// Every act on links with no message, with one, with several, and with as many as there is room for.
func TestDo(t *testing.T) {
	t.Parallel()
	seen := map[string]int{}
	clusters := append(scriptClusters(t), silentCluster(4, 2), doneCluster([]int{1}, 7, 0, 7, 7))
	for _, count := range []int{0, 1, 2, 3, 79, 80} {
		clusters = append(clusters, lengthCluster(4, count), lengthCluster(4, count, 3), lengthCluster(7, count, 0, 5))
	}
	for _, c := range clusters {
		for i, a := range everyAct(c, exampleReport()) {
			if c.N == 7 && i%3 == 0 && i > 7 {
				continue // there are many
			}
			got, ok := wantDo(t, c, a)
			want, wantOk := alone(c, a)
			wantCluster(t, got, ok, want, wantOk)
			if !impl.ActOk(c, a) {
				t.Fatal(c, a)
			}
			if ok {
				seen[actWords[a.Kind]+" with effect"]++
			} else {
				seen[actWords[a.Kind]+" without effect"]++
			}
		}
	}
	t.Log(seen)
	for _, word := range actWords {
		wantSeen(t, seen, 5, word+" with effect", word+" without effect")
	}
}

func TestDoByHand(t *testing.T) {
	c := started(t, 4, 3)
	a, b := proposing(0, 10), voting(0, 10) // on each link of 0
	for _, x := range []struct {
		a    impl.Act
		from int
		want []impl.Msg // on the link from that one to 1
		ok   bool
	}{
		{linkAct(1, 0, 1), 0, []impl.Msg{b}, true},
		{linkAct(2, 0, 1), 0, []impl.Msg{a, b, a}, true},
		{linkAct(3, 0, 1), 0, []impl.Msg{b, a}, true},
		{linkAct(1, 2, 1), 2, nil, false},
		{linkAct(2, 2, 1), 2, nil, false},
		{linkAct(3, 2, 1), 2, nil, false},
		{deliver(2, 1), 2, nil, false},
		{lie(3, 1, deciding(9)), 3, []impl.Msg{deciding(9)}, true},
		{lieOf(3, 1, nil), 3, nil, false},
	} {
		want := cloneCluster(c)
		setLink(&want, x.from, 1, x.want)
		got, ok := impl.Do(c, x.a)
		wantCluster(t, got, ok, want, x.ok)
	}

	want := cloneCluster(c)
	want.Reps[1].Voted, want.Reps[1].Props, want.Reps[1].Votes = votes(0, 10), tally(0, 0, 10), tally(1, 0, 10)
	setLink(&want, 0, 1, []impl.Msg{b})
	for _, to := range []int{0, 2, 3} {
		setLink(&want, 1, to, []impl.Msg{b})
	}
	got, ok := impl.Do(c, deliver(0, 1))
	wantCluster(t, got, ok, want, true)

	want = cloneCluster(c)
	want.Reps[1].Left = 2
	got, ok = impl.Do(c, tick(1))
	wantCluster(t, got, ok, want, true)
	got, ok = impl.Do(c, tick(3))
	wantCluster(t, got, ok, c, false)
}

// A lie of bytes that encode no message is valid, and has no effect.
func TestDoOfLies(t *testing.T) {
	good := bytesOf(exampleReport())
	for n, c := range map[int]impl.Cluster{4: busyCluster(4, 2), 7: busyCluster(7, 0, 2)} {
		for _, to := range []int{0, 1, 3, n - 1} {
			for _, b := range [][]byte{nil, {}, {0}, good[:9], append(slices.Clone(good), 0), {1, 0, 61, 0, 0, 0}, {5, 0, 5, 0, 0, 0}, make([]byte, 99), make([]byte, 100), append(slices.Clone(good), make([]byte, 90)...)} {
				if got, ok := wantDo(t, c, lieOf(2, to, b)); ok || !impl.ActOk(c, lieOf(2, to, b)) {
					t.Error(n, to, b, got)
				}
			}
			for _, m := range []impl.Msg{exampleReport(), reporting(9), proposing(0, 1), voting(9, 60), readying(3, 7), deciding(4), report(9, lockOn(8, 60), votes(0, 1, 1, 2, 2, 3, 3, 4, 4, 5, 5, 6, 6, 7, 7, 8, 8, 60)...)} {
				got, ok := wantDo(t, c, lie(2, to, m))
				want := append(cloneMsgs(onLink(c, 2, to)), m)
				if !ok || !sameMsgs(onLink(got, 2, to), want) {
					t.Error(n, to, m, got)
				}
				full := changedCluster(c, func(c *impl.Cluster) { setLink(c, 2, to, numbered(80)) })
				if got, ok := wantDo(t, full, lie(2, to, m)); ok {
					t.Error(n, to, m, got)
				}
			}
		}
	}
}

func TestDoOfAFlush(t *testing.T) {
	for _, n := range []int{4, 7} {
		for _, faulty := range faultySets(n) {
			for _, c := range []impl.Cluster{started(t, n, faulty...), idleCluster(n, 3, faulty...), busyCluster(n, faulty...)} {
				want, count := impl.Flush(c)
				got, ok := impl.Do(c, flush)
				wantCluster(t, got, ok, want, count > 0)
				if impl.Waiting(got) != 0 || ok == impl.Quiet(c) {
					t.Error(n, faulty, got, ok)
				}
				again, ok := impl.Do(got, flush)
				wantCluster(t, again, ok, got, false)
			}
			c := idleCluster(n, 3, faulty...)
			setLink(&c, n-1, n-2, []impl.Msg{voting(0, 5)}) // the last link with a message
			got, ok := wantDo(t, c, flush)
			if !ok || !impl.Quiet(got) {
				t.Error(n, faulty, got, ok)
			}
		}
	}
}

func TestRunIsDoneOneByOne(t *testing.T) {
	t.Parallel()
	next := recurrence()
	for i := range 5 {
		for _, c := range scriptClusters(t) {
			l := mixedScript(next, c, []int{1, 2, 17, 60, 200}[i])
			want, useful := oneByOne(c, l)
			wantScript(t, c, l, want, useful)
			w := worldOf(c)
			var acted []int
			for k, a := range l {
				if w.act(a) {
					acted = append(acted, k)
				}
			}
			wantScript(t, c, l, w.cluster(), acted)
			if i > 1 && len(useful) == 0 {
				t.Error(c, l, "has no effect")
			}
		}
	}
}

// wantParts checks a script that is divided at each place: the rest goes on where the first part ended.
func wantParts(t *testing.T, c impl.Cluster, l []impl.Act) {
	t.Helper()
	whole, n, ok := impl.Run(c, l)
	useful := impl.Useful(c, l)
	if !ok {
		t.Fatal(c, l)
	}
	for at := range len(l) + 1 {
		first, n1, ok1 := impl.Run(c, l[:at])
		rest, n2, ok2 := impl.Run(first, l[at:])
		if !ok1 || !ok2 || n1+n2 != n || !sameCluster(rest, whole) {
			t.Fatalf("%v with %v divided at %v: %v %v of %v", c, l, at, n1, n2, n)
		}
		parts := impl.Useful(c, l[:at])
		for _, i := range impl.Useful(first, l[at:]) {
			parts = append(parts, at+i)
		}
		if !slices.Equal(parts, useful) {
			t.Fatalf("%v with %v divided at %v: %v, want %v", c, l, at, parts, useful)
		}
	}
}

func TestRunInParts(t *testing.T) {
	t.Parallel()
	next := recurrence()
	for _, c := range scriptClusters(t) {
		for _, size := range []int{0, 1, 2, 30} {
			wantParts(t, c, mixedScript(next, c, size))
		}
	}
	wantParts(t, started(t, 4, 3), mixedScript(next, started(t, 4, 3), 200))
}

// All scripts of two acts, on a cluster in which there is something to do.
func TestRunOfEveryTwoActs(t *testing.T) {
	t.Parallel()
	c, _ := oneByOne(started(t, 4, 3), []impl.Act{deliver(0, 1), deliver(0, 3), deliver(0, 3), tick(2), tick(2), deliver(0, 2), lie(3, 1, voting(0, 10))})
	all := everyAct(c, readying(0, 10))
	for _, a := range all {
		after, okA := impl.Do(c, a)
		for _, b := range all {
			want, okB := impl.Do(after, b)
			var useful []int
			if okA {
				useful = append(useful, 0)
			}
			if okB {
				useful = append(useful, 1)
			}
			wantScript(t, c, []impl.Act{a, b}, want, useful)
		}
	}
}

func TestRunByHand(t *testing.T) {
	c := started(t, 4, 3)
	l := []impl.Act{
		deliver(0, 1),               // 0: 1 votes
		deliver(1, 3),               // 1: its vote is lost on the faulty one
		deliver(1, 3),               // there is no other
		lie(3, 2, deciding(9)),      // 3
		lieOf(3, 2, []byte{9}),      // no message
		linkAct(1, 2, 1),            // there is none
		tick(3),                     // it is faulty
		linkAct(3, 0, 2),            // 7: the vote of 0 comes first
		linkAct(2, 3, 2),            // 8
		flush,                       // 9: all decide
		flush,                       // nothing is left
		deliver(0, 1),               // nothing is left
		tick(1),                     // 12
		linkAct(impl.AcLater, 0, 1), // nothing is left
	}
	got, n, ok := impl.Run(c, l)
	if !ok || n != 7 || impl.Decided(got) != 3 || !impl.Quiet(got) || got.Reps[1].Left != 2 {
		t.Error(n, ok, got)
	}
	if val, ok := impl.Verdict(got); !ok || val != 10 {
		t.Error(val, ok)
	}
	if useful := impl.Useful(c, l); !slices.Equal(useful, []int{0, 1, 3, 7, 8, 9, 12}) {
		t.Error(useful)
	}
	if lies := impl.Lies(l); lies != 2 {
		t.Error(lies)
	}
}

func TestRunOfNothing(t *testing.T) {
	for name, c := range validClusters() {
		for _, l := range [][]impl.Act{nil, {}} {
			wantScript(t, c, l, c, nil)
		}
		if lies := impl.Lies(nil); lies != 0 {
			t.Error(name, lies)
		}
	}
}

func TestRunUpToItsLimit(t *testing.T) {
	c := started(t, 4, 3)
	for _, a := range []impl.Act{tick(0), tick(3), flush, deliver(0, 1), linkAct(impl.AcTwice, 0, 1), linkAct(impl.AcLater, 0, 2), lie(3, 0, voting(0, 5)), lieOf(3, 1, nil)} {
		for _, size := range []int{199, 200, 201, 202, 400} {
			l := slices.Repeat([]impl.Act{a}, size)
			if size > 200 {
				wantNoScript(t, c, l)
				continue
			}
			want, useful := oneByOne(c, l)
			wantScript(t, c, l, want, useful)
		}
	}
	wantNoScript(t, c, slices.Repeat([]impl.Act{tick(0)}, 1<<20))
	wantNoScript(t, c, make([]impl.Act, 201))
}

// One act that is not valid spoils the script, wherever it stands.
func TestRunRefusesOneUnfitAct(t *testing.T) {
	for _, c := range []impl.Cluster{started(t, 4, 1), started(t, 7, 1, 2)} {
		good := []impl.Act{deliver(0, 1), tick(2), lie(1, 0, voting(0, 5)), linkAct(impl.AcTwice, 0, 2), flush, tick(1)}
		want, useful := oneByOne(c, good)
		wantScript(t, c, good, want, useful)
		for name, a := range unfitActs(c.N) {
			for at := range len(good) + 1 {
				l := slices.Insert(slices.Clone(good), at, a)
				if got, n, ok := impl.Run(c, l); ok || n != 0 || !zeroCluster(got) {
					t.Error(name, at, n, ok)
				}
				if useful := impl.Useful(c, l); len(useful) != 0 {
					t.Error(name, at, useful)
				}
			}
		}
		full := slices.Repeat([]impl.Act{tick(0)}, 200)
		for _, at := range []int{0, 1, 100, 199} {
			l := slices.Clone(full)
			l[at] = tick(c.N)
			wantNoScript(t, c, l)
		}
	}
}

// What is valid for a cluster of 7 need not be for one of 4.
func TestRunAsksTheCluster(t *testing.T) {
	l := []impl.Act{deliver(0, 1), deliver(0, 6), tick(4)}
	wantNoScript(t, started(t, 4), l)
	want, useful := oneByOne(started(t, 7), l)
	wantScript(t, started(t, 7), l, want, useful)
	l = []impl.Act{flush, lie(2, 0, deciding(9))}
	wantNoScript(t, started(t, 4), l)
	wantNoScript(t, started(t, 4, 3), l)
	want, useful = oneByOne(started(t, 4, 2), l)
	wantScript(t, started(t, 4, 2), l, want, useful)
}

func TestUseful(t *testing.T) {
	c := idleCluster(4, 0, 2)
	setLink(&c, 2, 1, numbered(2))
	for _, x := range []struct {
		l    []impl.Act
		want []int
	}{
		{[]impl.Act{flush}, []int{0}},
		{[]impl.Act{flush, flush}, []int{0}},
		{[]impl.Act{tick(2), flush}, []int{1}},
		{[]impl.Act{tick(2), tick(2), tick(2)}, nil},
		{[]impl.Act{tick(0), tick(1), tick(3)}, []int{0, 1, 2}},
		{[]impl.Act{deliver(2, 1), deliver(2, 1), deliver(2, 1)}, []int{0, 1}},
		{[]impl.Act{deliver(1, 2), linkAct(1, 2, 1), linkAct(1, 2, 1), linkAct(1, 2, 1), tick(0)}, []int{1, 2, 4}},
		{[]impl.Act{linkAct(1, 2, 1), linkAct(2, 2, 1), flush, linkAct(2, 2, 1), lie(2, 1, voting(0, 5)), flush}, []int{0, 1, 2, 4, 5}},
		{[]impl.Act{lieOf(2, 1, nil), lieOf(2, 1, []byte{1, 0, 5, 0, 0, 0}), lieOf(2, 1, []byte{1, 0, 5, 0, 0})}, []int{1}},
	} {
		want, useful := oneByOne(c, x.l)
		wantScript(t, c, x.l, want, x.want)
		if !slices.Equal(useful, x.want) {
			t.Error(x, useful)
		}
	}
}

func TestLies(t *testing.T) {
	for _, x := range []struct {
		l    []impl.Act
		want int
	}{
		{nil, 0},
		{[]impl.Act{}, 0},
		{[]impl.Act{flush, tick(1), deliver(0, 1), {}, {Kind: 7}, {Kind: -1}, {Kind: 256 + 5}}, 0},
		{[]impl.Act{{Kind: 5}}, 1},
		{[]impl.Act{lie(3, 0, voting(0, 5)), flush, lie(3, 1, voting(0, 5)), lieOf(3, 1, nil)}, 3},
		{[]impl.Act{{Kind: 5, From: -1, To: 99}, {Kind: 5, From: math.MinInt}, {Kind: 5, B: make([]byte, 1<<16)}}, 3}, // no cluster takes these
		{append([]impl.Act{flush, tick(0)}, slices.Repeat([]impl.Act{{Kind: 5, From: 9}}, 7)...), 7},
		{slices.Repeat([]impl.Act{{Kind: 5}}, 199), 199},
		{slices.Repeat([]impl.Act{{Kind: 5}}, 200), 200},
		{slices.Repeat([]impl.Act{{Kind: 5}, {Kind: 8}}, 100), 100},
		{slices.Repeat([]impl.Act{{Kind: 5}}, 201), 0},
		{append(make([]impl.Act, 200), impl.Act{Kind: 5}), 0},
		{slices.Repeat([]impl.Act{{Kind: 5}}, 1<<18), 0},
	} {
		if got := impl.Lies(x.l); got != x.want {
			t.Error(len(x.l), got, x.want)
		}
	}
}
