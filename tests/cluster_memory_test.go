package tests

import (
	"slices"
	"testing"

	"loop.example/g00567/impl"
)

// memoryClusters are clusters in which events lead to every kind of change.
func memoryClusters() []impl.Cluster {
	l := []impl.Cluster{busyCluster(4), busyCluster(4, 2), busyCluster(7, 0, 3), readyAndDone(), lengthCluster(4, 2, 3), lengthCluster(7, 1), lengthCluster(4, 80, 0)}
	for _, c := range l[:3] {
		l = append(l, changedCluster(c, func(c *impl.Cluster) {
			for id := range c.Reps {
				c.Reps[id].Left = 1 // a tick leads to a report with votes
			}
		}))
	}
	return l
}

// someDeeds are deeds of every kind on a cluster, with lies that are messages and some that are not.
func someDeeds(c impl.Cluster) []deed {
	var l []deed
	for i, at := range linksOf(c.N) {
		for k, what := range allDeeds {
			said := bytesOf(exampleReport())
			if at[1] == 2 {
				said = said[1:]
			}
			if c.N == 4 || (i+k)%7 == 0 {
				l = append(l, deed{what, at[0], at[1], said})
			}
		}
	}
	return l
}

func spareBytes(b []byte) ([]byte, []byte) {
	all := append(slices.Clone(b), 97, 98, 99)
	return all[:len(b)], all
}

func TestClustersAreNotModified(t *testing.T) {
	for _, plain := range memoryClusters() {
		c, kept := spareCluster(plain)
		for _, d := range someDeeds(plain) {
			want, wantOk := d.do(plain)
			var room []byte
			d.said, room = spareBytes(d.said)
			before := slices.Clone(room)
			got, ok := d.do(c)
			if ok != wantOk || !sameCluster(got, want) {
				t.Fatal(d, "of", plain, "what is behind the slices was read")
			}
			if !kept() || !slices.Equal(room, before) {
				t.Fatal(d, "of", plain, "modified its argument")
			}
		}
		impl.ClusterOk(c)
		impl.Agreed(c)
		impl.Decided(c)
		impl.Waiting(c)
		impl.Honest(c)
		impl.Latest(c)
		impl.Quiet(c)
		for from := range c.N {
			impl.Split(c, from)
			for to := range c.N {
				impl.OnLink(c, from, to)
			}
		}
		if !kept() {
			t.Fatal(plain, "was modified")
		}
	}
}

func TestInvalidClustersAreNotModified(t *testing.T) {
	for name, c := range invalidClusters() {
		if len(c.Bad) > 1000 || len(c.Reps) > 1000 || len(c.Net) > 1000 || len(c.Net) > 1 && len(c.Net[1]) > 1000 {
			continue
		}
		c, kept := spareCluster(c)
		for _, what := range allDeeds {
			deed{what, 1, 0, bytesOf(voting(0, 5))}.do(c)
		}
		impl.Agreed(c)
		impl.OnLink(c, 0, 1)
		if !kept() {
			t.Error(name)
		}
	}
}

// Elements behind the slices are not read, although they would make the cluster invalid or valid.
func TestElementsBeyondTheLengthsAreNotRead(t *testing.T) {
	c := busyCluster(4, 1)
	c.Bad = append(c.Bad, true, true)[:4]
	c.Reps = append(c.Reps, impl.Rep{})[:4]
	c.Net = append(c.Net, []impl.Msg{{}})[:16]
	setLink(&c, 0, 1, append(numbered(80), impl.Msg{})[:80])
	setLink(&c, 0, 0, numbered(3)[:0])
	if !impl.ClusterOk(c) || len(impl.OnLink(c, 0, 1)) != 80 || impl.Split(c, 0)[0] != 0 {
		t.Error(c)
	}
	for what, change := range map[string]func(*impl.Cluster){
		"Bad":  func(c *impl.Cluster) { c.Bad = c.Bad[:3] },
		"Reps": func(c *impl.Cluster) { c.Reps = c.Reps[:3] },
		"Net":  func(c *impl.Cluster) { c.Net = c.Net[:15] },
	} {
		short := busyCluster(4, 1)
		change(&short)
		if impl.ClusterOk(short) {
			t.Error(what)
		}
	}
}

// wantOwnCluster checks that each slice of two results of the same call is memory of its own.
func wantOwnCluster(t *testing.T, args []span, call func() impl.Cluster) {
	t.Helper()
	one, two := call(), call()
	results := append(clusterSpans("the result's", one), clusterSpans("the second result's", two)...)
	if wrong := overlap(results, args); wrong != "" {
		t.Fatalf("%v: %s share memory", one, wrong)
	}
}

func TestClustersShareNoMemory(t *testing.T) {
	for _, c := range memoryClusters() {
		c, _ = spareCluster(c)
		args := clusterSpans("the argument's", c)
		for i, d := range someDeeds(c) {
			if i%5 == 0 || d.what == "tick" && d.to < 2 {
				wantOwnCluster(t, args, func() impl.Cluster {
					got, _ := d.do(c)
					return got
				})
			}
		}
	}
}

// Messages with votes come to links as copies of one another, and a queue that was emptied and filled is not the argument's.
func TestCopiedMessagesShareNoMemory(t *testing.T) {
	c := busyCluster(7, 6)
	c.Reps[2].Left = 1
	for _, at := range linksOf(7) {
		setLink(&c, at[0], at[1], []impl.Msg{report(3, lockOn(2, 7), votes(0, 5, 2, 7)...)})
	}
	args := clusterSpans("the argument's", c)
	wantOwnCluster(t, args, func() impl.Cluster {
		got, ok := impl.Tick(c, 2)
		sent := onLink(got, 2, 6)
		if !ok || len(sent) < 2 || len(sent[1].Votes) != 2 {
			t.Fatal(sent)
		}
		return got
	})
	wantOwnCluster(t, args, func() impl.Cluster {
		got, _ := impl.Twice(c, 0, 1)
		got, _ = impl.Twice(got, 0, 1)
		got, _ = impl.Later(got, 0, 1)
		if l := onLink(got, 0, 1); len(l) != 3 || len(l[0].Votes) != 2 {
			t.Fatal(l)
		}
		return got
	})
	wantOwnCluster(t, args, func() impl.Cluster {
		got, _ := impl.Lose(c, 6, 1)
		got, _ = impl.Lie(got, 6, 1, bytesOf(exampleReport()))
		return got
	})
}

// The parts of a result are apart even if those of the argument are not.
func TestSharedPartsOfClustersAreParted(t *testing.T) {
	l := []impl.Msg{exampleReport(), voting(0, 5)}
	l = append(l, impl.Msg{Kind: impl.MsReport, View: 4, Votes: l[0].Votes})
	c := busyCluster(4, 3)
	for id := range c.Reps {
		c.Reps[id] = c.Reps[0]
		c.Reps[id].Id = id
		c.Reps[id].Left = 1
	}
	for _, at := range linksOf(4) {
		setLink(&c, at[0], at[1], l)
	}
	args := clusterSpans("the argument's", c)
	for _, what := range allDeeds {
		for _, at := range [][2]int{{3, 0}, {3, 1}, {0, 3}, {1, 2}} {
			wantOwnCluster(t, args, func() impl.Cluster {
				got, _ := deed{what, at[0], at[1], bytesOf(exampleReport())}.do(c)
				return got
			})
		}
	}
}

func TestClusterNewSharesNoMemory(t *testing.T) {
	for _, n := range []int{4, 7} {
		owns, bad := ownsOf(n), append(flagsOf(n, 2), true, true)
		flags := bad[:n]
		wantOwnCluster(t, []span{spanOf("the flags", flags), spanOf("the values", owns)}, func() impl.Cluster {
			c, ok := impl.ClusterNew(owns, flags)
			if !ok {
				t.Fatal(c)
			}
			return c
		})
		if !slices.Equal(owns, ownsOf(n)) || !slices.Equal(bad, append(flagsOf(n, 2), true, true)) {
			t.Error(owns, bad)
		}
	}
}

func TestListsOfClustersShareNoMemory(t *testing.T) {
	c, kept := spareCluster(busyCluster(4, 1))
	args := clusterSpans("the argument's", c)
	for _, at := range linksOf(4) {
		want := cloneMsgs(onLink(c, at[0], at[1]))
		one, two := impl.OnLink(c, at[0], at[1]), impl.OnLink(c, at[0], at[1])
		if wrong := overlap(append(msgSpans("one", one), msgSpans("two", two)...), args); wrong != "" {
			t.Error(at, wrong)
		}
		for i := range one {
			scribble(one[i].Votes, lockOn(88, 88))
		}
		scribble(one, impl.Msg{})
		if !sameMsgs(two, want) || !sameMsgs(impl.OnLink(c, at[0], at[1]), want) || !kept() {
			t.Error(at)
		}
	}
	for k, call := range []func() []int{
		func() []int { return impl.Honest(c) },
		func() []int { return impl.Split(c, 2) },
	} {
		first := call()
		want := slices.Clone(first)
		scribble(first, 88)
		if second := call(); !slices.Equal(second, want) {
			t.Error(k, second, want)
		}
	}
}
