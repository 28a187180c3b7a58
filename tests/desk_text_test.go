package tests

import (
	"bytes"
	"math"
	"slices"
	"strconv"
	"strings"
	"testing"

	"loop.example/g00567/impl"
)

// linesOf is a cluster's text by the chapter, a line for each part.
func linesOf(c impl.Cluster) []string {
	var l []string
	for id, r := range c.Reps {
		if c.Bad[id] {
			l = append(l, "liar "+strconv.Itoa(id)+"\n")
		} else {
			l = append(l, string(impl.RepText(r)))
		}
	}
	for _, at := range linksOf(c.N) {
		if count := len(onLink(c, at[0], at[1])); count != 0 {
			l = append(l, strings.Join([]string{"link", strconv.Itoa(at[0]), strconv.Itoa(at[1]), strconv.Itoa(count)}, " ")+"\n")
		}
	}
	return l
}

func TestClusterText(t *testing.T) {
	t.Parallel()
	for name, c := range scheduledClusters(t) {
		text := impl.ClusterText(c)
		lines := strings.SplitAfter(string(text), "\n")
		if want := append(linesOf(c), ""); !slices.Equal(lines, want) {
			t.Errorf("%s:\ngot  %q,\nwant %q", name, lines, want)
		}
		if bytes.ContainsAny(text, "\r\t") || bytes.Contains(text, []byte("  ")) || bytes.Contains(text, []byte(" \n")) {
			t.Errorf("%s: %q", name, text)
		}
	}
}

func TestClusterTextByHand(t *testing.T) {
	decided := idleCluster(7, 3, 0, 6)
	decided.Reps[2].Done = 60
	decided.Reps[3].Lock = lockOn(0, 5)
	decided.Reps[4].Lock, decided.Reps[4].Done = lockOn(2, 41), 1
	decided.Reps[6].Lock, decided.Reps[6].Done = lockOn(2, 41), 1 // a faulty one tells nothing
	setLink(&decided, 6, 0, numbered(1))
	setLink(&decided, 6, 5, numbered(80))
	setLink(&decided, 0, 6, numbered(12))
	setLink(&decided, 1, 0, numbered(2))
	setLink(&decided, 0, 1, numbered(3))
	setLink(&decided, 5, 2, numbered(4))
	mixed := idleCluster(4, 0, 2)
	mixed.Reps[1] = idle(4, 1, 9)
	setLink(&mixed, 3, 2, numbered(79))
	setLink(&mixed, 2, 3, numbered(10))
	for want, c := range map[string]impl.Cluster{
		"replica 0 view 0\nreplica 1 view 0\nreplica 2 view 0\nreplica 3 view 0\n":                                                       idleCluster(4, 0),
		"liar 0\nreplica 1 view 9\nreplica 2 view 9\nreplica 3 view 9\n":                                                                 idleCluster(4, 9, 0),
		"replica 0 view 0\nreplica 1 view 9\nliar 2\nreplica 3 view 0\nlink 2 3 10\nlink 3 2 79\n":                                       mixed,
		"replica 0 view 0\nreplica 1 view 0\nreplica 2 view 0\nliar 3\nlink 0 1 2\nlink 0 2 2\nlink 0 3 2\n":                             started(t, 4, 3),
		"liar 0\nreplica 1 view 0\nreplica 2 view 0\nreplica 3 view 0\nreplica 4 view 0\nreplica 5 view 0\nliar 6\n":                     started(t, 7, 0, 6),
		"replica 0 view 1\nreplica 1 view 1\nreplica 2 view 1\nliar 3\nliar 4\nreplica 5 view 1\nreplica 6 view 1\n":                     idleCluster(7, 1, 3, 4),
		"replica 0 view 1\nreplica 1 view 1\nreplica 2 view 1\nreplica 3 view 1\nreplica 4 view 1\nreplica 5 view 1\nreplica 6 view 1\n": idleCluster(7, 1),
		"liar 0\nreplica 1 view 3\nreplica 2 view 3 decided 60\nreplica 3 view 3 bound 0:5\nreplica 4 view 3 bound 2:41 decided 1\nreplica 5 view 3\nliar 6\n" +
			"link 0 1 3\nlink 0 6 12\nlink 1 0 2\nlink 5 2 4\nlink 6 0 1\nlink 6 5 80\n": decided,
	} {
		if got := string(impl.ClusterText(c)); got != want {
			t.Errorf("got  %q,\nwant %q", got, want)
		}
	}
}

// One line for each link with messages: of each link alone, and of all but one.
func TestClusterTextOfEachLink(t *testing.T) {
	for _, n := range []int{4, 7} {
		for _, faulty := range faultySets(n) {
			empty := string(impl.ClusterText(idleCluster(n, 2, faulty...)))
			if strings.Count(empty, "\n") != n || strings.Count(empty, "liar") != len(faulty) || strings.Contains(empty, "link") {
				t.Errorf("%v %v: %q", n, faulty, empty)
			}
			for i, at := range linksOf(n) {
				c := idleCluster(n, 2, faulty...)
				setLink(&c, at[0], at[1], numbered(1+i))
				line := "link " + strconv.Itoa(at[0]) + " " + strconv.Itoa(at[1]) + " "
				if got := string(impl.ClusterText(c)); got != empty+line+strconv.Itoa(1+i)+"\n" {
					t.Errorf("%v %v %v: %q", n, faulty, at, got)
				}
				c = lengthCluster(n, 2, faulty...)
				setLink(&c, at[0], at[1], nil)
				if got := string(impl.ClusterText(c)); strings.Contains(got, line) || strings.Count(got, "\n") != n+n*(n-1)-1 {
					t.Errorf("%v %v %v: %q", n, faulty, at, got)
				}
			}
		}
	}
}

func TestActText(t *testing.T) {
	numbers := []int{math.MinInt, -1, 0, 1, 2, 3, 4, 5, 6, 7, 8, 256, math.MaxInt}
	for _, kind := range append(slices.Clone(actKinds), noKinds...) {
		for _, from := range numbers {
			for _, to := range numbers {
				want := ""
				if 0 <= kind && kind <= 6 && 0 <= from && from <= 6 && 0 <= to && to <= 6 {
					want = actWords[kind]
					if kind != 6 {
						want += " " + strconv.Itoa(from)
					}
					if kind != 6 && kind != 4 {
						want += " " + strconv.Itoa(to)
					}
				}
				for _, b := range [][]byte{nil, {}, {1, 2}, make([]byte, 101)} {
					if got := string(impl.ActText(impl.Act{Kind: kind, From: from, To: to, B: b})); got != want {
						t.Errorf("%v %v %v %v: got %q, want %q", kind, from, to, len(b), got, want)
					}
				}
			}
		}
	}
}

func TestActTextByHand(t *testing.T) {
	for want, a := range map[string]impl.Act{
		"deliver 0 6": deliver(0, 6),
		"deliver 0 0": {},
		"lose 6 0":    linkAct(1, 6, 0),
		"twice 1 2":   linkAct(2, 1, 2),
		"later 4 4":   linkAct(3, 4, 4),
		"tick 5":      tick(5),
		"tick 6":      {Kind: 4, From: 6, To: 3},
		"lie 3 2":     lie(3, 2, voting(0, 5)),
		"flush":       flush,
	} {
		if got := string(impl.ActText(a)); got != want {
			t.Errorf("got %q, want %q", got, want)
		}
	}
	for _, a := range []impl.Act{
		{Kind: -1}, {Kind: 7}, {Kind: 6, From: 7}, {Kind: 6, To: 7}, {Kind: 6, From: -1}, {Kind: 6, To: -1},
		{Kind: 4, From: 7}, {Kind: 4, From: -1}, {Kind: 4, To: 7}, {Kind: 4, To: -1}, deliver(0, 7), deliver(7, 0), deliver(-1, 0), deliver(0, -1), lieOf(7, 0, nil),
	} {
		if got := impl.ActText(a); len(got) != 0 {
			t.Errorf("%v: %q", a, got)
		}
	}
}
