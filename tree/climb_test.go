package tree_test

import (
	"math"
	"math/rand"
	"slices"
	"strings"
	"testing"

	"lockbox/api"
	"lockbox/tree"
)

// 13.2, 13.5: the way of a leaf leads to the root, by the texts that are summed, from below upwards.
func TestClimb(t *testing.T) {
	_, all := leaves(api.MaxLeaves)
	ask := func(n, i int) {
		way := roomy(wayOf(all[:n], i))
		root, texts, e := tree.Climb(n, i, all[i], way)
		want, _ := climbOf(n, i, all[i], way)
		if e != api.OK || root != want.root || root != rootOf(all[:n]) || !slices.Equal(texts, want.texts) {
			t.Fatalf("Climb(%d, %d): %.4x, %d texts, %v", n, i, root, len(texts), e)
		}
		if len(texts) != len(way) || !tree.Stands(root, n, i, all[i], way) {
			t.Fatalf("Climb(%d, %d): %d texts of a way of %d, or it does not stand", n, i, len(texts), len(way))
		}
		untouched(t, way, wayOf(all[:n], i))
	}
	for n := range 66 {
		for i := range n {
			ask(n, i)
		}
	}
	for _, i := range []int{0, 1, 2047, 2048, 4093, 4094} {
		ask(4095, i)
		ask(4096, i)
	}
	ask(4096, 4095)
	ask(2049, 2048)
}

// 13.2: any digests lead somewhere, if they are as many as a way has.
func TestClimbByAnyWay(t *testing.T) {
	r := rand.New(rand.NewSource(1))
	_, pool := leaves(40)
	for n := range 80 {
		for i := range n {
			for long := range 9 {
				var way []string
				for range long {
					way = append(way, pool[r.Intn(len(pool))])
				}
				want, ok := climbOf(n, i, pool[0], way)
				if !ok {
					climbs(t, n, i, pool[0], way, api.ErrProof)
					continue
				}
				root, texts, e := tree.Climb(n, i, pool[0], way)
				if e != api.OK || root != want.root || !slices.Equal(texts, want.texts) {
					t.Fatalf("Climb(%d, %d) by %d digests: %.4x, %d texts, %v", n, i, long, root, len(texts), e)
				}
				if !tree.Stands(root, n, i, pool[0], way) || tree.Stands(sum(root), n, i, pool[0], way) || tree.Stands("", n, i, pool[0], way) {
					t.Fatalf("Stands(%d, %d) by %d digests", n, i, long)
				}
			}
		}
	}
}

// 13.2: numbers, places and digests that may not be, ahead of ways that are too short or too long.
func TestClimbOfWrong(t *testing.T) {
	_, l := leaves(7)
	way := wayOf(l, 2)
	d := l[2]
	short, long := strings.Repeat("d", 31), strings.Repeat("d", 33)
	for _, c := range []struct {
		n, i int
		d    string
		way  []string
		want api.Errno
	}{
		{0, 0, d, nil, api.ErrArg}, {-1, 0, d, nil, api.ErrArg}, {-1, -2, d, nil, api.ErrArg}, {4097, 0, d, way, api.ErrArg}, {4097, 4096, d, way[:1], api.ErrArg}, {math.MaxInt, 2, d, way, api.ErrArg}, {math.MinInt, 2, d, way, api.ErrArg},
		{7, -1, d, way, api.ErrArg}, {7, 7, d, way, api.ErrArg}, {1, 1, d, nil, api.ErrArg}, {7, math.MaxInt, d, way, api.ErrArg}, {7, math.MinInt, d, way, api.ErrArg}, {4096, 4096, d, way, api.ErrArg},
		{7, 2, "", way, api.ErrArg}, {7, 2, short, way, api.ErrArg}, {7, 2, long, way, api.ErrArg}, {1, 0, "", nil, api.ErrArg}, {7, 2, short, nil, api.ErrArg},
		{7, 2, d, []string{short, d, d}, api.ErrArg}, {7, 2, d, []string{d, long, d}, api.ErrArg}, {7, 2, d, []string{d, d, ""}, api.ErrArg}, {7, 2, d, []string{""}, api.ErrArg}, {7, 2, d, []string{d, d, d, short}, api.ErrArg}, {1, 0, d, []string{""}, api.ErrArg},
		{7, 2, d, nil, api.ErrProof}, {7, 2, d, way[:1], api.ErrProof}, {7, 2, d, way[:2], api.ErrProof}, {7, 2, d, append(slices.Clone(way), d), api.ErrProof}, {7, 6, d, way, api.ErrProof}, {7, 6, d, way[:1], api.ErrProof},
		{1, 0, d, []string{d}, api.ErrProof}, {2, 0, d, nil, api.ErrProof}, {2, 1, d, []string{d, d}, api.ErrProof}, {4096, 0, d, way, api.ErrProof}, {7, 2, d, slices.Repeat([]string{d}, 5000), api.ErrProof},
	} {
		climbs(t, c.n, c.i, c.d, c.way, c.want)
	}
}

// 13.2, 13.5: a way leads to the root at its own place alone, and no other digest does by any way that is nearly right.
func TestStandsOfWrong(t *testing.T) {
	_, all := leaves(40)
	for n := range 24 {
		l := all[:n]
		root := rootOf(l)
		for i := range n {
			way := wayOf(l, i)
			for j := range n {
				if j != i && (tree.Stands(root, n, i, l[j], way) || tree.Stands(root, n, j, l[i], way)) {
					t.Errorf("among %d the way of %d is that of %d, too", n, i, j)
				}
			}
			for j, d := range way {
				for _, other := range []string{all[30], l[i], root, strings.Repeat("\x00", 32), d[1:] + "\x00", d[:31] + string([]byte{d[31] ^ 1})} {
					ill := slices.Clone(way)
					if ill[j] = other; tree.Stands(root, n, i, l[i], ill) {
						t.Errorf("among %d, %d stands by another way", n, i)
					}
				}
				if j > 0 {
					ill := slices.Clone(way)
					if ill[j], ill[j-1] = ill[j-1], ill[j]; tree.Stands(root, n, i, l[i], ill) {
						t.Errorf("among %d, %d stands by a way in another order", n, i)
					}
				}
			}
			if tree.Stands(root[:31], n, i, l[i], way) || tree.Stands(root+"\x00", n, i, l[i], way) || tree.Stands("", n, i, l[i], way) {
				t.Errorf("among %d, %d stands under a piece of the root", n, i)
			}
		}
	}
}

// 13.3, 13.5: the bridge from the first m leads to both roots, by the texts that are summed, those of the first m ahead.
func TestCross(t *testing.T) {
	_, all := leaves(api.MaxLeaves)
	ask := func(m, n int) {
		old, bridge := rootOf(all[:m]), roomy(bridgeOf(all[:n], m, true))
		root, texts, e := tree.Cross(m, n, old, bridge)
		first, whole, ok := crossOf(m, n, true, old, bridge)
		if !ok || first.root != old || whole.root != rootOf(all[:n]) {
			t.Fatalf("the second reckoning fails at %d, %d", m, n)
		}
		if e != api.OK || root != whole.root || !slices.Equal(texts, append(first.texts, whole.texts...)) {
			t.Fatalf("Cross(%d, %d): %.4x, %d texts, %v", m, n, root, len(texts), e)
		}
		if !tree.Begins(old, m, root, n, bridge) || tree.Begins(old, m, sum(root), n, bridge) {
			t.Fatalf("Begins(%d, %d)", m, n)
		}
		untouched(t, bridge, bridgeOf(all[:n], m, true))
	}
	for n := range 66 {
		for m := range n {
			ask(m+1, n)
		}
	}
	for _, m := range []int{1, 2, 3, 1023, 1024, 2047, 2048, 2049, 4093, 4094, 4095} {
		ask(m, 4095)
		ask(m, 4096)
	}
	ask(4096, 4096)
}

// 13.3: of the first 0 nothing is told, but their root and the empty bridge are looked at; the root of n is not.
func TestCrossFromNone(t *testing.T) {
	_, l := leaves(7)
	none := sum("")
	for _, n := range []int{0, 1, 2, 7, 4095, 4096} {
		if root, texts, e := tree.Cross(0, n, none, nil); root != "" || len(texts) != 0 || e != api.OK {
			t.Errorf("Cross(0, %d): %x, %d texts, %v", n, root, len(texts), e)
		}
		for _, root := range []string{"", none, l[0], "any"} {
			if !tree.Begins(none, 0, root, n, nil) {
				t.Errorf("Begins of none, %d", n)
			}
		}
		crosses(t, 0, n, l[0], nil, api.ErrProof)
		crosses(t, 0, n, none, l[:1], api.ErrProof)
		crosses(t, 0, n, none, []string{none}, api.ErrProof)
		crosses(t, 0, n, none[:31], nil, api.ErrArg)
		crosses(t, 0, n, "", nil, api.ErrArg)
	}
}

// 13.3: from n to n no bridge leads, and old is the root, whatever it is.
func TestCrossToTheSame(t *testing.T) {
	_, l := leaves(7)
	for _, n := range []int{1, 2, 3, 7, 8, 4095, 4096} {
		for _, old := range []string{l[0], sum(""), strings.Repeat("\x00", 32)} {
			if root, texts, e := tree.Cross(n, n, old, nil); root != old || len(texts) != 0 || e != api.OK {
				t.Errorf("Cross(%d, %d): %x, %d texts, %v", n, n, root, len(texts), e)
			}
			if !tree.Begins(old, n, old, n, nil) || tree.Begins(old, n, l[1], n, nil) || tree.Begins(old, n, "", n, nil) {
				t.Errorf("Begins(%d, %d)", n, n)
			}
			crosses(t, n, n, old, []string{old}, api.ErrProof)
		}
	}
}

// 13.3: any digests lead somewhere, if they are as many as a bridge has, and tell old.
func TestCrossByAnyBridge(t *testing.T) {
	r := rand.New(rand.NewSource(2))
	_, pool := leaves(40)
	for n := range 70 {
		for m := range n {
			for long := range 10 {
				var bridge []string
				for range long {
					bridge = append(bridge, pool[r.Intn(len(pool))])
				}
				m := m + 1
				first, whole, ok := crossOf(m, n, true, pool[0], bridge)
				if !ok {
					crosses(t, m, n, pool[0], bridge, api.ErrProof)
					continue
				}
				old := first.root
				root, texts, e := tree.Cross(m, n, old, bridge)
				if e != api.OK || root != whole.root || !slices.Equal(texts, append(first.texts, whole.texts...)) {
					t.Fatalf("Cross(%d, %d) by %d digests: %.4x, %d texts, %v", m, n, long, root, len(texts), e)
				}
				if other := sum(old); m&(m-1) != 0 && m < n {
					crosses(t, m, n, other, bridge, api.ErrProof)
				}
			}
		}
	}
}

// 13.3: numbers and digests that may not be, ahead of bridges that are too short or too long, or tell another root.
func TestCrossOfWrong(t *testing.T) {
	_, l := leaves(7)
	none, old, root := sum(""), rootOf(l[:3]), rootOf(l)
	b := bridgeOf(l, 3, true)
	short, long := strings.Repeat("d", 31), strings.Repeat("d", 33)
	for _, c := range []struct {
		m, n   int
		old    string
		bridge []string
		want   api.Errno
	}{
		{-1, 7, old, b, api.ErrArg}, {8, 7, root, nil, api.ErrArg}, {1, 0, old, nil, api.ErrArg}, {0, -1, none, nil, api.ErrArg}, {-2, -1, none, nil, api.ErrArg}, {-1, -1, none, nil, api.ErrArg}, {3, 4097, old, b, api.ErrArg}, {0, 4097, none, nil, api.ErrArg}, {4097, 4097, old, nil, api.ErrArg}, {4096, 4097, old, b, api.ErrArg},
		{math.MinInt, 7, old, b, api.ErrArg}, {math.MaxInt, 7, old, b, api.ErrArg}, {3, math.MaxInt, old, b, api.ErrArg}, {3, math.MinInt, old, b, api.ErrArg}, {math.MaxInt, math.MaxInt, old, nil, api.ErrArg},
		{3, 7, "", b, api.ErrArg}, {3, 7, short, b, api.ErrArg}, {3, 7, long, b, api.ErrArg}, {7, 7, short, nil, api.ErrArg}, {3, 7, short, nil, api.ErrArg},
		{3, 7, old, []string{short, b[1], b[2], b[3]}, api.ErrArg}, {3, 7, old, []string{b[0], b[1], b[2], long}, api.ErrArg}, {3, 7, old, []string{""}, api.ErrArg}, {7, 7, root, []string{""}, api.ErrArg}, {0, 7, none, []string{short}, api.ErrArg}, {3, 7, old, append(slices.Clone(b), ""), api.ErrArg},
		{3, 7, old, nil, api.ErrProof}, {3, 7, old, b[:1], api.ErrProof}, {3, 7, old, b[:2], api.ErrProof}, {3, 7, old, b[:3], api.ErrProof}, {3, 7, old, b[1:], api.ErrProof}, {3, 7, old, append(slices.Clone(b), b[0]), api.ErrProof}, {3, 7, old, slices.Repeat(b, 1000), api.ErrProof},
		{4, 7, rootOf(l[:4]), nil, api.ErrProof}, {4, 7, rootOf(l[:4]), []string{old, old}, api.ErrProof}, {7, 7, root, []string{root}, api.ErrProof},
		{3, 7, root, b, api.ErrProof}, {3, 7, none, b, api.ErrProof}, {6, 7, rootOf(l[:5]), bridgeOf(l, 6, true), api.ErrProof}, {5, 7, rootOf(l[:6]), bridgeOf(l, 5, true), api.ErrProof},
	} {
		crosses(t, c.m, c.n, c.old, c.bridge, c.want)
	}
}

// 13.3, 13.5: nothing but the root of the first m begins a log by a bridge, nor by one that is nearly right.
func TestBeginsOfWrong(t *testing.T) {
	_, all := leaves(40)
	for n := range 24 {
		l := all[:n]
		root := rootOf(l)
		for m := 1; m <= n; m++ {
			old, bridge := rootOf(l[:m]), bridgeOf(l, m, true)
			for _, other := range []string{all[30], rootOf(all[:m+1]), rootOf(all[1 : m+1]), sum(""), strings.Repeat("\x00", 32), old[1:] + "\x00"} {
				if tree.Begins(other, m, root, n, bridge) || tree.Begins(old, m, other, n, bridge) && other != root {
					t.Errorf("another root begins by the bridge from %d to %d", m, n)
				}
			}
			for j, d := range bridge {
				for _, other := range []string{all[30], old, root, strings.Repeat("\x00", 32), d[1:] + "\x00", d[:31] + string([]byte{d[31] ^ 1})} {
					ill := slices.Clone(bridge)
					if ill[j] = other; tree.Begins(old, m, root, n, ill) {
						t.Errorf("the first %d of %d begin by another bridge", m, n)
					}
				}
				if j > 0 {
					ill := slices.Clone(bridge)
					if ill[j], ill[j-1] = ill[j-1], ill[j]; tree.Begins(old, m, root, n, ill) {
						t.Errorf("the first %d of %d begin by a bridge in another order", m, n)
					}
				}
			}
			if tree.Begins(old, m, root[:31], n, bridge) || tree.Begins(old, m, "", n, bridge) || tree.Begins(old[:31], m, root, n, bridge) {
				t.Errorf("the first %d of %d begin under a piece of a root", m, n)
			}
		}
	}
}

// 13.5: of another log with a root of its own neither ways nor bridges hold, and texts of both tell no twin.
func TestUnlikeLogs(t *testing.T) {
	texts, l := leaves(13)
	for at := range l {
		others := slices.Clone(texts)
		others[at] = "another one"
		var o []string
		for _, s := range others {
			o = append(o, tree.Leaf(s))
		}
		if a, b, is := tree.Twin(append(tree.Texts(texts), tree.Texts(others)...)); is {
			t.Errorf("a twin: %q, %q", a, b)
		}
		for m := 1; m <= len(l); m++ {
			bridge := bridgeOf(o, m, true)
			if tree.Begins(rootOf(l[:m]), m, rootOf(o), len(o), bridge) != (at >= m) {
				t.Errorf("the first %d of logs unlike at %d", m, at)
			}
			if way := wayOf(o, m-1); tree.Stands(rootOf(l), len(l), m-1, o[m-1], way) {
				t.Errorf("the leaf %d of a log unlike at %d", m-1, at)
			}
		}
	}
}
