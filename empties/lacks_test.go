package empties_test

import (
	"math/rand"
	"slices"
	"testing"

	"thalweg/api"
)

// P6.4: which ports lack hulls, as in the examples.
func TestLacks(t *testing.T) {
	apart := api.EmptyNet{Ports: []api.EmptyPort{port(1, 3), port(9, 0), port(4, 5), port(2, 2)}, Ways: []api.EmptyWay{way(0, 1, 0, 9), way(2, 3, 0, 9), way(1, 3, 0, 9)}}
	for _, c := range []struct {
		name string
		n    api.EmptyNet
		want lacking
	}{
		{"the example", example(), lacking{}},
		{"all hulls are needed", wanting(6, 9), lacking{}},
		{"one is lacking in all ports", wanting(7, 9), lacking{ports: []int{0, 1, 2}, lack: 1}},
		{"two are lacking in all ports", wanting(8, 9), lacking{ports: []int{0, 1, 2}, lack: 2}},
		{"little room", wanting(13, 1), lacking{ports: []int{1, 2}, lack: 8}},
		{"just enough room", wanting(5, 1), lacking{}},
		{"one hull more than there is room", wanting(6, 1), lacking{ports: []int{1, 2}, lack: 1}},
		{"as many as the others can spare", with(wanting(6, 1), 0, -1, 0), lacking{ports: []int{1, 2}, lack: 1}},
		{"one hull less, of which the others lack none", with(wanting(6, 1), 0, -2, 0), lacking{ports: []int{0, 1, 2}, lack: 2}},
		{"two parts", apart, lacking{ports: []int{0, 2}, lack: 3}},
		{"one port", api.EmptyNet{Ports: []api.EmptyPort{port(3, 5)}}, lacking{ports: []int{0}, lack: 2}},
		{"one port with enough", api.EmptyNet{Ports: []api.EmptyPort{port(5, 5)}}, lacking{}},
		{"nothing at all", api.EmptyNet{Ports: make([]api.EmptyPort, 60)}, lacking{}},
		{"as much as can be", api.EmptyNet{Ports: slices.Repeat([]api.EmptyPort{port(0, 1000)}, 60)}, lacking{ports: setPorts(60), lack: 60000}},
	} {
		if got := lacks(c.n); !got.same(c.want) {
			t.Errorf("%s: %v, want %v", c.name, got, c.want)
		}
	}
}

// setPorts returns the numbers of the first ports.
func setPorts(n int) []int {
	var l []int
	for i := range n {
		l = append(l, i)
	}
	return l
}

// P6.4, P6.8: the greatest lack of all sets, and the ports that all of these have in common.
func TestLacksAgainstAllSets(t *testing.T) {
	g := rand.New(rand.NewSource(8))
	several, none := 0, 0
	for i := range 3000 {
		s := []sizes{small, middle, {ports: 6, ways: 12, hulls: 4, cost: 9, room: 2}}[i%3]
		n := randomNet(g, s)
		want := slowLacks(n)
		if got := lacks(n); !got.same(want) {
			t.Fatalf("%v: %v, want %v", n, got, want)
		}
		if e := move(n).e; (e == api.OK) != (want.lack == 0) {
			t.Fatalf("%v: %d, but %v", n, e, want)
		}
		if lackOf(n, setOf(n, want.ports)) != want.lack {
			t.Fatalf("%v: %v", n, want)
		}
		if want.lack == 0 {
			none++
		} else if len(want.ports) > 1 && len(want.ports) < len(n.Ports) {
			several++
		}
	}
	if several < 300 || none < 300 {
		t.Error("too few cases:", several, none)
	}
}

// helped returns a net with one port more, from which so many hulls can go to all others.
func helped(n api.EmptyNet, hulls int) api.EmptyNet {
	n = cloneNet(n)
	for i := range n.Ports {
		n.Ways = append(n.Ways, way(len(n.Ports), i, 1000000, 1000))
	}
	n.Ports = append(n.Ports, port(hulls, 0))
	return n
}

// P6.4, P6.8: larger nets: with as many hulls as are lacking, and no less, moves are possible; and one hull more helps just in the ports of the set.
func TestLacksAreHelped(t *testing.T) {
	g := rand.New(rand.NewSource(9))
	count := 0
	for range 80 {
		n := fullNet(g, sizes{ports: 2 + g.Intn(58), ways: 240, hulls: 60, cost: 1000000, room: 10})
		l := lacks(n)
		if lackOf(n, setOf(n, l.ports)) != l.lack {
			t.Fatalf("%v: %v", n, l)
		}
		if l.lack > 1000 {
			continue
		}
		if e := move(helped(n, l.lack)).e; e != api.OK {
			t.Fatalf("%v: %v are not enough: %d", n, l, e)
		}
		if l.lack == 0 {
			continue
		}
		count++
		if e := move(helped(n, l.lack-1)).e; e != api.ErrNone {
			t.Fatalf("%v: less than %v is enough: %d", n, l, e)
		}
		for i := range n.Ports {
			fewer := lacks(with(n, i, 1, 0)).lack < l.lack
			if fewer != slices.Contains(l.ports, i) {
				t.Fatalf("%v: %v, and one more in %d", n, l, i)
			}
		}
	}
	if count < 30 {
		t.Error("too few cases:", count)
	}
}
