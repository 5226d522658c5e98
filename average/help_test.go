package average_test

import (
	"math/big"
	"math/rand"
	"slices"

	"thalweg/api"
	"thalweg/average"
)

// shared is what Split and Blame return.
type shared struct {
	l []int
	e api.Errno
}

func split(n int, weights []int) shared {
	l, e := average.Split(n, weights)
	return shared{l, e}
}

func blame(p parties) shared {
	l, e := average.Blame(p.losses, p.faults, p.limits)
	return shared{l, e}
}

// same reports whether two of them are equal.
func (s shared) same(x shared) bool { return slices.Equal(s.l, x.l) && s.e == x.e }

// parties are the parties of a collision.
type parties struct {
	losses, faults, limits []int
}

// adjusted is what Adjust returns.
type adjusted struct {
	l         []api.Account
	total, at int
	e         api.Errno
}

func adjust(interests, commission int, notes []api.Note) adjusted {
	l, total, at, e := average.Adjust(interests, commission, notes)
	return adjusted{l, total, at, e}
}

// same reports whether two of them are equal.
func (a adjusted) same(x adjusted) bool {
	return slices.Equal(a.l, x.l) && a.total == x.total && a.at == x.at && a.e == x.e
}

// tank is what is known of the fuel in a tank.
type tank struct {
	l []api.Sounding
	b []api.Bunker
}

// burned is what Burned returns, missing what Missing returns.
type burned struct {
	b api.Bounds
	e api.Errno
}

type missing struct {
	from, to, liters int
	e                api.Errno
}

func (t tank) burned(from, to int) burned {
	b, e := average.Burned(t.l, t.b, from, to)
	return burned{b, e}
}

func (t tank) missing(rate int) missing {
	from, to, liters, e := average.Missing(t.l, t.b, rate)
	return missing{from, to, liters, e}
}

// billed is what Dues returns.
type billed struct {
	l  []int
	at int
	e  api.Errno
}

func dues(t api.Tariff, payers int, passes []api.DuePass) billed {
	l, at, e := average.Dues(t, payers, passes)
	return billed{l, at, e}
}

// same reports whether two of them are equal.
func (b billed) same(x billed) bool { return slices.Equal(b.l, x.l) && b.at == x.at && b.e == x.e }

// note returns a note, sounding a sounding, bunker a bunker, pass a pass.
func note(kind api.NoteKind, interest, amount int) api.Note {
	return api.Note{Kind: kind, Interest: interest, Amount: amount}
}

func sounding(minute, low, high int) api.Sounding {
	return api.Sounding{Minute: minute, Liters: api.Bounds{Low: low, High: high}}
}

func bunker(minute, liters int) api.Bunker { return api.Bunker{Minute: minute, Liters: liters} }

func pass(payer, tons, length int) api.DuePass {
	return api.DuePass{Payer: payer, Tons: tons, Length: length}
}

// account returns an account of which the balance is what is due, less what is made good.
func account(value, good, due int) api.Account {
	return api.Account{Value: value, Good: good, Due: due, Balance: due - good}
}

// The notes, parties, tank and tariff of the chapter's examples, as new memory.
func exampleNotes() []api.Note {
	return []api.Note{
		note(api.NoteValue, 0, 600000), note(api.NoteValue, 1, 300000), note(api.NoteValue, 2, 100000),
		note(api.NoteSacrifice, 2, 50000), note(api.NoteExpense, 0, 20000),
	}
}

func exampleParties() parties {
	return parties{[]int{1000, 5000, 0}, []int{7000, 3000, 0}, []int{100000, 100000, 100000}}
}

func exampleTank() tank {
	return tank{[]api.Sounding{sounding(0, 900, 910), sounding(120, 700, 720)}, []api.Bunker{bunker(60, 50)}}
}

func exampleTariff() api.Tariff {
	return api.Tariff{Base: 500, Tons: 10, Length: 3, Passes: api.MaxDues, Most: api.MaxSum}
}

// sum returns the sum of numbers.
func sum(l []int) int {
	n := 0
	for _, x := range l {
		n += x
	}
	return n
}

// down returns factors multiplied and divided by a number, rounded down, and up the same rounded up; they are computed as fractions.
func down(by int, factors ...int) int {
	x := fraction(by, factors...)
	return int(new(big.Int).Div(x.Num(), x.Denom()).Int64())
}

func up(by int, factors ...int) int {
	n := down(by, factors...)
	if fraction(by, factors...).Cmp(big.NewRat(int64(n), 1)) > 0 {
		n++
	}
	return n
}

// fraction returns factors multiplied and divided by a number.
func fraction(by int, factors ...int) *big.Rat {
	x := big.NewRat(1, int64(by))
	for _, f := range factors {
		x.Mul(x, big.NewRat(int64(f), 1))
	}
	return x
}

// slowSplit splits by fractions; n and weights are valid.
func slowSplit(n int, weights []int) []int {
	l := []int{}
	for i := range weights {
		l = append(l, down(sum(weights), n, sum(weights[:i+1]))-down(sum(weights), n, sum(weights[:i])))
	}
	return l
}

// noted returns the sum of the notes of a kind for an interest.
func noted(notes []api.Note, kind api.NoteKind, interest int) int {
	n := 0
	for _, x := range notes {
		if x.Kind == kind && x.Interest == interest {
			n += x.Amount
		}
	}
	return n
}

// slowAdjust adjusts an average interest by interest; the notes are valid.
func slowAdjust(interests, commission int, notes []api.Note) adjusted {
	var worth, good, saved []int
	for i := range interests {
		sacrifice, expense := noted(notes, api.NoteSacrifice, i), noted(notes, api.NoteExpense, i)
		worth = append(worth, noted(notes, api.NoteValue, i)-noted(notes, api.NoteDamage, i))
		saved = append(saved, worth[i]-sacrifice)
		good = append(good, sacrifice+expense+down(10000, expense, commission))
	}
	switch {
	case slices.Min(saved) < 0 || slices.Max(saved) == 0:
		return adjusted{e: api.ErrState}
	case sum(good) > sum(worth):
		return adjusted{e: api.ErrOver}
	}
	a := adjusted{total: sum(good)}
	for i, due := range slowSplit(a.total, worth) {
		a.l = append(a.l, account(worth[i], good[i], due))
	}
	return a
}

// slowBlame lists those who pay and those who get; the parties are valid.
func slowBlame(p parties) []int {
	l := make([]int, len(p.losses))
	var getters, lacks []int
	all := 0
	for i, bears := range slowSplit(sum(p.losses), p.faults) {
		if bears > p.losses[i] {
			l[i] = bears - p.losses[i]
			if l[i] > p.limits[i] {
				l[i] = p.limits[i]
			}
			all += l[i]
		} else if bears < p.losses[i] {
			getters, lacks = append(getters, i), append(lacks, p.losses[i]-bears)
		}
	}
	if len(getters) > 0 {
		for i, got := range slowSplit(all, lacks) {
			l[getters[i]] = -got
		}
	}
	return l
}

// slowBurned tries all truths of two soundings; the numbers are valid.
func (t tank) slowBurned(from, to int) burned {
	got := burned{e: api.ErrState}
	a, b := t.l[from], t.l[to]
	for first := a.Liters.Low; first <= a.Liters.High; first++ {
		for last := b.Liters.Low; last <= b.Liters.High; last++ {
			n := first - last
			for _, x := range t.b {
				if x.Minute > a.Minute && x.Minute <= b.Minute {
					n += x.Liters
				}
			}
			if n < 0 {
				continue
			}
			if got.e != api.OK {
				got = burned{b: api.Bounds{Low: n, High: n}}
			}
			got.b = api.Bounds{Low: min(got.b.Low, n), High: max(got.b.High, n)}
		}
	}
	return got
}

// taken returns what was taken after a minute, until another one.
func (t tank) taken(from, to int) int {
	n := 0
	for minute := from + 1; minute <= to; minute++ {
		for _, x := range t.b {
			if x.Minute == minute {
				n += x.Liters
			}
		}
	}
	return n
}

// slowMissing looks at all pairs, from the last ones on; the tank is valid.
func (t tank) slowMissing(rate int) missing {
	worst := missing{e: api.ErrNone}
	for to := len(t.l) - 1; to > 0; to-- {
		for from := to - 1; from >= 0; from-- {
			a, b := t.l[from], t.l[to]
			n := a.Liters.Low + t.taken(a.Minute, b.Minute) - b.Liters.High - up(60, rate, b.Minute-a.Minute)
			first := slices.Compare([]int{-n, from, to}, []int{-worst.liters, worst.from, worst.to}) < 0
			if n > 0 && (worst.e != api.OK || first) {
				worst = missing{from, to, n, api.OK}
			}
		}
	}
	return worst
}

// slowDues bills payer by payer; the arguments are valid.
func slowDues(t api.Tariff, payers int, passes []api.DuePass) billed {
	var b billed
	for payer := range payers {
		cost, n := 0, 0
		for _, x := range passes {
			if x.Payer == payer {
				cost, n = cost+t.Base+up(100, x.Tons*t.Tons+x.Length*t.Length), n+1
			}
		}
		if n >= t.Passes {
			cost -= down(10000, cost, t.Off)
		}
		if cost > t.Most {
			cost = t.Most
		}
		b.l = append(b.l, cost)
	}
	return b
}

// shuffled returns a list in another order.
func shuffled[T any](g *rand.Rand, l []T) []T {
	l = slices.Clone(l)
	g.Shuffle(len(l), func(i, j int) { l[i], l[j] = l[j], l[i] })
	return l
}

// randomNumbers returns so many numbers from 0 to most, of which about every third one is 0.
func randomNumbers(g *rand.Rand, n, most int) []int {
	l := make([]int, n)
	for i := range l {
		if g.Intn(3) > 0 {
			l[i] = g.Intn(most + 1)
		}
	}
	return l
}

// randomNotes returns valid notes with amounts up to a number, most of which are values.
func randomNotes(g *rand.Rand, n, interests, most int) []api.Note {
	var l []api.Note
	for range n {
		kind := api.NoteValue
		if g.Intn(5) < 2 {
			kind = api.NoteDamage + api.NoteKind(g.Intn(3))
		}
		amount := 1 + g.Intn(most)
		if kind == api.NoteDamage || kind == api.NoteSacrifice {
			amount = 1 + g.Intn(most/4+1)
		}
		l = append(l, note(kind, g.Intn(interests), amount))
	}
	return l
}

// randomParties returns valid parties; without a fault the first one has all.
func randomParties(g *rand.Rand, most int) parties {
	n := 1 + g.Intn(6)
	p := parties{randomNumbers(g, n, most), randomNumbers(g, n, 5), randomNumbers(g, n, most)}
	if sum(p.faults) == 0 {
		p.faults[0] = 1
	}
	if g.Intn(3) == 0 {
		for i := range p.limits {
			p.limits[i] = api.MaxSum
		}
	}
	return p
}

// randomTank returns a valid tank with at least two soundings, up to so many liters.
func randomTank(g *rand.Rand, most int) tank {
	var t tank
	minute := g.Intn(5)
	for range 2 + g.Intn(5) {
		low := g.Intn(most)
		t.l = append(t.l, sounding(minute, low, min(most, low+g.Intn(4))))
		minute += 1 + g.Intn(6)
	}
	for range g.Intn(6) {
		t.b = append(t.b, bunker(g.Intn(minute+3), 1+g.Intn(most)))
	}
	return t
}

// voyage follows a tank whose engines burn up to a rate: it returns what is known of it, and what was burned before each sounding.
func voyage(g *rand.Rand, rate int) (tank, []int) {
	var t tank
	var burned []int
	liters, gone, minute := 500+g.Intn(500), 0, g.Intn(10)
	for range 2 + g.Intn(5) {
		t.l = append(t.l, sounding(minute, max(0, liters-g.Intn(9)), liters+g.Intn(9)))
		burned = append(burned, gone)
		for range g.Intn(3) {
			minute++
			b := bunker(minute, 1+g.Intn(40))
			t.b = append(t.b, b)
			liters += b.Liters
		}
		last := t.l[len(t.l)-1].Minute
		minute += 1 + g.Intn(30)
		n := min(liters, rate*(minute-last)/60)
		if g.Intn(2) == 0 {
			n = g.Intn(n + 1)
		}
		liters, gone = liters-n, gone+n
	}
	t.b = shuffled(g, t.b)
	return t, burned
}

// randomTariff returns a valid tariff with small numbers.
func randomTariff(g *rand.Rand) api.Tariff {
	return api.Tariff{
		Base: g.Intn(50), Tons: g.Intn(30), Length: g.Intn(30), Passes: g.Intn(6), Off: g.Intn(api.MaxParts + 1), Most: g.Intn(2000),
	}
}

// randomPasses returns valid passes.
func randomPasses(g *rand.Rand, n, payers int) []api.DuePass {
	var l []api.DuePass
	for range n {
		l = append(l, pass(g.Intn(payers), g.Intn(300), g.Intn(300)))
	}
	return l
}
