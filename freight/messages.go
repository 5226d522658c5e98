package freight

import (
	"cmp"
	"slices"

	"thalweg/api"
	"thalweg/valid"
)

// key tells which fact of which charter messages are about.
type key struct {
	charter, number int
}

// edition is a revision of what is said about a key.
type edition struct {
	key
	revision int
}

// editionOf returns which edition a message is.
func editionOf(m api.FreightMessage) edition {
	return edition{key{m.Charter, m.Number}, m.Revision}
}

// editions are messages, each of which counts once.
type editions map[edition]api.FreightMessage

// newEditions returns messages by their editions, or the first of the errors of messages.
func newEditions(l []api.FreightMessage) (editions, api.Errno) {
	if e := valid.List(l, api.MaxMessages, validMessage); e != api.OK {
		return nil, e
	}
	all := editions{}
	for _, m := range l {
		x := editionOf(m)
		if other, ok := all[x]; ok && other != m {
			return nil, api.ErrTwice
		}
		all[x] = m
	}
	return all, api.OK
}

// last returns the last revision of each key.
func (all editions) last() map[key]int {
	last := map[key]int{}
	for x := range all {
		last[x.key] = max(last[x.key], x.revision)
	}
	return last
}

// facts returns the facts that the last revisions report, sorted: the order of a map must not be seen.
func (all editions) facts() []api.FreightMessage {
	var l []api.FreightMessage
	last := all.last()
	for x, m := range all {
		if x.revision == last[x.key] && m.Kind != api.FactWithdrawn {
			l = append(l, m)
		}
	}
	slices.SortFunc(l, compareFacts)
	return l
}

// compareFacts compares facts by what decides their order.
func compareFacts(a, b api.FreightMessage) int {
	return cmp.Or(cmp.Compare(a.Charter, b.Charter), cmp.Compare(a.Minute, b.Minute), cmp.Compare(a.Number, b.Number))
}

// charters returns the charters that messages are about.
func (all editions) charters() map[int]bool {
	l := map[int]bool{}
	for x := range all {
		l[x.charter] = true
	}
	return l
}

// messagesAbout returns the messages about a charter.
func messagesAbout(l []api.FreightMessage, charter int) []api.FreightMessage {
	return slices.DeleteFunc(slices.Clone(l), func(m api.FreightMessage) bool { return m.Charter != charter })
}
