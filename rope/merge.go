package rope

import (
	"marginalia/api"
)

// Merge returns the edits of the old string that do what first and then second do.
func Merge(text string, first, second []api.Edit) ([]api.Edit, api.Errno) {
	between, err := Apply(text, first)
	if err != api.OK {
		return nil, err
	}
	if err := Check(between, second); err != api.OK {
		return nil, err
	}
	m := merger{between: between, first: first, placed: placed(first), second: second}
	for m.f < len(first) || m.s < len(second) {
		m.next()
	}
	if len(m.merged) > api.MaxEdits {
		return nil, api.ErrFull
	}
	return m.merged, api.OK
}

// merger goes through two lists of edits at once, in the order of the string between them.
type merger struct {
	between       string
	first, second []api.Edit
	placed        []api.Span // where the New of each of first stands in between
	f, s          int        // how many of first and of second are done
	shift         int        // how much the edits of first that are done move what is after them
	merged        []api.Edit
}

func (m *merger) next() {
	switch {
	case m.s == len(m.second) || m.f < len(m.first) && m.placed[m.f].To < m.second[m.s].From:
		m.add(m.first[m.f])
		m.takeFirst()
	case m.f == len(m.first) || m.second[m.s].To < m.placed[m.f].From:
		e := m.second[m.s]
		m.add(api.Edit{From: e.From - m.shift, To: e.To - m.shift, New: e.New})
		m.s++
	default:
		m.addTouching()
	}
}

func (m *merger) add(e api.Edit) { m.merged = append(m.merged, e) }

func (m *merger) takeFirst() {
	m.shift += growth(m.first[m.f])
	m.f++
}

// addTouching makes one edit of the next ones of both lists, which touch, and of all that they touch by others.
// An end of it that is not at an edit of first is in bytes that first leaves, and no other edit of first touches it: so the shift there moves it to the old string.
func (m *merger) addTouching() {
	all := api.Span{From: min(m.placed[m.f].From, m.second[m.s].From)}
	from, s := all.From-m.shift, m.s
	m.takeFirst()
	m.s++
	m.takeTouching()
	all.To = max(m.placed[m.f-1].To, m.second[m.s-1].To)
	m.add(api.Edit{From: from, To: all.To - m.shift, New: edited(m.between, all, m.second[s:m.s])})
}

// takeTouching takes the edits that touch one that is taken. Both lists are in order, so one that touches any of the other list touches the last one that is taken.
func (m *merger) takeTouching() {
	for {
		switch {
		case m.f < len(m.first) && touch(m.placed[m.f], m.second[m.s-1]):
			m.takeFirst()
		case m.s < len(m.second) && touch(m.placed[m.f-1], m.second[m.s]):
			m.s++
		default:
			return
		}
	}
}

// touch reports whether neither the New of an edit of first nor an edit of second ends before the other one begins.
func touch(s api.Span, e api.Edit) bool { return s.To >= e.From && e.To >= s.From }
