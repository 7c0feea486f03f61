package sub

import (
	"maps"
	"strconv"

	"gusset/api"
)

// A question is whether a class's instances may stand for a record. Of all questions these alone can lead back to themselves: what a class has may be larger than what was asked.
type question struct {
	class  int
	record string
}

// state is what is known of a question.
type state int

const (
	isNew state = iota
	isOpen
	isLeanedOn // open, and taken for a no meanwhile
	isNo
	isYes
)

// An opened pair is one that is being asked, with what is left of its row.
type opened struct {
	row
	question question
	isKept   bool // whether the pair is that question
}

// A search keeps its stack itself, for classes may lead to one another as far as they like.
type search struct {
	classes []api.ClassInfo
	known   map[question]state
	stack   []opened
	again   bool
}

// holds tells whether the rules give a yes by going back to what needs none. In a round a question that is asked within itself is a no; where it comes to a yes in the end, those that leaned on the no are asked once more. A yes is never taken back, so the rounds end.
func (s *search) holds(p pair) bool {
	for {
		s.again = false
		if s.round(p) {
			return true
		}
		if !s.again {
			return false
		}
		maps.DeleteFunc(s.known, func(_ question, known state) bool { return known != isYes })
	}
}

func (s *search) round(p pair) bool {
	s.open(p)
	for {
		top := &s.stack[len(s.stack)-1]
		if len(top.pairs) > 0 {
			next := top.pairs[0]
			top.pairs = top.pairs[1:]
			s.open(next)
			continue
		}
		answer := s.closeTop()
		if len(s.stack) == 0 {
			return answer
		}
		s.tellTop(answer)
	}
}

func (s *search) open(p pair) {
	if p.a.Kind != api.TypeInst || p.b.Kind != api.TypeRecord {
		s.stack = append(s.stack, opened{row: rowOf(p, s.classes)})
		return
	}
	q := question{p.a.N, string(appendKey(nil, p.b))}
	switch s.known[q] {
	case isNew:
		s.known[q] = isOpen
		s.stack = append(s.stack, opened{row: rowOf(p, s.classes), question: q, isKept: true})
	case isOpen:
		s.known[q] = isLeanedOn
		fallthrough
	case isLeanedOn, isNo:
		s.stack = append(s.stack, opened{})
	case isYes:
		s.stack = append(s.stack, opened{row: row{all: true}})
	}
}

// closeTop takes the innermost pair away, of which nothing is left to ask, and answers it.
func (s *search) closeTop() bool {
	last := len(s.stack) - 1
	top := s.stack[last]
	s.stack = s.stack[:last]
	switch {
	case !top.isKept:
	case top.all:
		s.again = s.again || s.known[top.question] == isLeanedOn
		s.known[top.question] = isYes
	default:
		s.known[top.question] = isNo
	}
	return top.all
}

// tellTop tells the innermost pair what one of its row came to; what decides it leaves nothing to ask.
func (s *search) tellTop(answer bool) {
	top := &s.stack[len(s.stack)-1]
	if answer != top.all {
		top.row = row{all: answer}
	}
}

// appendKey lays a type out so that two are laid out alike just if they are the same, whatever their names are.
func appendKey(key []byte, t api.Type) []byte {
	for _, n := range [...]int{t.Kind, t.N, len(t.Names), len(t.List)} {
		key = appendNumber(key, n)
	}
	for _, name := range t.Names {
		key = append(appendNumber(key, len(name)), name...)
	}
	for _, part := range t.List {
		key = appendKey(key, part)
	}
	return key
}

func appendNumber(key []byte, n int) []byte {
	return append(strconv.AppendInt(key, int64(n), 10), ' ')
}
