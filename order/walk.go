package order

// A state is what a walk does next.
type state int

const (
	entering  state = iota // the place at
	following              // the edges of the open place that is the last
	telling                // that place: all that it leads to was entered
	ended
)

// A walk keeps the places on its way in a list of its own, for a way may be longer than calls can be nested.
type walk struct {
	edges   [][]int
	entered []bool
	looked  []int // of each place, how many of its edges were looked at
	at      int   // the place that is entered next
	open    []int // entered and not told yet, each led to by the one ahead
	told    []int
}

func newWalk(edges [][]int) *walk {
	return &walk{edges: edges, entered: make([]bool, len(edges)), looked: make([]int, len(edges))}
}

// from walks from a place, past what earlier walks entered.
func (w *walk) from(root int) {
	steps := [ended]func(*walk) state{
		entering:  (*walk).enter,
		following: (*walk).follow,
		telling:   (*walk).tell,
	}
	w.at = root
	for now := entering; now != ended; {
		now = steps[now](w)
	}
}

func (w *walk) enter() state {
	w.entered[w.at] = true
	w.open = append(w.open, w.at)
	return following
}

func (w *walk) follow() state {
	last := w.open[len(w.open)-1]
	row := w.edges[last]
	for w.looked[last] < len(row) {
		to := row[w.looked[last]]
		w.looked[last]++
		if !w.entered[to] {
			w.at = to
			return entering
		}
	}
	return telling
}

func (w *walk) tell() state {
	end := len(w.open) - 1
	w.told = append(w.told, w.open[end])
	w.open = w.open[:end]
	if end == 0 {
		return ended
	}
	return following
}
