package programme

func (s Show) change(from, to Act) (minutes, cost int) {
	minutes = sum(s.In, set(to.Rigs&^from.Rigs)) + sum(s.Out, set(from.Rigs&^to.Rigs))
	return minutes, minutes + s.Dull*max(0, from.Tension-to.Tension)
}

func sum(minutes []int, kinds set) (n int) {
	for kind := range kinds.members() {
		n += minutes[kind]
	}
	return n
}

// changeTo is the change from the act before the turn; the first one needs none.
func (s Show) changeTo(t turn) (minutes, cost int) {
	if t.acts == 0 {
		return 0, 0
	}
	return s.change(s.Acts[t.last], t.Act)
}

func (s Show) cost(order []int) (n int) {
	for _, t := range s.turns(order) {
		_, cost := s.changeTo(t)
		n += cost
	}
	return n
}

func (s Show) sheet(order []int) (starts []int, end int) {
	for _, t := range s.turns(order) {
		minutes, _ := s.changeTo(t)
		starts = append(starts, end+minutes)
		end += minutes + t.Minutes
	}
	return starts, end
}
