package disk

// power is that of a disk; its zero value does not fail.
type power struct {
	dead      bool
	scheduled bool // a failure
	left      int  // the calls that succeed ahead of it
}

// Cut schedules a failure after n more calls that draw power.
func (p *power) Cut(n int) {
	p.scheduled = true
	p.left = max(n, 0)
}

// Dead reports whether there is no power.
func (p *power) Dead() bool {
	return p.dead
}

// draw reports whether there is power for a call; the call counts.
func (p *power) draw() bool {
	if p.scheduled && p.left == 0 {
		p.dead = true
	}
	if p.dead {
		return false
	}
	if p.scheduled {
		p.left--
	}
	return true
}
