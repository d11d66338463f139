package disk

import (
	"bytes"
	"math/rand"
	"testing"

	"augur/api"
)

// model is a disk that keeps every byte twice.
type model struct {
	now, sure [][]byte
	dirty     []bool
	dead      bool
	left      int // -1: no failure is scheduled
}

func newModel(n, size int) *model {
	m := &model{dirty: make([]bool, n), left: -1}
	for range n {
		m.now = append(m.now, make([]byte, size))
		m.sure = append(m.sure, make([]byte, size))
	}
	return m
}

func (m *model) spend() api.Errno {
	if m.left == 0 {
		m.dead = true
		return api.ErrDiskDead
	}
	if m.left > 0 {
		m.left--
	}
	return api.OK
}

func (m *model) read(i int) ([]byte, api.Errno) {
	if m.dead {
		return nil, api.ErrDiskDead
	}
	if i < 0 || i >= len(m.now) {
		return nil, api.ErrDiskPlace
	}
	return m.now[i], api.OK
}

func (m *model) write(i int, b []byte) api.Errno {
	if _, e := m.read(i); e != api.OK {
		return e
	}
	if len(b) != len(m.now[i]) {
		return api.ErrDiskSize
	}
	if e := m.spend(); e != api.OK {
		return e
	}
	copy(m.now[i], b)
	m.dirty[i] = true
	return api.OK
}

func (m *model) flush() api.Errno {
	if m.dead {
		return api.ErrDiskDead
	}
	if e := m.spend(); e != api.OK {
		return e
	}
	for i, b := range m.now {
		copy(m.sure[i], b)
		m.dirty[i] = false
	}
	return api.OK
}

func (m *model) crash(keep uint64, torn, at int) {
	k := 0
	for i := range m.now {
		if !m.dirty[i] {
			continue
		}
		for j := range m.now[i] {
			preserved := keep&(1<<(k%64)) != 0
			if k == torn {
				preserved = j < at
			}
			if preserved {
				m.sure[i][j] = m.now[i][j]
			}
		}
		copy(m.now[i], m.sure[i])
		m.dirty[i] = false
		k++
	}
	m.dead, m.left = false, -1
}

func (m *model) clone() *model {
	c := newModel(len(m.now), len(m.now[0]))
	for i := range m.now {
		copy(c.now[i], m.now[i])
		copy(c.sure[i], m.sure[i])
	}
	copy(c.dirty, m.dirty)
	c.dead, c.left = m.dead, m.left
	return c
}

// pair is a disk, and the model of it.
type pair struct {
	d *Disk
	m *model
}

func (p pair) check(t *testing.T, step int) {
	t.Helper()
	if p.d.Dead() != p.m.dead {
		t.Fatalf("step %d: Dead is %t", step, p.d.Dead())
	}
	for i := -1; i <= len(p.m.now); i++ {
		got, e := p.d.Read(i)
		want, f := p.m.read(i)
		if e != f || !bytes.Equal(got, want) {
			t.Fatalf("step %d: sector %d: error %d, want %d, or other bytes", step, i, e, f)
		}
	}
}

// act performs a random call on both; it returns what must be the same.
func (p pair) act(r *rand.Rand) (got, want api.Errno) {
	n, size := len(p.m.now), len(p.m.now[0])
	switch k := r.Intn(40); {
	case k < 24:
		b := make([]byte, size)
		if r.Intn(8) == 0 {
			b = make([]byte, r.Intn(2*size))
		}
		r.Read(b)
		i := r.Intn(n+2) - 1
		return p.d.Write(i, b), p.m.write(i, b)
	case k < 28:
		return p.d.Flush(), p.m.flush()
	case k < 32:
		left := r.Intn(30) - 2
		p.d.Cut(left)
		p.m.left = max(left, 0)
	case k < 36:
		keep, torn, at := r.Uint64(), r.Intn(n+2)-1, r.Intn(size+9)-4
		p.d.Crash(keep, torn, at)
		p.m.crash(keep, torn, at)
	}
	return api.OK, api.OK
}

// P3.1, P3.2, P3.3: any calls, on disks and on copies of them, do what they do
// on a disk that keeps every byte twice.
func TestAgainstModel(t *testing.T) {
	for seed := range int64(12) {
		r := rand.New(rand.NewSource(seed))
		n, size := 1+r.Intn(100), 64+r.Intn(20)
		pairs := []pair{{New(n, size), newModel(n, size)}}
		for step := range 1200 {
			p := pairs[r.Intn(len(pairs))]
			if got, want := p.act(r); got != want {
				t.Fatalf("seed %d, step %d: error %d, want %d", seed, step, got, want)
			}
			if r.Intn(40) == 0 {
				c := pair{p.d.Copy(), p.m.clone()}
				if len(pairs) < 4 {
					pairs = append(pairs, c)
				} else {
					pairs[r.Intn(len(pairs))] = c
				}
			}
			if step%5 == 0 {
				for _, q := range pairs {
					q.check(t, step)
				}
			}
		}
	}
}
