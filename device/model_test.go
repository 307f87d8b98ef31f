package device_test

import (
	"fmt"
	"math/rand"
	"slices"
	"testing"

	"limewash/api"
	"limewash/device"
)

// model is a device as the chapter says it, by its state alone.
type model struct{ s api.DvState }

// textOf is a short text of a state.
func textOf(s api.DvState) string {
	text := fmt.Sprintf("%d sectors, taken %d, power %d, off %v, cache", len(s.Stable), s.Taken, s.Power, s.Off)
	for _, w := range s.Cache {
		text += fmt.Sprintf(" %d:%d", w.At, w.Data[0])
	}
	return text
}

// keepOnly makes the writes with these indices stable.
func (m *model) keepOnly(keep []int) {
	for i, w := range m.s.Cache {
		if slices.Contains(keep, i) {
			m.s.Stable[w.At] = w.Data
		}
	}
	m.s.Cache = nil
}

// keepAll makes all writes stable.
func (m *model) keepAll() {
	for n := range m.s.Stable {
		m.s.Stable[n] = readsAs(m.s, n)
	}
	m.s.Cache = nil
}

// read is P6.2.
func (m *model) read(n int) (api.Sector, api.Errno) {
	switch {
	case m.s.Off:
		return api.Sector{}, api.ErrPower
	case n < 0 || n >= len(m.s.Stable):
		return api.Sector{}, api.ErrRange
	}
	return readsAs(m.s, n), api.OK
}

// write is P6.2.
func (m *model) write(n int, s api.Sector) api.Errno {
	switch {
	case m.s.Off:
		return api.ErrPower
	case n < 0 || n >= len(m.s.Stable):
		return api.ErrRange
	case m.s.Power == 0 || m.s.Taken == 1e12:
		m.s.Off = true
		return api.ErrPower
	}
	if len(m.s.Cache) == 400 {
		m.keepAll()
	}
	m.s.Cache = append(m.s.Cache, api.DvWrite{At: n, Data: s})
	m.s.Taken++
	if m.s.Power > 0 {
		m.s.Power--
	}
	return api.OK
}

// flush is P6.3.
func (m *model) flush() api.Errno {
	if m.s.Off {
		return api.ErrPower
	}
	m.keepAll()
	return api.OK
}

// limit is P6.3.
func (m *model) limit(writes int64) api.Errno {
	if writes < -1 || writes > 1e12 {
		return api.ErrRange
	}
	m.s.Power = writes
	return api.OK
}

// crash is P6.3.
func (m *model) crash(keep []int) api.Errno {
	if slices.ContainsFunc(keep, func(i int) bool { return i < 0 || i >= len(m.s.Cache) }) {
		return api.ErrRange
	}
	sorted := slices.Clone(keep)
	slices.Sort(sorted)
	if !slices.Equal(slices.Compact(sorted), keep) {
		return api.ErrForm
	}
	m.keepOnly(keep)
	m.s.Power = -1
	m.s.Off = false
	return api.OK
}

// someKeep is a list of indices for a crash, now and then an invalid one.
func someKeep(r *rand.Rand, pending int) []int {
	var keep []int
	for i := range pending {
		if r.Intn(2) == 0 {
			keep = append(keep, i)
		}
	}
	switch r.Intn(6) {
	case 0:
		keep = append(keep, r.Intn(pending+3)-1)
	case 1:
		r.Shuffle(len(keep), func(i, j int) { keep[i], keep[j] = keep[j], keep[i] })
	}
	return keep
}

// step makes one call of d and of its model, and compares their results.
func step(t *testing.T, r *rand.Rand, d *device.Dev, m *model) {
	t.Helper()
	call := ""
	var e, want api.Errno
	switch k := r.Intn(100); {
	case k < 60:
		n, s := r.Intn(12), of(byte(r.Intn(256)))
		if r.Intn(20) == 0 {
			n = r.Intn(600) - 300
		}
		call = fmt.Sprintf("Write %d %d", n, s[0])
		e, want = d.Write(n, s), m.write(n, s)
	case k < 80:
		n := r.Intn(12)
		if r.Intn(20) == 0 {
			n = r.Intn(600) - 300
		}
		call = fmt.Sprintf("Read %d", n)
		var s, wanted api.Sector
		s, e = d.Read(n)
		wanted, want = m.read(n)
		if s != wanted {
			t.Fatalf("%s is %d.., not %d.. at %s", call, s[0], wanted[0], textOf(m.s))
		}
	case k < 88:
		call = "Flush"
		e, want = d.Flush(), m.flush()
	case k < 94:
		n := int64(r.Intn(15) - 3)
		call = fmt.Sprintf("Limit %d", n)
		e, want = d.Limit(n), m.limit(n)
	default:
		keep := someKeep(r, len(m.s.Cache))
		call = fmt.Sprintf("Crash %v", keep)
		e, want = d.Crash(keep), m.crash(keep)
	}
	if e != want {
		t.Fatalf("%s is %d, not %d at %s", call, e, want, textOf(m.s))
	}
}
