package stable

import (
	"scholia/api"
	"scholia/dots"
)

// Matrix is what is known of what each of some replicas has for good.
type Matrix struct {
	rows []api.Vector
}

// New is a matrix of so many replicas (1 to 64; nil of another number).
func New(n int) *Matrix {
	if n < 1 || n > api.MaxReps {
		return nil
	}
	return &Matrix{rows: make([]api.Vector, n)}
}

// Size is how many replicas there are.
func (m *Matrix) Size() int {
	if m == nil {
		return 0
	}
	return len(m.rows)
}

// within tells whether there is such a replica.
func (m *Matrix) within(rep int) bool {
	return rep >= 0 && rep < m.Size()
}

// Note takes in that a replica has something; false: there is no such replica.
func (m *Matrix) Note(rep int, v api.Vector) bool {
	if !m.within(rep) {
		return false
	}
	m.rows[rep] = dots.Join(m.rows[rep], v)
	return true
}

// Row is what a replica is known to have.
func (m *Matrix) Row(rep int) api.Vector {
	if !m.within(rep) {
		return api.Vector{}
	}
	return m.rows[rep]
}

// Stable is what all are known to have.
func (m *Matrix) Stable() api.Vector {
	all := m.Row(0)
	for rep := range m.Size() {
		all = dots.Meet(all, m.rows[rep])
	}
	return all
}

// Lacks is the replicas that are not known to have all of a vector.
func (m *Matrix) Lacks(v api.Vector) []int {
	var l []int
	for rep := range m.Size() {
		if !dots.Within(v, m.rows[rep]) {
			l = append(l, rep)
		}
	}
	return l
}
