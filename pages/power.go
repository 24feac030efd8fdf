package pages

import (
	"scholia/api"
)

// power is what a device acts by.
type power struct {
	dead bool
	fuse int // how many acts go on; below 0: all
}

// fresh is power without a fuse.
func fresh() power {
	return power{fuse: -1}
}

// act is asked ahead of each act: an error, if the power is gone, or goes now.
func (p *power) act() api.Errno {
	if p.fuse == 0 {
		p.dead = true
	}
	if p.dead {
		return api.EDEAD
	}
	if p.fuse > 0 {
		p.fuse--
	}
	return api.OK
}
