package measure

import (
	"cusp/api"
	"cusp/grid"
)

// Bite returns the overjet and the overbite of two teeth.
func Bite(upper, lower Arch, i, k int) ([2]int, api.Errno) {
	if e := first(CheckArch(upper), CheckArch(lower), upper.checkTooth(i), lower.checkTooth(k)); e != api.OK {
		return [2]int{}, e
	}
	above, below := upper.Teeth[i].Tip, lower.Teeth[k].Tip
	return [2]int{above.Y - below.Y, below.Z - above.Z}, api.OK
}

// checkLimits returns the first error of the limits of a scale, or OK.
func checkLimits(l []api.Rat) api.Errno {
	for i, limit := range l {
		if e := grid.Check(limit); e != api.OK {
			return e
		}
		if i == 0 {
			continue
		}
		if order, _ := grid.Order(l[i-1], limit); order >= 0 {
			return api.ErrOrder
		}
	}
	return api.OK
}

// CheckScale returns the first error of a scale, or OK.
func CheckScale(s Scale) api.Errno {
	if len(s.Limits) > api.MaxList {
		return api.ErrMany
	}
	if len(s.Names) != len(s.Limits)+1 {
		return api.ErrShape
	}
	if e := checkLimits(s.Limits); e != api.OK {
		return e
	}
	for _, name := range s.Names {
		if e := checkName(name); e != api.OK {
			return e
		}
	}
	return api.OK
}

// Class returns the class of a number.
func Class(s Scale, x api.Rat) (string, api.Errno) {
	if e := first(CheckScale(s), grid.Check(x)); e != api.OK {
		return "", e
	}
	class := 0
	for _, limit := range s.Limits {
		if order, _ := grid.Order(limit, x); order <= 0 {
			class++
		}
	}
	return s.Names[class], api.OK
}
