package hose

import "forecourt/api"

// pairing is litres that steps take out of a tank, paired with litres that later
// steps put into it.
type pairing struct {
	gauge
	paired [api.MaxHoseSteps][api.MaxHoseSteps]int64 // by Gone and Come
	left   [api.MaxHoseSteps]int64                   // litres of each step that are in no pair
}

// pairingOf returns a pairing without pairs.
func pairingOf(g gauge) *pairing {
	p := &pairing{gauge: g}
	for step, s := range g.Steps {
		if s.Tank == g.tank {
			p.left[step] = max(s.Change, -s.Change)
		}
	}
	return p
}

// takes and puts report whether a step takes litres out of the tank, or puts some into it.
func (p *pairing) takes(step int) bool {
	return p.Steps[step].Tank == p.tank && p.Steps[step].Change < 0
}
func (p *pairing) puts(step int) bool {
	return p.Steps[step].Tank == p.tank && p.Steps[step].Change > 0
}

// pairable reports whether litres of two steps can be paired.
func (p *pairing) pairable(gone, come int) bool {
	return p.takes(gone) && p.puts(come) && p.before[come].has(gone)
}

// add adds a pair, or reports that it would not be right.
func (p *pairing) add(x api.HosePair) bool {
	if !p.pairable(x.Gone, x.Come) || x.Litres > min(p.left[x.Gone], p.left[x.Come]) {
		return false
	}
	p.paired[x.Gone][x.Come] += x.Litres
	p.left[x.Gone] -= x.Litres
	p.left[x.Come] -= x.Litres
	return true
}

// bound returns the bound of the pairs: what is put into the tank and is in no pair counts.
func (p *pairing) bound() int64 {
	litres := p.Start[p.tank]
	for step := range p.Steps {
		if p.puts(step) {
			litres += p.left[step]
		}
	}
	return litres
}

// leads reports whether litres of a step can be paired with another one, or whether
// litres that are paired with it can be set free for another pair.
func (p *pairing) leads(from, to int) bool {
	return p.pairable(from, to) || p.paired[to][from] > 0
}

// chain returns a shortest list of steps from one that takes out litres that are in no
// pair to one that puts in such litres, in which each step leads to the next one. If
// there is none, it returns an empty list, and no pairs have more litres.
func (p *pairing) chain() []int {
	var chains [][]int
	var seen bits
	for step := range p.Steps {
		if p.takes(step) && p.left[step] > 0 {
			chains = append(chains, []int{step})
			seen |= bitsOf(step)
		}
	}
	var found []int
search:
	for i := 0; i < len(chains); i++ {
		chain := chains[i]
		for next := range p.Steps {
			if seen.has(next) || !p.leads(chain[len(chain)-1], next) {
				continue
			}
			seen |= bitsOf(next)
			// The third index keeps chains with the same beginning apart.
			longer := append(chain[:len(chain):len(chain)], next)
			if p.puts(next) && p.left[next] > 0 {
				found = longer
				break search
			}
			chains = append(chains, longer)
		}
	}
	return found
}

// room returns how many litres can be paired by a chain.
func (p *pairing) room(chain []int) int64 {
	litres := min(p.left[chain[0]], p.left[chain[len(chain)-1]])
	for i := 2; i < len(chain); i += 2 {
		litres = min(litres, p.paired[chain[i]][chain[i-1]])
	}
	return litres
}

// extend pairs so many litres more by a chain: each second step of it puts in litres, which
// are paired with the step before it, and no longer with the one behind it.
func (p *pairing) extend(chain []int, litres int64) {
	for i := 1; i < len(chain); i += 2 {
		p.paired[chain[i-1]][chain[i]] += litres
	}
	for i := 2; i < len(chain); i += 2 {
		p.paired[chain[i]][chain[i-1]] -= litres
	}
	p.left[chain[0]] -= litres
	p.left[chain[len(chain)-1]] -= litres
}

// fill pairs as many litres as can be.
func (p *pairing) fill() {
	for chain := p.chain(); len(chain) > 0; chain = p.chain() {
		p.extend(chain, p.room(chain))
	}
}

// list returns the pairs.
func (p *pairing) list() []api.HosePair {
	var list []api.HosePair
	for gone := range p.Steps {
		for come := range p.Steps {
			if litres := p.paired[gone][come]; litres > 0 {
				list = append(list, api.HosePair{Gone: gone, Come: come, Litres: litres})
			}
		}
	}
	return list
}
