package place

import (
	"math"

	"ignition/api"
)

// least returns what the tasks that are left add at least to the bound of a beginning, if each of them may go somewhere.
func (c *chart) least(b beginning) int {
	talks, price := c.owed[b.placed], 0
	for task := b.placed; task < len(c.Tasks); task++ {
		talks += c.leastTalks(b, task)
		if b.may[task]&b.used == 0 {
			price = max(price, c.leastPrice(b.may[task]))
		}
	}
	return talks + price
}

// leastTalks returns what the talks of a task that is left with those that are placed cost at least.
func (c *chart) leastTalks(b beginning, task int) int {
	var costs [api.MaxHosts]int
	for earlier, weight := range c.weight[task][:b.placed] {
		if weight == 0 { // as of most pairs of tasks
			continue
		}
		for host, times := range c.times[b.hosts[earlier]] {
			costs[host] += weight * times
		}
	}
	least := math.MaxInt
	for host, cost := range costs {
		if b.may[task].has(host) {
			least = min(least, cost)
		}
	}
	return least
}

// leastPrice returns the lowest price of some hosts.
func (c *chart) leastPrice(hosts set) int {
	least := math.MaxInt
	for i, host := range c.Hosts {
		if hosts.has(i) {
			least = min(least, host.Price)
		}
	}
	return least
}

// leastTimes returns how often the weight between two tasks counts at least, wherever they may go.
func (c *chart) leastTimes(earlier, later int) int {
	least := 2
	for i := range c.Hosts {
		for k := range c.Hosts {
			if c.may[earlier].has(i) && (c.may[later] & c.lets[earlier][i][later]).has(k) {
				least = min(least, c.times[i][k])
			}
		}
	}
	return least
}
