"""The calls: each takes whole numbers and gives back a list of whole numbers."""

REFUSED = -2
NONE_THERE = -5
GREATEST = 1000000000
MOST_STEPS = 64
GREATEST_START = 1000000
GREATEST_EXPONENT = 1024
GREATEST_SUM = 1000000
MOST_TIMES = 5

RICH = 2
JUST = 1
NEITHER = 0


def total(n):
    """0, then all that divides n, together; or the refusal alone."""
    if not in_range(n, 1, GREATEST):
        return [REFUSED]
    return [0, total_of(n)]


def kind(n):
    """2 if n is rich, 1 if it's just, else 0; or the refusal."""
    if not in_range(n, 1, GREATEST):
        return [REFUSED]
    return [kind_of(n)]


def chain(n, k):
    """How many steps there are from n on, up to k, then what each leads to; or the refusal alone."""
    if not in_range(n, 1, GREATEST) or not in_range(k, 0, MOST_STEPS):
        return [REFUSED]
    led_to = steps_from(n, k)
    return [len(led_to)] + led_to


def round_of(n):
    """The least number of steps, up to 64, by which n leads to n, or -5; or the refusal."""
    if not in_range(n, 1, GREATEST):
        return [REFUSED]
    led_to = steps_from(n, MOST_STEPS)
    if n not in led_to:
        return [NONE_THERE]
    return [led_to.index(n) + 1]


def next_rich(n, odd):
    """The least rich number greater than n, or, if odd is 1, the least odd one; or the refusal."""
    if not in_range(n, 0, GREATEST_START) or not in_range(odd, 0, 1):
        return [REFUSED]
    if odd == 1:
        return [first_rich(following_odd(n), 2)]
    return [first_rich(n + 1, 1)]


def power(p):
    """1 if 2 to the p, less 1, is a prime, else 0; or the refusal."""
    if not in_range(p, 1, GREATEST_EXPONENT):
        return [REFUSED]
    if gives_prime(p):
        return [1]
    return [0]


def two(n):
    """The least rich a for which n - a is rich, too, and no less than a, or -5; or the refusal."""
    if not in_range(n, 1, GREATEST_SUM):
        return [REFUSED]
    return [lesser_rich_part(n)]


def times(k):
    """The least number whose total is at least k times itself; or the refusal."""
    if not in_range(k, 1, MOST_TIMES):
        return [REFUSED]
    return [least_with_times(k)]


def in_range(number, least, greatest):
    return least <= number <= greatest


def total_of(n):
    """All that divides n, together, for any n from 1 on."""
    # The total of a product of powers of different primes is the product of their totals.
    product = 1
    left = n
    factor = 2
    while factor * factor <= left:
        power_total = 1
        while left % factor == 0:
            left = left // factor
            power_total = power_total * factor + 1
        product = product * power_total
        factor = following_factor(factor)
    # No factor up to its root is left in it, so what is left is 1 or a prime.
    if left > 1:
        product = product * (left + 1)
    return product


def following_factor(factor):
    # Even factors but 2 can't divide what is left, since 2 itself was taken out.
    if factor == 2:
        return 3
    return factor + 2


def kind_of(n):
    """Whether n, from 1 on, is rich, just or neither."""
    found = total_of(n)
    if found > 2 * n:
        return RICH
    if found == 2 * n:
        return JUST
    return NEITHER


def steps_from(n, most):
    """What each step from n on leads to, in order: as many as there are, up to most."""
    led_to = []
    reached = n
    while len(led_to) < most and has_step(reached):
        reached = rest_of(reached)
        led_to.append(reached)
    return led_to


def has_step(n):
    return in_range(n, 1, GREATEST)


def rest_of(n):
    return total_of(n) - n


def following_odd(n):
    return n + 1 + n % 2


def first_rich(start, gap):
    """The first rich number of start, start + gap, start + 2 * gap and so on, for a gap of 1 or 2."""
    # It ends: 945 is rich, so each multiple of it is, and every second one of them is odd.
    found = start
    while kind_of(found) != RICH:
        found = found + gap
    return found


def gives_prime(p):
    """Whether 2 to the p, less 1, is a prime, for any p from 1 on."""
    # Where a divides p, 2 to the a, less 1, divides 2 to the p, less 1: so p must be a prime itself.
    if not is_prime(p):
        return False
    # Lucas and Lehmer's row tells of odd primes alone.
    if p == 2:
        return True
    return lucas_lehmer_last(p) == 0


def is_prime(n):
    # Only 1 and itself divide a prime; 1 has a total of 1.
    return total_of(n) == n + 1


def lucas_lehmer_last(p):
    """The last of Lucas and Lehmer's row for p, an odd prime: 0 if 2 to the p, less 1, is a prime, and only then."""
    modulus = two_to(p) - 1
    last = 4
    for turn in range(p - 2):
        last = (last * last - 2) % modulus
    return last


def two_to(exponent):
    product = 1
    for turn in range(exponent):
        product = product * 2
    return product


def lesser_rich_part(n):
    """The lesser of the two rich numbers that are n together, as little as it can be; -5 if no two are."""
    part = first_rich(1, 1)
    while part <= n - part:
        if kind_of(n - part) == RICH:
            return part
        part = first_rich(part + 1, 1)
    return NONE_THERE


def least_with_times(k):
    """The least number whose total is at least k times itself, for any k from 1 on."""
    # It ends: measured by the number, the totals of 2, 2 * 3, 2 * 3 * 5 and so on pass every bound.
    limit = 1
    found = with_times_up_to(k, limit)
    while len(found) == 0:
        limit = limit * 2
        found = with_times_up_to(k, limit)
    return min(found)


def with_times_up_to(k, limit):
    """Those up to limit whose total is at least k times themselves, of the numbers that may be the least such."""
    return [n for n in falling_up_to(limit) if total_of(n) >= k * n]


def falling_up_to(limit):
    """All numbers up to limit made of the first primes alone, none of them more often than a lesser one."""
    # The least number whose total is at least k times itself is one of these: in any other, put a lesser prime that
    # isn't there for a greater one, or let two primes change places where the greater stands more often. Either
    # makes the number less, and its total, measured by the number, greater.
    falling = [1]
    for beginning in beginnings_up_to(limit):
        grown = []
        for start in falling:
            product = start
            while product <= limit:
                grown.append(product)
                product = product * beginning
        falling = grown
    return falling


def beginnings_up_to(limit):
    """2, 2 * 3, 2 * 3 * 5 and so on: the products of the first primes, up to limit."""
    beginnings = []
    prime = 2
    product = prime
    while product <= limit:
        beginnings.append(product)
        prime = following_prime(prime)
        product = product * prime
    return beginnings


def following_prime(n):
    found = n + 1
    while not is_prime(found):
        found = found + 1
    return found
