"""The calls: each takes whole numbers and gives back a list of whole numbers."""

REFUSED = -2
GREATEST = 1000000000

RICH = 2
JUST = 1
NEITHER = 0


def total(n):
    """0, then all that divides n, together; or the refusal alone."""
    if not in_range(n, 1, GREATEST):
        return [REFUSED]
    return [0, total_of(n)]


def kind(n):
    """2 if n is rich, 1 if it's just, else 0; or the refusal."""
    if not in_range(n, 1, GREATEST):
        return [REFUSED]
    return [kind_of(n)]


def in_range(number, least, greatest):
    return least <= number <= greatest


def total_of(n):
    """All that divides n, together, for any n from 1 on."""
    # The total of a product of powers of different primes is the product of their totals.
    product = 1
    left = n
    factor = 2
    while factor * factor <= left:
        power_total = 1
        while left % factor == 0:
            left = left // factor
            power_total = power_total * factor + 1
        product = product * power_total
        factor = following_factor(factor)
    # No factor up to its root is left in it, so what is left is 1 or a prime.
    if left > 1:
        product = product * (left + 1)
    return product


def following_factor(factor):
    # Even factors but 2 can't divide what is left, since 2 itself was taken out.
    if factor == 2:
        return 3
    return factor + 2


def kind_of(n):
    """Whether n, from 1 on, is rich, just or neither."""
    found = total_of(n)
    if found > 2 * n:
        return RICH
    if found == 2 * n:
        return JUST
    return NEITHER
