"""Totals, steps, rich numbers and primes found in plain ways, to hold the program's answers against."""

import math


def counted_total(n):
    return sum(d for d in range(1, n + 1) if n % d == 0)


def paired_total(n):
    """As counted_total, for great n too: each divisor up to the root brings the one that it leaves."""
    lesser = [d for d in range(1, math.isqrt(n) + 1) if n % d == 0]
    return sum(set(lesser) | {n // d for d in lesser})


def totals_up_to(last):
    """A list whose entry n is n's total, for n from 1 to last."""
    totals = [0] * (last + 1)
    for d in range(1, last + 1):
        for multiple in range(d, last + 1, d):
            totals[multiple] += d
    return totals


def totals_between(first, last):
    """A dict from each n, first to last, to its total: divisors taken in pairs, the lesser up to the root."""
    totals = {n: 0 for n in range(first, last + 1)}
    d = 1
    while d * d <= last:
        start = max(d * d, (first + d - 1) // d * d)
        for n in range(start, last + 1, d):
            totals[n] += d
            if n != d * d:
                totals[n] += n // d
        d += 1
    return totals


def plain_kind(n, its_total):
    if its_total > 2 * n:
        return 2
    return 1 if its_total == 2 * n else 0


def is_prime(n):
    if n < 2:
        return False
    d = 2
    while d * d <= n:
        if n % d == 0:
            return False
        d += 1
    return True


def counted_steps(n, k, total=paired_total):
    """What each of up to k steps from n on leads to."""
    led_to = []
    for i in range(k):
        if n == 0 or n > 1000000000:
            break
        n = total(n) - n
        led_to.append(n)
    return led_to


def counted_round(n, total=paired_total):
    """The least number of steps, 1 to 64, that lead from n to n, or -5."""
    led_to = counted_steps(n, 64, total)
    return min((i + 1 for i, reached in enumerate(led_to) if reached == n), default=-5)


def counted_next(n, odd, total=paired_total):
    """The least rich number greater than n; if odd is 1, the least odd one."""
    while True:
        n += 1
        if (odd == 0 or n % 2 == 1) and total(n) > 2 * n:
            return n


def shown_composite(n, base):
    """Whether Miller's test to this base shows that odd n is no prime; of a prime, it never does."""
    halvings, odd_part = 0, n - 1
    while odd_part % 2 == 0:
        halvings, odd_part = halvings + 1, odd_part // 2
    reached = pow(base, odd_part, n)
    if reached in (1, n - 1):
        return False
    for i in range(halvings - 1):
        reached = reached * reached % n
        if reached == n - 1:
            return False
    return True


def first_two(n, rich):
    """The least rich a for which n - a is rich, too, and no less than a, or -5; rich says of each number if it is."""
    return next((a for a in range(1, n // 2 + 1) if rich[a] and rich[n - a]), -5)


def all_with_times(k, limit, n=1, its_total=1, least_prime=2):
    """All n * m up to limit with a total of at least k times themselves, where m holds primes from least_prime on.

    It leaves out only what can't reach k times: by each prime q, measured by the number, the total grows by less than
    q / (q - 1), and the primes of m, together, are at most limit // n.
    """
    found = [n] if its_total >= k * n else []
    p = least_prime
    while n * p <= limit and may_reach(k, limit, n, its_total, p):
        if is_prime(p):
            held, power_total = n * p, p + 1
            while held <= limit:
                found += all_with_times(k, limit, held, its_total * power_total, p + 1)
                held, power_total = held * p, power_total * p + 1
        p += 1
    return found


def may_reach(k, limit, n, its_total, least_prime):
    above, below, held, q = its_total, n, n, least_prime
    while held * q <= limit:
        if is_prime(q):
            above, below, held = above * q, below * (q - 1), held * q
        q += 1
    return above >= k * below
