"""Intervals, exactly.

An interval is a list of five whole numbers a, b, c, e, d. It stands for the ratio
2^(a/d) times 3^(b/d) times 5^(c/d) times 7^(e/d). Every answer is a new list of whole numbers.
"""

NUMBERS_OF_AN_INTERVAL = 5
GREATEST_POWER = 99
GREATEST_D = 24


def greatest_divisor(m, n):
    """The greatest whole number that divides both; 0 if both are 0."""
    larger = abs(m)
    smaller = abs(n)
    while smaller != 0:
        rest = larger % smaller
        larger = smaller
        smaller = rest
    return larger


def common_factor(numbers):
    """The greatest whole number that divides them all; 0 if all are 0."""
    factor = 0
    for number in numbers:
        factor = greatest_divisor(factor, number)
    return factor


def in_ranges(five):
    """Whether four powers and d, five numbers in all, are as large as an interval's may be."""
    for power in five[:4]:
        if abs(power) > GREATEST_POWER:
            return False
    return 1 <= five[4] <= GREATEST_D


def has_interval_form(x):
    """Whether a list of whole numbers is an interval."""
    return len(x) == NUMBERS_OF_AN_INTERVAL and in_ranges(x) and common_factor(x) == 1


def is_interval(x):
    """[1] if x is an interval, else [0]."""
    return [1 if has_interval_form(x) else 0]


def lowest_terms(five):
    """1 and the five numbers of the interval that is the ratio told by five, d from 1 on; [0] if there is none."""
    factor = common_factor(five)
    # The ranges hold for the lowest terms alone: 198/2 is the power 99, which may be.
    lowest = [number // factor for number in five]
    if not in_ranges(lowest):
        return [0]
    return [1] + lowest


def of(a, b, c, e, d):
    """1 and the five numbers of the interval that is this ratio, or [0] if there is none."""
    if d < 1:
        return [0]
    return lowest_terms([a, b, c, e, d])


def both_intervals(x, y):
    """Whether two lists of whole numbers are both intervals."""
    return has_interval_form(x) and has_interval_form(y)


def product(x, y):
    """Five numbers that tell x's ratio times y's, in whatever terms and of whatever size."""
    return [x[k] * y[4] + y[k] * x[4] for k in range(4)] + [x[4] * y[4]]


def quotient(x, y):
    """Five numbers that tell x's ratio by y's, in whatever terms and of whatever size."""
    return [x[k] * y[4] - y[k] * x[4] for k in range(4)] + [x[4] * y[4]]


def add(x, y):
    """1 and the five numbers of x's ratio times y's, or [0] if there is no such interval."""
    if not both_intervals(x, y):
        return [0]
    return lowest_terms(product(x, y))


def sub(x, y):
    """1 and the five numbers of x's ratio by y's, or [0] if there is no such interval."""
    if not both_intervals(x, y):
        return [0]
    return lowest_terms(quotient(x, y))


def times(n, x):
    """1 and the five numbers of x's ratio to the power n, or [0] if there is no such interval."""
    if not has_interval_form(x):
        return [0]
    return lowest_terms([n * x[k] for k in range(4)] + [x[4]])


def part(n, x):
    """1 and the five numbers of the interval of which n are x, or [0] if there is none."""
    if n < 1 or not has_interval_form(x):
        return [0]
    return lowest_terms([x[k] for k in range(4)] + [n * x[4]])
