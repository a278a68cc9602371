"""Intervals, exactly.

An interval is a list of five whole numbers a, b, c, e, d. It stands for the ratio
2^(a/d) times 3^(b/d) times 5^(c/d) times 7^(e/d). Every answer is a new list of whole numbers.
"""

BASES = (2, 3, 5, 7)
NUMBERS_OF_AN_INTERVAL = 5
GREATEST_POWER = 99
GREATEST_D = 24
MOST_PARTS = 1200
MOST_TO_CHOOSE_FROM = 256

MOST_BYTES = 64
MOST_DIGITS = 4
BLANK = 32
MINUS = 45
SLASH = 47
ZERO = 48
ONE = 49
NINE = 57
CARET = 94


def greatest_divisor(m, n):
    """The greatest whole number that divides both; 0 if both are 0."""
    larger = abs(m)
    smaller = abs(n)
    while smaller != 0:
        rest = larger % smaller
        larger = smaller
        smaller = rest
    return larger


def common_factor(numbers):
    """The greatest whole number that divides them all; 0 if all are 0."""
    factor = 0
    for number in numbers:
        factor = greatest_divisor(factor, number)
    return factor


def in_ranges(five):
    """Whether four powers and d, five numbers in all, are as large as an interval's may be."""
    for power in five[:4]:
        if abs(power) > GREATEST_POWER:
            return False
    return 1 <= five[4] <= GREATEST_D


def has_interval_form(x):
    """Whether a list of whole numbers is an interval."""
    return len(x) == NUMBERS_OF_AN_INTERVAL and in_ranges(x) and common_factor(x) == 1


def is_interval(x):
    """[1] if x is an interval, else [0]."""
    return [1 if has_interval_form(x) else 0]


def lowest_terms(five):
    """1 and the five numbers of the interval that is the ratio told by five, d from 1 on; [0] if there is none."""
    factor = common_factor(five)
    # The ranges hold for the lowest terms alone: 198/2 is the power 99, which may be.
    lowest = [number // factor for number in five]
    if not in_ranges(lowest):
        return [0]
    return [1] + lowest


def of(a, b, c, e, d):
    """1 and the five numbers of the interval that is this ratio, or [0] if there is none."""
    if d < 1:
        return [0]
    return lowest_terms([a, b, c, e, d])


def both_intervals(x, y):
    """Whether two lists of whole numbers are both intervals."""
    return has_interval_form(x) and has_interval_form(y)


def product(x, y):
    """Five numbers that tell x's ratio times y's, in whatever terms and of whatever size."""
    return [x[k] * y[4] + y[k] * x[4] for k in range(4)] + [x[4] * y[4]]


def quotient(x, y):
    """Five numbers that tell x's ratio by y's, in whatever terms and of whatever size."""
    return [x[k] * y[4] - y[k] * x[4] for k in range(4)] + [x[4] * y[4]]


def add(x, y):
    """1 and the five numbers of x's ratio times y's, or [0] if there is no such interval."""
    if not both_intervals(x, y):
        return [0]
    return lowest_terms(product(x, y))


def sub(x, y):
    """1 and the five numbers of x's ratio by y's, or [0] if there is no such interval."""
    if not both_intervals(x, y):
        return [0]
    return lowest_terms(quotient(x, y))


def times(n, x):
    """1 and the five numbers of x's ratio to the power n, or [0] if there is no such interval."""
    if not has_interval_form(x):
        return [0]
    return lowest_terms([n * x[k] for k in range(4)] + [x[4]])


def part(n, x):
    """1 and the five numbers of the interval of which n are x, or [0] if there is none."""
    if n < 1 or not has_interval_form(x):
        return [0]
    return lowest_terms([x[k] for k in range(4)] + [n * x[4]])


def series_bounds(k, scale):
    """Two whole numbers; scale times (1/k + 1/(3 k^3) + 1/(5 k^5) + ..) lies between them. k is from 3 on."""
    total = 0
    odd = 1
    count = 0
    power = scale // k
    while power > 0:
        total = total + power // odd
        odd = odd + 2
        count = count + 1
        power = power // (k * k)
    # Each summand was cut by less than 1, and what comes behind the last is less than 1 altogether.
    return [total, total + count + 1]


def logarithm_bounds(weights, scale):
    """Two whole numbers; scale times half the logarithm of 2^w (3/2)^x (5/4)^y (8/7)^z lies between them."""
    low = 0
    high = 0
    # Twice the series of k is the logarithm of (k + 1)/(k - 1).
    for weight, k in zip(weights, (3, 5, 9, 15)):
        bounds = series_bounds(k, scale)
        low = low + weight * (bounds[0] if weight > 0 else bounds[1])
        high = high + weight * (bounds[1] if weight > 0 else bounds[0])
    return [low, high]


def side_of_unison(five):
    """-1, 0 or 1: whether the ratio that five tells is below 1, just 1 or above it. d counts for nothing here."""
    # 2, 3, 5 and 7 are primes, so whole powers of them make 1 in no other way than this.
    if five[:4] == [0, 0, 0, 0]:
        return 0
    # 3 is 2 times 3/2, 5 is 4 times 5/4, and 7 is 8 by 8/7.
    weights = [five[0] + five[1] + 2 * five[2] + 3 * five[3], five[1], five[2], -five[3]]
    scale = 2 ** 32
    bounds = logarithm_bounds(weights, scale)
    # Only bounds on one side of 0 decide. As the ratio isn't 1, finer ones come to lie so.
    while bounds[0] <= 0 <= bounds[1]:
        scale = scale * scale
        bounds = logarithm_bounds(weights, scale)
    return 1 if bounds[0] > 0 else -1


def order(x, y):
    """[0] if x is narrower than y, [1] if they are the same, [2] if x is wider; [-1] if one is no interval."""
    if not both_intervals(x, y):
        return [-1]
    return [1 + side_of_unison(quotient(x, y))]


def whole_parts(n, x):
    """The greatest whole number m such that m of n equal parts of an octave don't go beyond the interval x."""
    # 3 is less than 4, and 5 and 7 are less than 8: no interval is as wide as this many octaves.
    widest = (1 + 2 + 3 + 3) * GREATEST_POWER
    fitting = -widest * n
    beyond = widest * n
    while beyond - fitting > 1:
        middle = (fitting + beyond) // 2
        if side_of_unison(quotient(x, [middle, 0, 0, 0, n])) < 0:
            beyond = middle
        else:
            fitting = middle
    return fitting


def parts(n, x):
    """0 and how many n-th parts of an octave don't go beyond x; [-1] if n isn't from 1 to 1200 or x is no interval."""
    if not 1 <= n <= MOST_PARTS or not has_interval_form(x):
        return [-1]
    return [0, whole_parts(n, x)]


def within(x):
    """1 and the five numbers of x less so many octaves that it is from 1 to below 2; [0] if there is none."""
    if not has_interval_form(x):
        return [0]
    return lowest_terms(quotient(x, [whole_parts(1, x), 0, 0, 0, 1]))


def distance(x, y):
    """Five numbers that tell what lies between x and y: the one's ratio by the other's, whichever is no less than 1."""
    between = quotient(x, y)
    return between if side_of_unison(between) >= 0 else quotient(y, x)


def all_intervals(lists):
    """Whether each of these lists of whole numbers is an interval."""
    for x in lists:
        if not has_interval_form(x):
            return False
    return True


def near(x, l):
    """The number (from 0) of the first one in l that is nearest to x; [-1] if it is refused."""
    if not 1 <= len(l) <= MOST_TO_CHOOSE_FROM or not has_interval_form(x) or not all_intervals(l):
        return [-1]
    nearest = 0
    least = distance(x, l[0])
    for number, y in enumerate(l):
        between = distance(x, y)
        # Of as near ones the first stays, so only a lesser distance counts.
        if side_of_unison(quotient(between, least)) < 0:
            nearest = number
            least = between
    return [nearest]


def factor_text(base, power, d):
    """The text of base to the power of power/d, which isn't 0."""
    divisor = greatest_divisor(power, d)
    top = power // divisor
    bottom = d // divisor
    if bottom > 1:
        return f"{base}^{top}/{bottom}"
    return f"{base}^{top}" if top != 1 else f"{base}"


def interval_text(x):
    """The text of an interval."""
    factors = [factor_text(base, power, x[4]) for base, power in zip(BASES, x) if power != 0]
    return " ".join(factors) if len(factors) > 0 else "1"


def print_text(x):
    """How many bytes the text of x has, then these; [-1] if x is no interval."""
    if not has_interval_form(x):
        return [-1]
    text = interval_text(x)
    return [len(text)] + [ord(sign) for sign in text]


def byte_at(t, place):
    """The byte at this place of t, or -1, which is no byte, if t has no more."""
    return t[place] if place < len(t) else -1


def digit_at(t, place):
    """Whether a decimal digit stands at this place of t."""
    return ZERO <= byte_at(t, place) <= NINE


def read_digits(t, place):
    """1, the place behind the digits that begin here, and their number; or 0 and the place of the fault."""
    end = place
    number = 0
    while digit_at(t, end) and end - place < MOST_DIGITS and (end == place or number > 0):
        number = 10 * number + t[end] - ZERO
        end = end + 1
    # A digit that's left is one too many, or stands behind a 0 that begins the number.
    if end == place or digit_at(t, end):
        return [0, end]
    return [1, end, number]


def read_whole(t, place):
    """Like read_digits, but a minus sign may stand in front, though not of a 0."""
    if byte_at(t, place) != MINUS:
        return read_digits(t, place)
    if byte_at(t, place + 1) == ZERO:
        return [0, place + 1]
    told = read_digits(t, place + 1)
    return [1, told[1], -told[2]] if told[0] == 1 else told


def read_power(t, place):
    """1, the place behind the power that begins here, and the one number or two that tell it; or 0 and the fault."""
    top = read_whole(t, place)
    if top[0] == 0 or byte_at(t, top[1]) != SLASH:
        return top
    bottom = read_digits(t, top[1] + 1)
    return [1, bottom[1], top[2], bottom[2]] if bottom[0] == 1 else bottom


def rightly_told(power):
    """Whether a power, one number or two, is told as it must be: not 0 nor 1, a fraction in lowest terms."""
    if len(power) == 1:
        return power[0] != 0 and power[0] != 1
    return power[1] >= 2 and greatest_divisor(power[0], power[1]) == 1


def read_factor(t, place):
    """1, the place behind the factor that begins here, and its power's one number or two; or 0 and the fault."""
    if byte_at(t, place) - ZERO not in BASES:
        return [0, place]
    if byte_at(t, place + 1) != CARET:
        return [1, place + 1, 1]
    told = read_power(t, place + 2)
    if told[0] == 1 and not rightly_told(told[2:]):
        return [0, place]
    return told


def read_factors(t):
    """1 and five numbers that tell the ratio of all the factors, in whatever terms; or 0 and the fault."""
    five = [0, 0, 0, 0, 1]
    place = 0
    last = 0
    while True:
        factor = read_factor(t, place)
        if factor[0] == 0:
            return factor
        base = t[place] - ZERO
        if base <= last:
            return [0, place]
        power = [0, 0, 0, 0, factor[3] if len(factor) == 4 else 1]
        power[BASES.index(base)] = factor[2]
        five = product(five, power)
        last = base
        place = factor[1]
        if place == len(t):
            return [1] + five
        if t[place] != BLANK:
            return [0, place]
        place = place + 1


def read(t):
    """1 and the five numbers of the interval whose text t is; or 0 and the place where t is at fault."""
    if len(t) > MOST_BYTES:
        return [0, MOST_BYTES]
    if byte_at(t, 0) == ONE:
        return [1, 0, 0, 0, 0, 1] if len(t) == 1 else [0, 1]
    told = read_factors(t)
    if told[0] == 0:
        return told
    answer = lowest_terms(told[1:])
    return answer if answer[0] == 1 else [0, len(t)]
